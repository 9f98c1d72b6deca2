import Derived.Test.YtobbfhkodccclaaMd
import Derived.Test.YtobbfhkodccclaaChecked
import Derived.Deep.Slices
import Derived.Deep.Fields
import Derived.ChangeSame
set_option linter.all false
/-! Sorting: swaps,what is put in another order,heaps (no program in it). -/
namespace Go.Ax
section
variable {β:Type}
def upd (g:Nat→β) (k:Nat) (v:β):Nat→β:=fun x=>if x=k then v else g x
def swp (g:Nat→β) (i j:Nat):Nat→β:=upd (upd g i (g j)) j (g i)
theorem V3 (g:Nat→β) (i j k:Nat):swp g i j k=if k=j then g i else if k=i then g j else g k:=rfl
theorem Un {g:Nat→β} {i j:Nat}:swp g i j i=g j:=by
 rw [V3];by_cases h:i=j
 ·rw [if_pos h,h]
 ·rw [if_neg h,if_pos rfl]
theorem jp {g:Nat→β} {i j:Nat}:swp g i j j=g i:=by rw [V3,if_pos rfl]
theorem Wk {g:Nat→β} {i j k:Nat} (h1:k≠i) (h2:k≠j):swp g i j k=g k:=by rw [V3,if_neg h2,if_neg h1]
theorem Zei {g:Nat→β} {i:Nat}:swp g i i=g:=by
 funext k;rw [V3];by_cases h:k=i
 ·rw [if_pos h,h]
 ·rw [if_neg h,if_neg h]
theorem Zej {g:Nat→β} {i j:Nat}:swp g i j=swp g j i:=by
 funext k;rw [V3,V3];by_cases h:k=j
 ·by_cases h2:k=i
  ·rw [if_pos h,if_pos h2,← h,← h2]
  ·rw [if_pos h,if_neg h2,if_pos h]
 ·by_cases h2:k=i
  ·rw [if_neg h,if_pos h2,if_pos h2]
  ·rw [if_neg h,if_neg h2,if_neg h2,if_neg h]
def rg (g:Nat→β) (a b:Nat):List β:=(List.range' a (b - a)).map g
theorem UV {g:Nat→β} {a m b:Nat} (h1:a≤m) (h2:m≤b):rg g a b=rg g a m ++ rg g m b:=by
 unfold rg
 rw [← List.map_append]
 congr 1
 have:b - a=(m - a)+(b - m):=by omega
 rw [this,← List.range'_append_1,show a+(m - a)=m by omega]
theorem Zc7 {g g':Nat→β} {a b:Nat} (h:∀ i,a≤i→i < b→g' i=g i):rg g' a b=rg g a b:=by
 unfold rg
 refine List.map_congr_left fun i hi=>?_
 rw [List.mem_range'_1] at hi
 exact h i hi.1 (by omega)
theorem Zau {g:Nat→β} {a b:Nat}:(rg g a b).length=b - a:=by simp [rg]
theorem Zeu {g:Nat→β} {a b:Nat} {x:β}:x∈rg g a b↔∃ i,a≤i∧i < b∧g i=x:=by
 unfold rg
 rw [List.mem_map]
 constructor
 ·rintro ⟨i,hi,e⟩;rw [List.mem_range'_1] at hi;exact ⟨i,hi.1,by omega,e⟩
 ·rintro ⟨i,h1,h2,e⟩;exact ⟨i,List.mem_range'_1.2 ⟨h1,by omega⟩,e⟩
theorem qr {g:Nat→β} {a:Nat}:rg g a (a+1)=[g a]:=by
 unfold rg;rw [show a+1 - a=1 by omega];rfl
structure PRm (a b:Nat) (g g':Nat→β):Prop where
 out:∀ i,(i < a∨b≤i)→g' i=g i
 perm:(rg g' a b).Perm (rg g a b)
theorem PRm.refl (a b:Nat) (g:Nat→β):PRm a b g g:=⟨fun _ _=>rfl,.refl _⟩
theorem PRm.trans {a b:Nat} {g g' g'':Nat→β} (h:PRm a b g g') (k:PRm a b g' g''):PRm a b g g'':=⟨fun i hi=>(k.out i hi).trans (h.out i hi),k.perm.trans h.perm⟩
theorem PRm.mem {a b:Nat} {g g':Nat→β} (h:PRm a b g g') {i:Nat} (h1:a≤i) (h2:i < b):∃ j,a≤j∧j < b∧g' i=g j:=by
 have:g' i∈rg g a b:=h.perm.mem_iff.1 (Zeu.2 ⟨i,h1,h2,rfl⟩)
 obtain ⟨j,a1,a2,e⟩:=Zeu.1 this
 exact ⟨j,a1,a2,e.symm⟩
theorem PRm.mono {a b a' b':Nat} {g g':Nat→β} (h:PRm a b g g') (ha:a'≤a) (hab:a≤b) (hb:b≤b'):PRm a' b' g g':=by
 refine ⟨fun i hi=>h.out i (by omega),?_⟩
 rw [UV (m:=a) ha (by omega),UV (g:=g) (m:=a) ha (by omega),UV (a:=a) (m:=b) hab hb,UV (g:=g) (a:=a) (m:=b) hab hb]
 rw [Zc7 (g:=g) (g':=g') (a:=a') (fun i _ hi=>h.out i (.inl hi)),Zc7 (g:=g) (g':=g') (a:=b) (fun i hi _=>h.out i (.inr hi))]
 exact List.Perm.append_left _ (List.Perm.append_right _ h.perm)
theorem PRm.swap_lt {i j:Nat} {g:Nat→β} (h:i < j):PRm i (j+1) g (swp g i j):=by
 refine ⟨fun k hk=>Wk (by omega) (by omega),?_⟩
 rw [UV (m:=i+1) (by omega) (by omega),UV (g:=g) (m:=i+1) (by omega) (by omega),UV (a:=i+1) (m:=j) (by omega) (by omega),UV (g:=g) (a:=i+1) (m:=j) (by omega) (by omega)]
 rw [qr,qr,qr,qr,Un,jp,Zc7 (g:=g) (g':=swp g i j) (a:=i+1) (fun k h1 h2=>Wk (by omega) (by omega))]
 generalize rg g (i+1) j=m
 have e1:([g j] ++ (m ++ [g i])).Perm (m ++ [g i] ++ [g j]):=List.perm_append_comm
 have e2:([g i] ++ (m ++ [g j])).Perm (m ++ [g j] ++ [g i]):=List.perm_append_comm
 refine e1.trans (List.Perm.trans ?_ e2.symm)
 rw [List.append_assoc,List.append_assoc]
 exact List.Perm.append_left _ (List.Perm.swap _ _ [])
theorem PRm.swap {a b i j:Nat} {g:Nat→β} (h1:a≤i) (h2:i < b) (h3:a≤j) (h4:j < b):PRm a b g (swp g i j):=by
 rcases Nat.lt_trichotomy i j with h | h | h
 ·exact (PRm.swap_lt h).mono h1 (by omega) (by omega)
 ·subst h;rw [Zei];exact .refl _ _ _
 ·rw [Zej];exact (PRm.swap_lt h).mono h3 (by omega) (by omega)
section
variable (r:β→Int)
def Ord (A B a b:Nat) (g:Nat→β):Prop:=∀ i j,A≤i→i≤j→j < B→(i < a∨b≤j)→r (g i)≤r (g j)
def Low (a b:Nat) (g:Nat→β):Prop:=∀ i,0 < a→a≤i→i < b→r (g (a - 1))≤r (g i)
def Sor (a b:Nat) (g:Nat→β):Prop:=∀ i j,a≤i→i≤j→j < b→r (g i)≤r (g j)
variable {r} {A B a b:Nat} {g g':Nat→β}
theorem Ord.all (h:Ord r A B a b g) (hs:Sor r a b g):Sor r A B g:=fun i j h1 h2 h3=>by
 by_cases q:i < a∨b≤j
 ·exact h i j h1 h2 h3 q
 ·exact hs i j (by omega) h2 (by omega)
theorem Ord.perm (h:Ord r A B a b g) (p:PRm a b g g') (hA:A≤a) (hB:b≤B):Ord r A B a b g':=by
 intro i j h1 h2 h3 h4
 rcases h4 with h4 | h4
 ·rw [p.out i (.inl h4)]
  by_cases q:j < a∨b≤j
  ·rw [p.out j q];exact h i j h1 h2 h3 (.inl h4)
  ·obtain ⟨k,k1,k2,e⟩:=p.mem (i:=j) (by omega) (by omega)
   rw [e];exact h i k h1 (by omega) (by omega) (.inl h4)
 ·rw [p.out j (.inr h4)]
  by_cases q:i < a∨b≤i
  ·rw [p.out i q];exact h i j h1 h2 h3 (.inr h4)
  ·obtain ⟨k,k1,k2,e⟩:=p.mem (i:=i) (by omega) (by omega)
   rw [e];exact h k j (by omega) (by omega) h3 (.inr h4)
theorem Low.perm (h:Low r a b g) (p:PRm a b g g'):Low r a b g':=by
 intro i h0 h1 h2
 rw [p.out (a - 1) (by omega)]
 obtain ⟨k,k1,k2,e⟩:=p.mem h1 h2
 rw [e];exact h k h0 k1 k2
theorem Ord.low (h:Ord r A B a b g) (h0:Low r A B g) (hA:A≤a) (hB:b≤B):Low r a b g:=by
 intro i q h1 h2
 rcases Nat.lt_or_ge A a with h3 | h3
 ·exact h (a - 1) i (by omega) (by omega) (by omega) (.inl (by omega))
 ·have:A=a:=by omega
  subst this;exact h0 i q h1 (by omega)
def ZiK (r:β→Int) (a b m:Nat) (g:Nat→β):Prop:=(∀ i,a≤i→i < m→r (g i)≤r (g m))∧∀ i,m < i→i < b→r (g m)≤r (g i)
theorem Ord.right {m:Nat} (h:Ord r A B a b g) (p:ZiK r a b m g) (hA:A≤a) (hB:b≤B) (h1:a≤m) (h2:m < b) (hs:Sor r a m g):Ord r A B (m+1) b g:=by
 intro i j q1 q2 q3 q4
 by_cases q:i < a∨b≤j
 ·exact h i j q1 q2 q3 q
 ·have hi:i < m+1:=by omega
  rcases Nat.lt_trichotomy j m with c | c | c
  ·exact hs i j (by omega) q2 c
  ·subst c
   rcases Nat.lt_or_ge i j with d | d
   ·exact p.1 i (by omega) d
   ·have:i=j:=by omega
    rw [this];omega
  ·have x:=p.2 j c (by omega)
   rcases Nat.lt_or_ge i m with d | d
   ·have:=p.1 i (by omega) d;omega
   ·have:i=m:=by omega
    rw [this];exact x
theorem Ord.left {m:Nat} (h:Ord r A B a b g) (p:ZiK r a b m g) (hA:A≤a) (hB:b≤B) (h1:a≤m) (h2:m < b) (hs:Sor r (m+1) b g):Ord r A B a m g:=by
 intro i j q1 q2 q3 q4
 by_cases q:i < a∨b≤j
 ·exact h i j q1 q2 q3 q
 ·have hj:m≤j:=by omega
  rcases Nat.lt_trichotomy i m with c | c | c
  ·have x:=p.1 i (by omega) c
   rcases Nat.lt_or_ge m j with d | d
   ·have:=p.2 j d (by omega);omega
   ·have:j=m:=by omega
    rw [this];exact x
  ·subst c
   rcases Nat.lt_or_ge i j with d | d
   ·exact p.2 j d (by omega)
   ·have:i=j:=by omega
    rw [this];omega
  ·exact hs i j (by omega) q2 (by omega)
theorem Ord.equal {m:Nat} (h:Ord r A B a b g) (hA:A≤a) (hB:b≤B) (hm:m≤b) (hl:∀ i,a≤i→i < m→∀ j,a≤j→j < b→r (g i)≤r (g j)):Ord r A B m b g:=by
 intro i j q1 q2 q3 q4
 by_cases q:i < a∨b≤j
 ·exact h i j q1 q2 q3 q
 ·exact hl i (by omega) (by omega) j (by omega) (by omega)
/-! Heaps. -/
def Hea (r:β→Int) (f lo hi x:Nat) (g:Nat→β):Prop:=∀ i c,lo≤i→(c=2 * i+1∨c=2 * i+2)→c < hi→i≠x→r (g (f+c))≤r (g (f+i))
def Gra (r:β→Int) (f lo hi x:Nat) (g:Nat→β):Prop:=∀ i c,lo≤i→(x=2 * i+1∨x=2 * i+2)→(c=2 * x+1∨c=2 * x+2)→c < hi→r (g (f+c))≤r (g (f+i))
theorem Hea.step {f lo hi x c:Nat} (h:Hea r f lo hi x g) (hg:Gra r f lo hi x g) (hlx:lo≤x) (hc:c=2 * x+1∨c=2 * x+2) (hch:c < hi) (hm:∀ c',(c'=2 * x+1∨c'=2 * x+2)→c' < hi→r (g (f+c'))≤r (g (f+c))) (hx:r (g (f+x))≤r (g (f+c))) :
  Hea r f lo hi c (swp g (f+x) (f+c))∧Gra r f lo hi c (swp g (f+x) (f+c)):=by
 constructor
 ·intro i d h1 h2 h3 h4
  by_cases e1:i=x
  ·subst e1
   rw [Un]
   by_cases e2:d=c
   ·subst e2;rw [jp];exact hx
   ·rw [Wk (by omega) (by omega)];exact hm d h2 h3
  ·rw [Wk (k:=f+i) (by omega) (by omega)]
   by_cases e2:d=x
   ·subst e2;rw [Un];exact hg i c h1 h2 hc hch
   ·rw [Wk (by omega) (by omega)];exact h i d h1 h2 h3 e1
 ·intro i d h1 h2 h3 h4
  have e1:i=x:=by omega
  subst e1
  rw [Un,Wk (by omega) (by omega)]
  exact h c d (by omega) h3 h4 (by omega)
theorem Hea.full {f lo hi x:Nat} (h:Hea r f lo hi x g) (hm:∀ c,(c=2 * x+1∨c=2 * x+2)→c < hi→r (g (f+c))≤r (g (f+x))):∀ i c,lo≤i→(c=2 * i+1∨c=2 * i+2)→c < hi→r (g (f+c))≤r (g (f+i)):=fun i c h1 h2 h3=>by
 by_cases e:i=x
 ·subst e;exact hm c h2 h3
 ·exact h i c h1 h2 h3 e
def Hp_ (r:β→Int) (f lo hi:Nat) (g:Nat→β):Prop:=∀ i c,lo≤i→(c=2 * i+1∨c=2 * i+2)→c < hi→r (g (f+c))≤r (g (f+i))
theorem Hp_.top {f hi:Nat} (h:Hp_ r f 0 hi g):∀ j,j < hi→r (g (f+j))≤r (g (f+0)):=by
 intro j
 induction j using Nat.strongRecOn with
 | ind j ih=>
  intro hj
  rcases Nat.eq_zero_or_pos j with e | e
  ·subst e;omega
  ·have h1:=ih ((j - 1) / 2) (by omega) (by omega)
   have h2:=h ((j - 1) / 2) j (by omega) (by omega) hj
   omega
end
end
end Go.Ax

/-! Sorting that keeps the order of what has the same key: places as_ names of elements. -/
namespace Go.Ax
open Go Go.RowKit
noncomputable section
def Lk (key:Nat→Int) (x y:Nat):Prop:=key x < key y∨(key x=key y∧x < y)
theorem Lk.trans {key:Nat→Int} {x y z:Nat} (h:Lk key x y) (k:Lk key y z):Lk key x z:=by unfold Lk at *;omega
theorem Lk.of_not {key:Nat→Int} {x y:Nat} (h:¬ key x < key y) (hl:y < x):Lk key y x:=by unfold Lk;omega
theorem Lk.lt {key:Nat→Int} {x y:Nat} (h:key x < key y):Lk key x y:=.inl h
def So (key:Nat→Int) (a b:Nat) (g:Nat→Nat):Prop:=∀ i j,a≤i→i < j→j < b→Lk key (g i) (g j)
def Cr (a m b:Nat) (g:Nat→Nat):Prop:=∀ i j,a≤i→i < m→m≤j→j < b→g i < g j
section
variable {key:Nat→Int} {a b m n:Nat} {g g':Nat→Nat}
theorem So.le (h:So key a b g) {i j:Nat} (h1:a≤i) (h2:i≤j) (h3:j < b):key (g i)≤key (g j):=by
 rcases Nat.lt_or_ge i j with q | q
 ·have:=h i j h1 q h3;unfold Lk at this;omega
 ·rw [show i=j by omega];omega
theorem So.mono (h:So key a b g) {a' b':Nat} (h1:a≤a') (h2:b'≤b):So key a' b' g:=fun i j q1 q2 q3=>h i j (by omega) q2 (by omega)
theorem So.eq (h:So key a b g) (e:∀ i,a≤i→i < b→g' i=g i):So key a b g':=fun i j q1 q2 q3=>by rw [e i q1 (by omega),e j (by omega) q3];exact h i j q1 q2 q3
theorem So.join (h1:So key a m g) (h2:So key m b g) (hc:∀ i j,a≤i→i < m→m≤j→j < b→Lk key (g i) (g j)):So key a b g:=fun i j q1 q2 q3=>by
 rcases Nat.lt_or_ge j m with c | c
 ·exact h1 i j q1 q2 c
 ·rcases Nat.lt_or_ge i m with d | d
  ·exact hc i j q1 d c q3
  ·exact h2 i j d q2 q3
/-! Insertion. -/
structure Inl (key:Nat→Int) (a i j:Nat) (g:Nat→Nat):Prop where
 so:∀ p q,a≤p→p < q→q≤i→p≠j→q≠j→Lk key (g p) (g q)
 lt:∀ q,j < q→q≤i→key (g j) < key (g q)
 mx:∀ q,a≤q→q≤i→q≠j→g q < g j
 aj:a≤j
 ji:j≤i
theorem Inl.init {i:Nat} (h:So key a i g) (hm:∀ q,a≤q→q < i→g q < g i) (ha:a≤i):Inl key a i i g:=
 ⟨fun p q h1 h2 h3 h4 h5=>h p q h1 h2 (by omega),fun q h1 h2=>by omega,fun q h1 h2 h3=>hm q h1 (by omega),ha,Nat.le_refl _⟩
theorem Inl.step {i j:Nat} (h:Inl key a i j g) (hj:a < j) (hl:key (g j) < key (g (j - 1))):Inl key a i (j - 1) (swp g j (j - 1)):=by
 have h0:=h.aj
 have h1:=h.ji
 have hlt:=h.lt
 have hso:=h.so
 have hmx:=h.mx
 refine ⟨fun p q a1 a2 a3 a4 a5=>?_,fun q a1 a2=>?_,fun q a1 a2 a3=>?_,by omega,by omega⟩
 ·by_cases e1:p=j
  ·subst e1
   rw [Un,Wk (by omega) (by omega)];exact hso (p - 1) q (by omega) (by omega) a3 (by omega) (by omega)
  ·by_cases e2:q=j
   ·subst e2
    rw [Un,Wk (by omega) (by omega)];exact hso p (q - 1) a1 (by omega) (by omega) (by omega) (by omega)
   ·rw [Wk (by omega) (by omega),Wk (by omega) (by omega)];exact hso p q a1 a2 a3 e1 e2
 ·rw [jp]
  by_cases e2:q=j
  ·subst e2;rw [Un];exact hl
  ·rw [Wk (by omega) (by omega)];exact hlt q (by omega) a2
 ·rw [jp]
  by_cases e2:q=j
  ·subst e2;rw [Un];exact hmx (q - 1) (by omega) (by omega) (by omega)
  ·rw [Wk (by omega) (by omega)];exact hmx q a1 a2 e2
theorem Inl.done {i j:Nat} (h:Inl key a i j g) (hd:a < j→¬ key (g j) < key (g (j - 1))):So key a (i+1) g:=by
 have h0:=h.aj
 have h1:=h.ji
 have hlt:=h.lt
 have hso:=h.so
 have hmx:=h.mx
 intro p q a1 a2 a3
 by_cases e1:p=j
 ·subst e1;exact .lt (hlt q (by omega) (by omega))
 ·by_cases e2:q=j
  ·subst e2
   have c1:=hd (by omega)
   have c0:Lk key (g (q - 1)) (g q):=.of_not c1 (hmx (q - 1) (by omega) (by omega) (by omega))
   rcases Nat.lt_or_ge p (q - 1) with c | c
   ·exact (hso p (q - 1) a1 c (by omega) e1 (by omega)).trans c0
   ·rw [show p=q - 1 by omega];exact c0
  ·exact hso p q a1 a2 (by omega) e1 e2
theorem So.one:So key a (a+1) g:=fun p q h1 h2 h3=>by omega
theorem So.none (h:b≤a):So key a b g:=fun p q h1 h2 h3=>by omega
/-! Ranges swapped,and turned. -/
def swr (g:Nat→Nat) (a b n:Nat):Nat→Nat:=fun k=>if a≤k∧k < a+n then g (k - a+b) else if b≤k∧k < b+n then g (k - b+a) else g k
theorem Ji:swr g a b 0=g:=by funext k;unfold swr;rw [if_neg (by omega),if_neg (by omega)]
theorem Jw {i:Nat} (h:a+n≤b) (hi:i < n):swp (swr g a b i) (a+i) (b+i)=swr g a b (i+1):=by
 funext k
 rw [V3]
 unfold swr
 by_cases e1:k=b+i
 ·subst e1
  rw [if_pos rfl,if_neg (by omega),if_neg (by omega),if_neg (by omega),if_pos (by omega)]
  congr 1;omega
 ·rw [if_neg e1]
  by_cases e2:k=a+i
  ·subst e2
   rw [if_pos rfl,if_neg (by omega),if_neg (by omega),if_pos (by omega)]
   congr 1;omega
  ·rw [if_neg e2]
   by_cases c1:a≤k∧k < a+i
   ·rw [if_pos c1,if_pos (show a≤k∧k < a+(i+1) by omega)]
   ·by_cases c2:b≤k∧k < b+i
    ·rw [if_neg c1,if_pos c2,if_neg (show ¬ (a≤k∧k < a+(i+1)) by omega),if_pos (show b≤k∧k < b+(i+1) by omega)]
    ·rw [if_neg c1,if_neg c2,if_neg (show ¬ (a≤k∧k < a+(i+1)) by omega),if_neg (show ¬ (b≤k∧k < b+(i+1)) by omega)]
def rot (g:Nat→Nat) (a m b:Nat):Nat→Nat:=fun k=>if a≤k∧k < a+(b - m) then g (k - a+m) else if a+(b - m)≤k∧k < b then g (k - (b - m)) else g k
theorem jk {i j:Nat} (hj:j < i) (hi:i≤m):rot g (m - i) m (m+j)=rot (swr g (m - i) m j) (m - (i - j)) m (m+j):=by
 funext k
 unfold rot swr
 by_cases c1:m - i≤k∧k < m - i+(m+j - m)
 ·rw [if_pos c1,if_neg (by omega),if_neg (by omega),if_pos (by omega)]
 ·rw [if_neg c1]
  by_cases c2:m - i+(m+j - m)≤k∧k < m+j
  ·rw [if_pos c2]
   by_cases c3:m - (i - j)≤k∧k < m - (i - j)+(m+j - m)
   ·rw [if_pos c3,if_neg (by omega),if_pos (by omega)]
    congr 1;omega
   ·rw [if_neg c3,if_pos (by omega),if_neg (by omega),if_neg (by omega)]
  ·rw [if_neg c2,if_neg (by omega),if_neg (by omega),if_neg (by omega),if_neg (by omega)]
theorem yz {i j:Nat} (hj:i < j) (hi:i≤m):rot g (m - i) m (m+j)=rot (swr g (m - i) (m+j - i) i) (m - i) m (m+(j - i)):=by
 funext k
 unfold rot
 by_cases c1:m - i≤k∧k < m - i+(m+j - m)
 ·rw [if_pos c1]
  by_cases c3:m - i≤k∧k < m - i+(m+(j - i) - m)
  ·rw [if_pos c3]
   unfold swr
   rw [if_neg (show ¬ (m - i≤k - (m - i)+m∧k - (m - i)+m < m - i+i) by omega),if_neg (show ¬ (m+j - i≤k - (m - i)+m∧k - (m - i)+m < m+j - i+i) by omega)]
  ·rw [if_neg c3]
   by_cases c5:m - i+(m+(j - i) - m)≤k∧k < m+(j - i)
   ·rw [if_pos c5]
    unfold swr
    rw [if_pos (show m - i≤k - (m+(j - i) - m)∧k - (m+(j - i) - m) < m - i+i by omega)]
    congr 1;omega
   ·omega
 ·rw [if_neg c1]
  by_cases c2:m - i+(m+j - m)≤k∧k < m+j
  ·rw [if_pos c2,if_neg (show ¬ (m - i≤k∧k < m - i+(m+(j - i) - m)) by omega),if_neg (show ¬ (m - i+(m+(j - i) - m)≤k∧k < m+(j - i)) by omega)]
   unfold swr
   rw [if_neg (show ¬ (m - i≤k∧k < m - i+i) by omega),if_pos (show m+j - i≤k∧k < m+j - i+i by omega)]
   congr 1;omega
  ·rw [if_neg c2,if_neg (show ¬ (m - i≤k∧k < m - i+(m+(j - i) - m)) by omega),if_neg (show ¬ (m - i+(m+(j - i) - m)≤k∧k < m+(j - i)) by omega)]
   unfold swr
   rw [if_neg (show ¬ (m - i≤k∧k < m - i+i) by omega),if_neg (show ¬ (m+j - i≤k∧k < m+j - i+i) by omega)]
theorem ju {i:Nat} (hi:i≤m):swr g (m - i) m i=rot g (m - i) m (m+i):=by
 funext k
 unfold rot
 by_cases c1:m - i≤k∧k < m - i+(m+i - m)
 ·rw [if_pos c1]
  unfold swr
  rw [if_pos (show m - i≤k∧k < m - i+i by omega)]
 ·rw [if_neg c1]
  by_cases c2:m - i+(m+i - m)≤k∧k < m+i
  ·rw [if_pos c2]
   unfold swr
   rw [if_neg (show ¬ (m - i≤k∧k < m - i+i) by omega),if_pos (show m≤k∧k < m+i by omega)]
   congr 1;omega
  ·rw [if_neg c2]
   unfold swr
   rw [if_neg (show ¬ (m - i≤k∧k < m - i+i) by omega),if_neg (show ¬ (m≤k∧k < m+i) by omega)]
/-! One element brought to its place,by swaps with its neighbours. -/
def mvR (g:Nat→Nat) (a k:Nat):Nat→Nat:=fun j=>if a≤j∧j < k then g (j+1) else if j=k then g a else g j
theorem Jm:mvR g a a=g:=by
 funext j;unfold mvR;rw [if_neg (by omega)];split
 ·rename_i e;rw [e]
 ·rfl
theorem QP {k:Nat} (h:a≤k):swp (mvR g a k) k (k+1)=mvR g a (k+1):=by
 funext j
 rw [V3]
 unfold mvR
 by_cases e1:j=k+1
 ·subst e1;rw [if_pos rfl,if_neg (by omega),if_pos rfl,if_neg (by omega),if_pos rfl]
 ·rw [if_neg e1]
  by_cases e2:j=k
  ·subst e2;rw [if_pos rfl,if_neg (by omega),if_neg (by omega),if_pos (by omega)]
  ·rw [if_neg e2]
   by_cases c:a≤j∧j < k
   ·rw [if_pos c,if_pos (by omega)]
   ·rw [if_neg c,if_neg (by omega),if_neg (by omega),if_neg (by omega)]
def mvL (g:Nat→Nat) (m k:Nat):Nat→Nat:=fun j=>if k < j∧j≤m then g (j - 1) else if j=k then g m else g j
theorem Jz:mvL g m m=g:=by
 funext j;unfold mvL;rw [if_neg (by omega)];split
 ·rename_i e;rw [e]
 ·rfl
theorem Jd {k:Nat} (h:k≤m) (h0:0 < k):swp (mvL g m k) k (k - 1)=mvL g m (k - 1):=by
 funext j
 rw [V3]
 unfold mvL
 by_cases e1:j=k - 1
 ·subst e1;rw [if_pos rfl,if_neg (by omega),if_pos rfl,if_neg (by omega),if_pos rfl]
 ·rw [if_neg e1]
  by_cases e2:j=k
  ·subst e2;rw [if_pos rfl,if_neg (by omega),if_neg (by omega),if_pos (by omega)]
  ·rw [if_neg e2]
   by_cases c:k < j∧j≤m
   ·rw [if_pos c,if_pos (by omega)]
   ·rw [if_neg c,if_neg (by omega),if_neg (by omega),if_neg (by omega)]
theorem yy {i:Nat} (h2:So key (a+1) b g) (hc:Cr a (a+1) b g) (h1:a+1≤i) (hi:i≤b) (hl:∀ p,a+1≤p→p < i→key (g p) < key (g a)) (hr:∀ p,i≤p→p < b→¬ key (g p) < key (g a)):So key a b (mvR g a (i - 1)):=by
 intro x y q1 q2 q3
 unfold mvR
 by_cases c1:a≤x∧x < i - 1
 ·rw [if_pos c1]
  by_cases c2:a≤y∧y < i - 1
  ·rw [if_pos c2];exact h2 _ _ (by omega) (by omega) (by omega)
  ·rw [if_neg c2]
   by_cases c3:y=i - 1
   ·rw [if_pos c3];exact .lt (hl _ (by omega) (by omega))
   ·rw [if_neg c3];exact h2 _ _ (by omega) (by omega) (by omega)
 ·rw [if_neg c1]
  rw [if_neg (show ¬ (a≤y∧y < i - 1) by omega),if_neg (show ¬ y=i - 1 by omega)]
  by_cases c3:x=i - 1
  ·rw [if_pos c3];exact .of_not (hr y (by omega) q3) (hc a y (Nat.le_refl _) (by omega) (by omega) q3)
  ·rw [if_neg c3];exact h2 _ _ (by omega) (by omega) (by omega)
theorem js {i:Nat} (h1:So key a m g) (hc:Cr a m (m+1) g) (hai:a≤i) (hi:i≤m) (hl:∀ p,a≤p→p < i→¬ key (g m) < key (g p)) (hr:∀ p,i≤p→p < m→key (g m) < key (g p)):So key a (m+1) (mvL g m i):=by
 intro x y q1 q2 q3
 unfold mvL
 by_cases c1:i < y∧y≤m
 ·rw [if_pos c1]
  by_cases c2:i < x∧x≤m
  ·rw [if_pos c2];exact h1 _ _ (by omega) (by omega) (by omega)
  ·rw [if_neg c2]
   by_cases c3:x=i
   ·rw [if_pos c3];exact .lt (hr _ (by omega) (by omega))
   ·rw [if_neg c3]
    exact h1 _ _ (by omega) (by omega) (by omega)
 ·rw [if_neg c1,if_neg (show ¬ (i < x∧x≤m) by omega),if_neg (show ¬ x=i by omega)]
  by_cases c3:y=i
  ·rw [if_pos c3];exact .of_not (hl x q1 (by omega)) (hc x m q1 (by omega) (Nat.le_refl _) (by omega))
  ·rw [if_neg c3];exact h1 _ _ (by omega) (by omega) (by omega)
structure Zhw (key:Nat→Int) (a m b s e:Nat) (g:Nat→Nat):Prop where
 l:a≤s
 sm:s≤m
 me:m≤e
 eb:e≤b
 low:s=a∨e=b∨Lk key (g (s - 1)) (g e)
 up:s=m∨e=m∨Lk key (g (e - 1)) (g s)
theorem So.le' (h:So key a b g) {i j:Nat} (h1:a≤i) (h2:i≤j) (h3:j < b) {z:Nat} (k:Lk key (g j) z):Lk key (g i) z:=by
 rcases Nat.lt_or_ge i j with q | q
 ·exact (h i j h1 q h3).trans k
 ·rw [show i=j by omega];exact k
theorem So.ge' (h:So key a b g) {i j:Nat} (h1:a≤i) (h2:i≤j) (h3:j < b) {z:Nat} (k:Lk key z (g i)):Lk key z (g j):=by
 rcases Nat.lt_or_ge i j with q | q
 ·exact k.trans (h i j h1 q h3)
 ·rw [← show i=j by omega];exact k
structure Pts (key:Nat→Int) (a s d e b:Nat) (g:Nat→Nat):Prop where
 p1:So key a s g
 p2:So key s d g
 p3:So key d e g
 p4:So key e b g
 c1:Cr a s d g
 c2:Cr d e b g
 x:∀ i j,a≤i→i < d→d≤j→j < b→Lk key (g i) (g j)
theorem ZbK {s e:Nat} (h1:So key a m g) (h2:So key m b g) (hc:Cr a m b g) (k:Zhw key a m b s e g):Pts key a s (s+(e - m)) e b (rot g s m e):=by
 have hl:=k.l
 have hsm:=k.sm
 have hme:=k.me
 have heb:=k.eb
 have r1:∀ i,i < s→rot g s m e i=g i:=fun i hi=>by unfold rot;rw [if_neg (by omega),if_neg (by omega)]
 have r2:∀ i,s≤i→i < s+(e - m)→rot g s m e i=g (i - s+m):=fun i a1 a2=>by unfold rot;rw [if_pos ⟨a1,a2⟩]
 have r3:∀ i,s+(e - m)≤i→i < e→rot g s m e i=g (i - (e - m)):=fun i a1 a2=>by unfold rot;rw [if_neg (by omega),if_pos ⟨a1,a2⟩]
 have r4:∀ i,e≤i→rot g s m e i=g i:=fun i hi=>by unfold rot;rw [if_neg (by omega),if_neg (by omega)]
 refine ⟨fun i j q1 q2 q3=>?_,fun i j q1 q2 q3=>?_,fun i j q1 q2 q3=>?_,fun i j q1 q2 q3=>?_,fun i j q1 q2 q3 q4=>?_,fun i j q1 q2 q3 q4=>?_,fun i j q1 q2 q3 q4=>?_⟩
 ·rw [r1 i (by omega),r1 j (by omega)];exact h1 i j q1 q2 (by omega)
 ·rw [r2 i (by omega) (by omega),r2 j (by omega) (by omega)];exact h2 _ _ (by omega) (by omega) (by omega)
 ·rw [r3 i (by omega) (by omega),r3 j (by omega) (by omega)];exact h1 _ _ (by omega) (by omega) (by omega)
 ·rw [r4 i (by omega),r4 j (by omega)];exact h2 i j (by omega) q2 q3
 ·rw [r1 i (by omega),r2 j (by omega) (by omega)];exact hc _ _ (by omega) (by omega) (by omega) (by omega)
 ·rw [r3 i (by omega) (by omega),r4 j (by omega)];exact hc _ _ (by omega) (by omega) (by omega) (by omega)
 ·rcases Nat.lt_or_ge i s with c | c
  ·rw [r1 i c]
   rcases Nat.lt_or_ge j e with d | d
   ·rw [r3 j (by omega) d];exact h1 _ _ q1 (by omega) (by omega)
   ·rw [r4 j d]
    rcases k.low with z | z | z
    ·omega
    ·omega
    ·exact h1.le' q1 (by omega) (show s - 1 < m by omega) (h2.ge' hme d q4 z)
  ·rw [r2 i c q2]
   rcases Nat.lt_or_ge j e with d | d
   ·rw [r3 j (by omega) d]
    rcases k.up with z | z | z
    ·omega
    ·omega
    ·exact h2.le' (by omega) (by omega) (show e - 1 < b by omega) (h1.ge' hl (show s≤j - (e - m) by omega) (by omega) z)
   ·rw [r4 j d];exact h2 _ _ (by omega) (by omega) q4
theorem Pts.done {s d e:Nat} (h:Pts key a s d e b g) {g1 g2:Nat→Nat} (ha:a≤d) (hb:d≤b) (p1:PRm a d g g1) (s1:So key a d g1) (p2:PRm d b g1 g2) (s2:So key d b g2):So key a b g2:=by
 refine So.join (m:=d) (s1.eq fun i h1 h2=>p2.out i (.inl h2)) s2 fun i j q1 q2 q3 q4=>?_
 obtain ⟨y,y1,y2,ey⟩:=p2.mem q3 q4
 rw [p2.out i (.inl q2),ey]
 obtain ⟨x,x1,x2,ex⟩:=p1.mem q1 q2
 rw [ex,p1.out y (.inr y1)]
 exact h.x x y x1 x2 y1 y2
theorem Pts.right {s d e:Nat} (h:Pts key a s d e b g) {g1:Nat→Nat} (p1:PRm a d g g1) (hde:d≤e):So key d e g1∧So key e b g1∧Cr d e b g1:=by
 have e1:∀ i,d≤i→g1 i=g i:=fun i hi=>p1.out i (.inr hi)
 exact ⟨h.p3.eq fun i h1 _=>e1 i h1,h.p4.eq fun i h1 _=>e1 i (by omega),fun i j q1 q2 q3 q4=>by rw [e1 i q1,e1 j (by omega)];exact h.c2 i j q1 q2 q3 q4⟩
/-! Blocks. -/
structure Bk (key:Nat→Int) (bs a n:Nat) (g:Nat→Nat):Prop where
 so:∀ i j,a≤i→i < j→j < n→i / bs=j / bs→Lk key (g i) (g j)
 lb:∀ i,a≤i→i < n→g i / bs=i / bs
def Bs (bs:Nat):Prop:=bs=20∨bs=40∨bs=80
theorem Bk.part {bs n:Nat} (h:Bk key bs a n g) (hb:Bs bs) (ha:a % bs=0) {m b:Nat} (hm:m=a+bs) (hmb:m≤b) (hb2:b≤a+2 * bs) (hn:b≤n):So key a m g∧So key m b g∧Cr a m b g:=by
 have so:=h.so
 have lb:=h.lb
 subst hm
 refine ⟨fun i j q1 q2 q3=>so i j q1 q2 (by omega) ?_,fun i j q1 q2 q3=>so i j (by omega) q2 (by omega) ?_,fun i j q1 q2 q3 q4=>?_⟩
 ·rcases hb with rfl | rfl | rfl<;>omega
 ·rcases hb with rfl | rfl | rfl<;>omega
 ·have l1:=lb i q1 (by omega)
  have l2:=lb j (by omega) (by omega)
  rcases hb with rfl | rfl | rfl<;>omega
structure Bk2 (key:Nat→Int) (bs a n:Nat) (g:Nat→Nat):Prop where
 lo:Bk key (2 * bs) 0 a g
 hi:Bk key bs a n g
theorem Bk2.init {bs n:Nat} (h:Bk key bs 0 n g):Bk2 key bs 0 n g:=⟨⟨fun i j h1 h2 h3=>by omega,fun i h1 h2=>by omega⟩,h⟩
theorem Bk2.step {bs n:Nat} (h:Bk2 key bs a n g) (hb:Bs bs) (ha:a % (2 * bs)=0) {b:Nat} (hb1:a≤b) (hb2:b≤a+2 * bs) (hn:b≤n) (p:PRm a b g g') (s:So key a b g'):Bk key (2 * bs) 0 b g':=by
 obtain ⟨l1,l2⟩:=h.lo
 obtain ⟨u1,u2⟩:=h.hi
 refine ⟨fun i j q1 q2 q3 q4=>?_,fun i q1 q2=>?_⟩
 ·rcases Nat.lt_or_ge j a with c | c
  ·rw [p.out i (.inl (by omega)),p.out j (.inl c)];exact l1 i j q1 q2 c q4
  ·rcases Nat.lt_or_ge i a with d | d
   ·exfalso;rcases hb with rfl | rfl | rfl<;>omega
   ·exact s i j d q2 q3
 ·rcases Nat.lt_or_ge i a with c | c
  ·rw [p.out i (.inl c)];exact l2 i q1 c
  ·obtain ⟨k,k1,k2,e⟩:=p.mem c q2
   rw [e]
   have:=u2 k k1 (by omega)
   rcases hb with rfl | rfl | rfl<;>omega
theorem Bk2.next {bs n:Nat} (h:Bk2 key bs a n g) (hb:Bs bs) (ha:a % (2 * bs)=0) {b:Nat} (hb2:b=a+2 * bs) (hn:b≤n) (p:PRm a b g g') (s:So key a b g'):Bk2 key bs b n g'∧b % (2 * bs)=0:=by
 refine ⟨⟨h.step hb ha (by omega) (by omega) hn p s,fun i j q1 q2 q3 q4=>?_,fun i q1 q2=>?_⟩,by rcases hb with rfl | rfl | rfl<;>omega⟩
 ·rw [p.out i (.inr q1),p.out j (.inr (by omega))];exact h.hi.so i j (by omega) q2 q3 q4
 ·rw [p.out i (.inr q1)];exact h.hi.lb i (by omega) q2
theorem Bk2.last {bs n:Nat} (h:Bk2 key bs a n g) (hb:Bs bs) (ha:a % (2 * bs)=0) (han:a≤n) (hn:n≤a+bs):Bk key (2 * bs) 0 n g:=
 h.step hb ha han (by omega) (Nat.le_refl _) (PRm.refl _ _ _) fun i j q1 q2 q3=>h.hi.so i j q1 q2 q3 (by rcases hb with rfl | rfl | rfl<;>omega)
theorem Bk.all {bs n:Nat} (h:Bk key bs 0 n g) (hn:n≤bs):So key 0 n g:=fun i j q1 q2 q3=>h.so i j q1 q2 q3 (by rw [Nat.div_eq_of_lt (by omega),Nat.div_eq_of_lt (by omega)])
structure Bk0 (key:Nat→Int) (a n:Nat) (g:Nat→Nat):Prop where
 lo:Bk key 20 0 a g
 out:∀ i,a≤i→g i=i
theorem Bk0.init (n:Nat):Bk0 key 0 n fun i=>i:=⟨⟨fun i j h1 h2 h3=>by omega,fun i h1 h2=>by omega⟩,fun i _=>rfl⟩
theorem Bk0.ids {n:Nat} (h:Bk0 key a n g):∀ i j,a≤i→i < j→g i < g j:=fun i j q1 q2=>by rw [h.out i q1,h.out j (by omega)];exact q2
theorem Bk0.step {n b:Nat} (h:Bk0 key a n g) (ha:a % 20=0) (hab:a≤b) (hb:b≤a+20) (p:PRm a b g g') (s:So key a b g'):Bk0 key b n g':=by
 obtain ⟨l1,l2⟩:=h.lo
 refine ⟨⟨fun i j q1 q2 q3 q4=>?_,fun i q1 q2=>?_⟩,fun i q=>by rw [p.out i (.inr q),h.out i (by omega)]⟩
 ·rcases Nat.lt_or_ge j a with c | c
  ·rw [p.out i (.inl (by omega)),p.out j (.inl c)];exact l1 i j q1 q2 c q4
  ·rcases Nat.lt_or_ge i a with d | d
   ·omega
   ·exact s i j d q2 q3
 ·rcases Nat.lt_or_ge i a with c | c
  ·rw [p.out i (.inl c)];exact l2 i q1 c
  ·obtain ⟨k,k1,k2,e⟩:=p.mem c q2
   rw [e,h.out k k1];omega
theorem Bk0.low {n:Nat} (h:Bk0 key a n g) (hn:n≤a):Bk key 20 0 n g:=⟨fun i j q1 q2 q3 q4=>h.lo.so i j q1 q2 (by omega) q4,fun i q1 q2=>h.lo.lb i q1 (by omega)⟩
end
/-! Cells: the elements' rows,by the places where they stood. -/
def cG (f:Nat→List Value) (n:Nat) (g:Nat→Nat):List Value:=((List.range n).map g).flatMap f
section
variable {f:Nat→List Value} {z n k:Nat} {g:Nat→Nat}
theorem ZgB (h:k < n):((List.range n).map g)[k]? = some (g k):=by simp [h]
theorem XS (hf:∀ x,(f x).length=z):(cG f n g).length=n * z:=by
 unfold cG;rw [VO fun x _=>hf x];simp
theorem XH (hf:∀ x,(f x).length=z) (h:k < n):row z (cG f n g) (0+k * z)=some (f (g k)):=Vg (fun x _=>hf x) (ZgB h)
theorem WT {v:Value} (hf:∀ x,(f x).length=1) (h:k < n) (hv:f (g k)=[v]):(cG f n g)[0+k * 1]? = some v:=by
 have:=KI (XH (z:=1) hf h (g:=g)) (j:=0) (v:=v) (by rw [hv];rfl)
 simpa using this
theorem Zho {x:Nat}:(List.range n).map (upd g k x)=((List.range n).map g).set k x:=by
 refine List.ext_getElem? fun i=>?_
 rw [List.getElem?_set]
 by_cases e:k=i
 ·subst e
  rcases Nat.lt_or_ge k n with q | q
  ·simp [upd,q]
  ·simp [q]
 ·rw [if_neg e]
  have e2:¬ i=k:=fun q=>e q.symm
  rcases Nat.lt_or_ge i n with q | q
  ·simp [upd,q,e2]
  ·simp [q]
theorem yp {α:Type} {f:α→List Value} {size:Nat}:∀ {l:List α} (_:∀ x,(f x).length=size) {i:Nat} {x:α},i < l.length→Z9 (l.flatMap f) (0+i * size) (f x)=(l.set i x).flatMap f
 | [],_,i,x,h=>by simp at h
 | y :: l,hf,0,x,h=>by
  have key:∀ (a b c:List Value) (d:List Value),a.length=b.length→Z9 (d ++ a ++ c) d.length b=d ++ b ++ c:=by
   intro a
   induction a with
   | nil=>intro b c d h;cases b with
    | nil=>simp [Z9]
    | cons _ _=>simp at h
   | cons u a ih=>
    intro b c d h
    cases b with
    | nil=>simp at h
    | cons v b=>
     simp only [Z9]
     have e:(d ++ u :: a ++ c).set d.length v=(d ++ [v]) ++ a ++ c:=by simp
     rw [e]
     have:=ih b c (d ++ [v]) (by simpa using h)
     simp only [List.length_append,List.length_singleton] at this
     rw [this];simp
  have:=key (f y) (f x) (l.flatMap f) [] (by rw [hf,hf])
  simpa using this
 | y :: l,hf,i+1,x,h=>by
  have ih:=yp (l:=l) hf (i:=i) (x:=x) (by simpa using h)
  have key:∀ (b a c:List Value) (k:Nat),Z9 (a ++ c) (a.length+k) b=a ++ Z9 c k b:=by
   intro b
   induction b with
   | nil=>intro a c k;simp [Z9]
   | cons v b ih=>
    intro a c k
    simp only [Z9]
    rw [List.set_append_right _ _ (by omega),show a.length+k - a.length=k by omega,← ih,Nat.add_assoc]
  have e:=key (f x) (f y) (l.flatMap f) (i * size)
  rw [hf y] at e
  rw [List.flatMap_cons,List.set_cons_succ,List.flatMap_cons,← ih,Nat.zero_add,Nat.zero_add,Nat.succ_mul,Nat.add_comm (i * size) size,e]
theorem Uc (hf:∀ x,(f x).length=z) (h:k < n) {x:Nat}:Z9 (cG f n g) (0+k * z) (f x)=cG f n (upd g k x):=by
 unfold cG
 rw [Zho]
 exact yp hf (by simpa using h)
theorem UM (hf:∀ x,(f x).length=1) (h:k < n) {x:Nat} {v:Value} (hv:f x=[v]):(cG f n g).set (0+k * 1) v=cG f n (upd g k x):=by
 rw [← Uc hf h,hv];rfl
theorem Zgu {α:Type} {l:List α} {d:α} {e:α→List Value}:cG (fun i=>e (l.getD i d)) l.length (fun i=>i)=l.flatMap e:=by
 unfold cG
 have:l=(List.range l.length).map fun i=>l.getD i d:=by
  refine List.ext_getElem? fun i=>?_
  rcases Nat.lt_or_ge i l.length with q | q
  ·simp [q]
  ·simp [q]
 conv=>rhs;rw [this]
 rw [List.flatMap_map,List.flatMap_map]
end
def Qe (H:Hp) (b:Nat):Option (TypeId × Bool):=match H.t.get b with | some (.cells _ e l)=>some (e,l) | _=>none
structure KT (bd:Nat) (H H':Hp):Prop where
 le:H.next≤H'.next
 b:bd < H.next
 kp:Keep H H' [bd]
 tg:Qe H' bd=Qe H bd
theorem KT.refl {bd:Nat} {H:Hp} (h:bd < H.next):KT bd H H:=⟨Nat.le_refl _,h,Keep.refl _ _,rfl⟩
theorem KT.trans {bd:Nat} {H H1 H2:Hp} (h:KT bd H H1) (k:KT bd H1 H2):KT bd H H2:=⟨Nat.le_trans h.le k.le,h.b,h.kp.trans k.kp,k.tg.trans h.tg⟩
theorem KT.keep {bd:Nat} {H H1 H2:Hp} (h:KT bd H H1) (k:Keep H1 H2 []):KT bd H H2:=
 ⟨Nat.le_trans h.le k.1,h.b,h.kp.trans (k.mono (by simp)),by unfold Qe;rw [k.2 bd (Nat.lt_of_lt_of_le h.b h.le) (by simp)];exact h.tg⟩
theorem KT.put {bd:Nat} {H H1 H2:Hp} (h:KT bd H H1) (k:Keep H1 H2 [bd]) (t:Qe H2 bd=Qe H1 bd):KT bd H H2:=⟨Nat.le_trans h.le k.1,h.b,h.kp.trans k,t.trans h.tg⟩
theorem Zdl {H H1:Hp} {b:Nat} {cs cs':List Value} {e:TypeId} {l:Bool} (g:H.t.get b=some (.cells cs e l)) (h:H.up b (.cells cs' e l)=H1):Qe H1 b=Qe H b:=by
 subst h
 unfold Qe
 show (match (H.t.set b _).get b with | some (.cells _ e l)=>some (e,l) | _=>none)=_
 rw [Tr.get_set,if_pos rfl,g]
section
variable {P:Program} {kn:Kn} {lo n:Nat} {masks:List Nat} {ks:List Kd} {r:List RO} {S:Rg} {H:Hp} {K:Rg→Hp→Prop} {d:Option Nat} {x y:Operand}
theorem UT {b o:Nat} {cs:List Value} {v:Value} (hx:evS S x=some (.pointer (some ⟨b,o,none⟩))) (hy:evS S y=some v) (hc:Cl H b cs) (hl:lo≤b) (hv:v.cells.toList=[v]) (h1:one v=true) (ho:o < cs.length)
  (h:∀ H1,Keep H H1 [b]→H1.next=H.next→Cl H1 b (cs.set o v)→Qe H1 b=Qe H b→Zu P kn lo n masks r (.store b :: ks) (Zy S d undef) H1 K):Zu P kn lo n masks (⟨d,none,.st x y⟩ :: r) ks S H K:=by
 simp only [Zu,wRO,wRI,hx,hy]
 obtain ⟨_,e,l,g⟩:=id hc
 exact ⟨cs,e,l,g,hl,hv,h1,ho,fun H1 hH1=>by obtain ⟨a,b,c⟩:=WK hc hH1;exact h H1 a b c (Zdl g hH1)⟩
theorem Vx {b o m:Nat} {cs:List Value} {v:Value} (hx:evS S x=some (.pointer (some ⟨b,o,none⟩))) (hy:evS S y=some v) (hc:Cl H b cs) (hl:lo≤b) (hm:v.cells.toList.length=m) (h1:v.cells.toList.all one=true) (ho:o+m≤cs.length)
  (h:∀ H1,Keep H H1 [b]→H1.next=H.next→Cl H1 b (Z9 cs o v.cells.toList)→Qe H1 b=Qe H b→Zu P kn lo n masks r (.store b :: ks) (Zy S d undef) H1 K):Zu P kn lo n masks (⟨d,none,.sta x y m⟩ :: r) ks S H K:=by
 simp only [Zu,wRO,wRI,hx,hy]
 obtain ⟨_,e,l,g⟩:=id hc
 exact ⟨cs,e,l,g,hl,hm,h1,ho,fun H1 hH1=>by obtain ⟨a,b,c⟩:=WK hc hH1;exact h H1 a b c (Zdl g hH1)⟩
end
def Uq (P:Program) (kn:Kn) (lo bd:Nat) (F:FuncId) (caps:Array Value) (e:Nat→Value) (n:Nat) (key:Nat→Int) (H0:Hp):Prop:=
 ∀ H,Keep H0 H [bd]→∀ x y,x < n→y < n→∃ r H',X4 P kn lo (.fn (.func F) caps) [e x,e y] H (iv r) H'∧Keep H H' []∧(r < 0↔key x < key y)
theorem Uq.from {P:Program} {kn:Kn} {lo bd:Nat} {F:FuncId} {caps:Array Value} {e:Nat→Value} {n:Nat} {key:Nat→Int} {H0 H1:Hp} (h:Uq P kn lo bd F caps e n key H0) (k:Keep H0 H1 [bd]):Uq P kn lo bd F caps e n key H1:=fun H q=>h H (k.trans q)
end
end Go.Ax

/-
 Pool: sorting: questions,pivots (written by program).
-/
namespace Go.Ax
open Go Go.RowKit Go.Proofs

noncomputable section
def cF (n:Nat) (g:Nat→Int):List Value:=(List.range n).map fun i=>iv (g i)
theorem ZdB {n:Nat} {g:Nat→Int}:(cF n g).length=n:=by simp [cF]
theorem ZbS {n:Nat} {g:Nat→Int} {k:Nat} (h:k < n):(cF n g)[0+k * 1]? = some (iv (g k)):=by
 rw [Nat.mul_one,Nat.zero_add];simp [cF,h]
theorem ZcU {n:Nat} {g:Nat→Int} {k:Nat} {v:Int} (h:k < n):(cF n g).set (0+k * 1) (iv v)=cF n (upd g k v):=by
 rw [Nat.mul_one,Nat.zero_add]
 refine List.ext_getElem? fun i=>?_
 rw [List.getElem?_set]
 unfold upd cF
 by_cases e:k=i
 ·subst e;simp [h]
 ·have e2:¬ i=k:=fun q=>e q.symm
  simp only [e,if_false,List.getElem?_map]
  rcases Nat.lt_or_ge i n with q | q
  ·simp [List.getElem?_range,q,e2]
  ·simp [List.getElem?_eq_none,q]
theorem ZiY {xs:List Int}:cF xs.length (fun i=>xs.getD i 0)=xs.map iv:=by
 refine List.ext_getElem? fun i=>?_
 rcases Nat.lt_or_ge i xs.length with q | q
 ·simp [cF,q]
 ·simp [cF,q]
theorem Zgq {n:Nat} {g:Nat→Int}:cF n g=(rg g 0 n).map iv:=by
 unfold cF rg
 rw [List.map_map,List.range_eq_range']
 rfl
theorem ivq {x y:Int} (h:x=y):(some (iv x):Option Value)=some (iv y):=by rw [h]
section
variable {kn:Kn} {lo:Nat} {H:Hp}
theorem ZaB (x:Int):∃ H',FnX Try.prog kn lo 76 [iv x] H (.bool false) H'∧Keep H H' []:=by
 have key:=Zs (kn:=kn) (lo:=lo) (H:=H) (args:=[iv x]) (Q:=fun w H'=>w=.bool false∧Keep H H' []) Try.func76 B76 N76 Z76 L76 (by simp) ?_
 ·obtain ⟨w,H',h,rfl,q⟩:=key;exact ⟨H',h,q⟩
 refine Zc (Za rfl (Zb (Zc (Za rfl (Za rfl (UO rfl rfl (Za rfl (Zb ?_))))))))
 exact ⟨True.intro,[.bool (x != x)],rfl,by show Value.bool (x != x)=_;simp,Keep.refl _ _⟩
theorem Ze6 (x y:Int):∃ H',FnX Try.prog kn lo 91 [iv x,iv y] H (.bool (decide (x < y))) H'∧Keep H H' []:=by
 have key:=Zs (kn:=kn) (lo:=lo) (H:=H) (args:=[iv x,iv y]) (Q:=fun w H'=>w=.bool (decide (x < y))∧Keep H H' []) Try.func91 B91 N91 Z91 L91 (by simp) ?_
 ·obtain ⟨w,H',h,rfl,q⟩:=key;exact ⟨H',h,q⟩
 obtain ⟨H1,h1,k1⟩:=ZaB (kn:=kn) (lo:=lo) (H:=H) x
 refine Zc (Za rfl (Zb ?_))
 refine Zc (Za rfl (Zx rfl (Zi h1) (Za rfl ?_)))
 refine Zp rfl (Zp rfl (Zp rfl ?_))
 refine Zg (v:=.bool false) rfl (by kernel_rfl) (Za rfl ?_)
 refine ZK rfl (Za rfl (ZK rfl (Za rfl ?_)))
 refine ZK rfl (Zhb (decide (x < y)) rfl rfl rfl ?_)
 refine Zg (v:=.bool (decide (x < y))) rfl (by kernel_rfl) (Za rfl (Zb ?_))
 exact ⟨True.intro,[.bool (decide (x < y))],rfl,rfl,k1⟩
end
end
end Go.Ax

/-
 Pool: sorting: bits,patterns broken (written by program).
-/
namespace Go.Ax
open Go Go.RowKit Go.Proofs

noncomputable section
theorem Zde {x:Int} (h:0≤x∧x≤18446744073709551615):IntKind.u64.wrap x=x:=by
 unfold IntKind.wrap IntKind.bits IntKind.signed
 simp
 omega
theorem Zg9 {P:Program} {t:TypeId} {x y:Operand} {m d:Nat} (h:d < 64):ZH P (do eqGuard .shr t x y (.int .u64 (m:Int)) (.int .u64 (d:Int));binOp .shr t (.int .u64 (m:Int)) (.int .u64 (d:Int)))=some (.int .u64 ((m / 2 ^ d:Nat):Int)):=by
 show ZH P (Op.shift .shr .u64 (m:Int) .u64 (d:Int))=_
 unfold Op.shift
 rw [if_neg (by omega)]
 show some (Value.int .u64 ((m:Int).fdiv (2 ^ min d 64)))=_
 rw [Nat.min_eq_left (by omega),Int.fdiv_eq_ediv_of_nonneg _ (by exact Int.le_of_lt (Int.pow_pos (by decide)))]
 congr 2
section
variable {n:Nat} {S:Rg} {x y:Operand} {o:Option Tmp} {t t2 ty:TypeId} {p:String}
theorem Qn {m d:Nat} (h:d < 64) (hx:evS S x=some (.int .u64 (m:Int))) (hy:evS S y=some (.int .u64 (d:Int))):Zn Try.prog (frS n S) ⟨o,.binOp .shr t x y t2,ty,p,#[],none⟩=some (.int .u64 ((m / 2 ^ d:Nat):Int)):=by
 unfold Zn
 simp only [Yo,hx,hy,Z0,Xs,Bool.and_self,cond_true,Zg9 h]
theorem ZdP {m:Nat} {b:Int} (hx:evS S x=some (.int .u64 (m:Int))):Zn Try.prog (frS n S) ⟨o,.binOp .geq t x (.const (.int .u64 b)) t2,ty,p,#[],none⟩=some (.bool (decide ((m:Int) ≥ b))):=by
 have key:ZH Try.prog (do eqGuard .geq t x (.const (.int .u64 b)) (.int .u64 m) (.int .u64 b);binOp .geq t (.int .u64 m) (.int .u64 b))=some (.bool (decide ((m:Int) ≥ b))):=rfl
 unfold Zn
 simp only [Yo,hx,show evS S (.const (.int .u64 b))=some (.int .u64 b) from rfl,show Z0 (.int .u64 (m:Int))=true from rfl,show Z0 (.int .u64 b)=true from rfl,Bool.and_self,cond_true,key]
 rfl
end
set_option maxRecDepth 100000 in
theorem zv {k:Nat} {S:Rg} {d:Option Tmp} {ty:TypeId} {p:String} {x:Operand} {n:Nat} {j:Int} (h:n < 18446744073709551616) (hx:evS S x=some (iv j)) (hj:j=(n:Int)):Zn Try.prog (frS k S) ⟨d,.convert 3 109 x,ty,p,#[],none⟩=some (.int .u64 (n:Int)):=by
 subst hj
 have e:∀ z:Int,ZH Try.prog (Go.convert 3 109 (.int .i64 z))=some (.int .u64 (IntKind.u64.wrap z)):=fun z=>by kernel_rfl
 unfold Zn
 simp only [Yo,hx,e,Zde (x:=(n:Int)) ⟨by omega,by omega⟩]
 rfl
set_option maxRecDepth 100000 in
theorem qH {k:Nat} {S:Rg} {d:Option Tmp} {ty:TypeId} {p:String} {x:Operand} {n:Nat} {j:Int} (h:n < 9223372036854775808) (hx:evS S x=some (.int .u64 j)) (hj:j=(n:Int)):Zn Try.prog (frS k S) ⟨d,.convert 109 3 x,ty,p,#[],none⟩=some (iv (n:Int)):=by
 subst hj
 have e:∀ z:Int,ZH Try.prog (Go.convert 109 3 (.int .u64 z))=some (.int .i64 (IntKind.i64.wrap z)):=fun z=>by kernel_rfl
 unfold Zn
 simp only [Yo,hx,e,wrap_i64 (x:=(n:Int)) ⟨by omega,by omega⟩]
 rfl
set_option maxRecDepth 100000 in
theorem Ziy {k:Nat} {S:Rg} {d:Option Tmp} {ty:TypeId} {p:String} {x:Operand} {n:Nat} {j:Int} (h:n < 256) (hx:evS S x=some (.int .u8 j)) (hj:j=(n:Int)):Zn Try.prog (frS k S) ⟨d,.convert 5 3 x,ty,p,#[],none⟩=some (iv (n:Int)):=by
 subst hj
 have e:∀ z:Int,ZH Try.prog (Go.convert 5 3 (.int .u8 z))=some (.int .i64 (IntKind.i64.wrap z)):=fun z=>by kernel_rfl
 unfold Zn
 simp only [Yo,hx,e,wrap_i64 (x:=(n:Int)) ⟨by omega,by omega⟩]
 rfl
theorem Zcs:(List.range 256).all (fun n=>IntKind.u8.wrap (n:Nat) == ((n:Nat):Int))=true:=by kernel_rfl
theorem Zds {n:Nat} (h:n < 256):IntKind.u8.wrap (n:Int)=n:=by
 have:=List.all_eq_true.1 Zcs n (by simp;omega)
 simpa using this
set_option maxRecDepth 100000 in
theorem Zii {k:Nat} {S:Rg} {d:Option Tmp} {ty:TypeId} {p:String} {x:Operand} {n:Nat} {j:Int} (h:n < 256) (hx:evS S x=some (.int .u64 j)) (hj:j=(n:Int)):Zn Try.prog (frS k S) ⟨d,.convert 133 5 x,ty,p,#[],none⟩=some (.int .u8 (n:Int)):=by
 subst hj
 have e:∀ z:Int,ZH Try.prog (Go.convert 133 5 (.int .u64 z))=some (.int .u8 (IntKind.u8.wrap z)):=fun z=>by kernel_rfl
 unfold Zn
 simp only [Yo,hx,e,Zds h]
 rfl
def tb (n:Nat):Nat:=if n=0 then 0 else Nat.log2 n+1
def ZhC:Value:=match R95 with
 | .seq _ (.seq _ (.seq _ (.seq _ (.seq (.reg [_,_,_,⟨_,_,.pur ⟨_,.index _ (.const v) _,_,_,_,_⟩⟩,_,_,_]) _))))=>v
 | _=>undef
theorem Zg0 : (List.range 256).all (fun n => match Zn Try.prog (frS 25 [(21, .int .u8 (n : Nat))]) ⟨some 22, .index 9 (.const ZhC) (.tmp 21), 5, "", #[], none⟩ with | some (.int .u8 x) => x == ((tb n : Nat) : Int) | _ => false) = true := by kernel_rfl
theorem ZeJ:(List.range 256).all (fun n=>decide (tb n≤8∧(n=0∨2 ^ tb n≤2 * n)))=true:=by kernel_rfl
theorem Zbw {n:Nat} (h:n < 256):tb n≤8∧(n=0∨2 ^ tb n≤2 * n):=of_decide_eq_true (List.all_eq_true.1 ZeJ n (by simp;omega))
set_option maxRecDepth 100000 in
theorem Zdk {k : Nat} {S : Rg} {x : Operand} {n : Nat} (h : n < 256) (hx : evS S x = some (.int .u8 n)) : Zn Try.prog (frS k S) ⟨some 22, .index 9 (.const ZhC) x, 5, "", #[], none⟩ = some (.int .u8 (tb n : Int)) := by
 have:=List.all_eq_true.1 Zg0 n (by simp;omega)
 split at this<;>first | (cases this;done) | skip
 rename_i y hy
 have e:y=((tb n:Nat):Int):=by simpa using this
 rw [← e,← hy]
 unfold Zn
 simp only [Yo,hx]
 rfl
def Qr (n:Nat):Nat:=if 256≤n then 8+tb (n / 256) else tb n
theorem ZfL {n:Nat} (h:n < 65536):Qr n≤16∧1≤2 ^ Qr n∧(n=0∨2 ^ Qr n≤2 * n):=by
 unfold Qr
 split
 ·have h1:=Zbw (n:=n / 256) (by omega)
  refine ⟨by omega,Nat.pos_of_ne_zero (by simp),.inr ?_⟩
  rw [Nat.pow_add]
  have:2 ^ tb (n / 256)≤2 * (n / 256):=by rcases h1.2 with e | e;omega;exact e
  omega
 ·have h1:=Zbw (n:=n) (by omega)
  exact ⟨by omega,Nat.pos_of_ne_zero (by simp),h1.2⟩
section
variable {kn:Kn} {lo:Nat} {H:Hp}
theorem WA {P:Program} {n:Nat} {rd:Bool} {x y:RC} {S:Rg} {K:Exit→Rg→Hp→Prop} (h:wC P kn lo n rd x S H fun e S' H'=>match e with | .normal=>wC P kn lo n rd y S' H' K | e=>K e S' H'):wC P kn lo n rd (.seq x y) S H K:=h
theorem WC {P:Program} {n:Nat} {rd:Bool} {o:Operand} {x y:RC} {t:Bool} {S:Rg} {K:Exit→Rg→Hp→Prop} (ho:evS S o=some (.bool t)) (h1:t=true→wC P kn lo n rd x S H K) (h2:t=false→wC P kn lo n rd y S H K):wC P kn lo n rd (.cond o x y) S H K:=by
 simp only [wC,ho];exact ⟨h1,h2⟩
theorem Vn {P:Program} {n:Nat} {rd:Bool} {id:Nat} {b:RC} {S:Rg} {K:Exit→Rg→Hp→Prop} (h:wC P kn lo n rd b S H fun e S' H'=>match e with | .exit j=>(bif Nat.beq j id then K .normal S' H' else K (.exit j) S' H') | e=>K e S' H'):wC P kn lo n rd (.block id b) S H K:=h
theorem QX {P:Program} {n:Nat} {rd:Bool} {c:Code} {S:Rg} {K:Exit→Rg→Hp→Prop} (h:Tri P kn lo n rd c S H K):wC P kn lo n rd (.other c) S H K:=h
set_option maxRecDepth 100000 in
theorem ZeA {n:Nat} (h:n < 65536):∃ H',FnX Try.prog kn lo 95 [.int .u64 n] H (iv (Qr n:Int)) H'∧Keep H H' []:=by
 have key:=Zs (kn:=kn) (lo:=lo) (H:=H) (args:=[.int .u64 n]) (Q:=fun w H'=>w=iv (Qr n:Int)∧Keep H H' []) Try.func95 B95 N95 Z95 L95 (by simp) ?_
 ·obtain ⟨w,H',h,rfl,q⟩:=key;exact ⟨H',h,q⟩
 refine Zc (Za rfl (Zb ?_))
 refine WA (Zc (Za rfl (Zg (v:=.bool false) rfl ((ZdP (m:=n) rfl).trans (by rw [decide_eq_false (by omega)])) (Zb (WC (t:=false) rfl (fun h=>by cases h) fun _=>Zl ?_)))))
 refine WA (Zc (Za rfl (Zg (v:=.bool false) rfl ((ZdP (m:=n) rfl).trans (by rw [decide_eq_false (by omega)])) (Zb (WC (t:=false) rfl (fun h=>by cases h) fun _=>Zl ?_)))))
 refine WA (Zc (Za rfl (Zg (v:=.bool (decide ((n:Int) ≥ 256))) rfl (ZdP (m:=n) rfl) (Zb (WC (t:=decide ((n:Int) ≥ 256)) rfl (fun hq=>?_) (fun hq=>?_))))))
 ·have hq:=of_decide_eq_true hq
  refine Zc (Za rfl (Zg (v:=.int .u64 ((n / 256:Nat):Int)) rfl (Qn (m:=n) (d:=8) (by decide) rfl rfl) (Za rfl (Zb ?_))))
  refine zk (Za rfl (ZB (a:=0) (b:=8) rfl rfl ⟨by omega,by omega⟩ (Za rfl (Zb ?_))))
  refine Zc (Za rfl (Za rfl (Zg (v:=.int .u8 ((n / 256:Nat):Int)) rfl (Zii (n:=n / 256) (j:=((n / 256:Nat):Int)) (by omega) rfl rfl) ?_)))
  refine Zg (v:=.int .u8 ((tb (n / 256):Nat):Int)) rfl (Zdk (n:=n / 256) (by omega) rfl) ?_
  have ht:=Zbw (n:=n / 256) (by omega)
  refine Zg (v:=iv ((tb (n / 256):Nat):Int)) rfl (Ziy (n:=tb (n / 256)) (j:=((tb (n / 256):Nat):Int)) (by omega) rfl rfl) (ZB (a:=0+8) (b:=((tb (n / 256):Nat):Int)) rfl rfl ⟨by omega,by omega⟩ (Za rfl (Zb ?_)))
  exact ⟨True.intro,[iv ((0+8)+((tb (n / 256):Nat):Int))],rfl,by unfold Qr;rw [if_pos (by omega)];exact congrArg iv (by omega),Keep.refl _ _⟩
 ·have hq:=of_decide_eq_false hq
  refine Zl ?_
  refine Zc (Za rfl (Za rfl (Zg (v:=.int .u8 ((n:Nat):Int)) rfl (Zii (n:=n) (j:=(n:Int)) (by omega) rfl rfl) ?_)))
  refine Zg (v:=.int .u8 ((tb n:Nat):Int)) rfl (Zdk (n:=n) (by omega) rfl) ?_
  have ht:=Zbw (n:=n) (by omega)
  refine Zg (v:=iv ((tb n:Nat):Int)) rfl (Ziy (n:=tb n) (j:=((tb n:Nat):Int)) (by omega) rfl rfl) (ZB (a:=0) (b:=((tb n:Nat):Int)) rfl rfl ⟨by omega,by omega⟩ (Za rfl (Zb ?_)))
  exact ⟨True.intro,[iv (0+((tb n:Nat):Int))],rfl,by unfold Qr;rw [if_neg (by omega)];exact congrArg iv (by omega),Keep.refl _ _⟩
theorem Zel {n:Nat} (h:n < 65536):∃ H',FnX Try.prog kn lo 81 [.int .u64 n] H (iv (Qr n:Int)) H'∧Keep H H' []:=by
 have key:=Zs (kn:=kn) (lo:=lo) (H:=H) (args:=[.int .u64 n]) (Q:=fun w H'=>w=iv (Qr n:Int)∧Keep H H' []) Try.func81 B81 N81 Z81 L81 (by simp) ?_
 ·obtain ⟨w,H',h,rfl,q⟩:=key;exact ⟨H',h,q⟩
 obtain ⟨H1,h1,k1⟩:=ZeA (kn:=kn) (lo:=lo) (H:=H) h
 refine Zc (Za rfl (Zb (WA (WC (t:=false) rfl (fun h=>by cases h) fun _=>Zl ?_))))
 refine Zc (Za rfl (Zx rfl (Zi h1) (Za rfl (Zb ?_))))
 exact ⟨True.intro,[iv (Qr n:Int)],rfl,rfl,k1⟩
end
end
end Go.Ax

/-
 Pool: what is valid (written by program).
-/
namespace Go.Ax
open Go Go.RowKit Go.Proofs

theorem Zkg:∃ i,Try.prog.info? 24=some i∧i.size=4:=by
 have h:(Try.prog.info? 24).map (fun i=>i.size)=some 4:=by kernel_rfl
 cases e:Try.prog.info? 24 with
 | none=>rw [e] at h;cases h
 | some i=>rw [e] at h;simp at h;exact ⟨i,rfl,h⟩
theorem a24:Wj Try.prog 24=some true:=by kernel_rfl
theorem ZjT:∃ i,Try.prog.info? 47=some i∧i.size=4:=by
 have h:(Try.prog.info? 47).map (fun i=>i.size)=some 4:=by kernel_rfl
 cases e:Try.prog.info? 47 with
 | none=>rw [e] at h;cases h
 | some i=>rw [e] at h;simp at h;exact ⟨i,rfl,h⟩
def inB (n a b:Int):Bool:=decide (a≤n) && decide (n≤b)
theorem YB {n a b:Int} (h:inB n a b=true):a≤n∧n≤b:=by simpa [inB] using h
theorem Xl {n a b:Int} (h:inB n a b=false):¬ (a≤n∧n≤b):=by
 intro q;simp [inB] at h;omega
theorem Ua {α:Type} {l:List α} {i:Nat} {z:α} (h:i < l.length):l[i]? = some (l.getD i z):=by
 rw [List.getD_eq_getElem?_getD,List.getElem?_eq_getElem h];rfl
theorem JU {α:Type} {l:List α} {p:α→Bool} {z:α} (h:∀ j,j < l.length→p (l.getD j z)=false):l.any p=false:=by
 rw [List.any_eq_false]
 intro x hx
 obtain ⟨i,hi,e⟩:=List.mem_iff_getElem.1 hx
 have:=h i hi
 rw [List.getD_eq_getElem?_getD,List.getElem?_eq_getElem hi] at this
 simp at this
 rw [← e,this];simp
theorem QY {α:Type} {l:List α} {p:α→Bool} {z:α} {j:Nat} (hj:j < l.length) (h:p (l.getD j z)=true):l.any p=true:=by
 rw [List.any_eq_true]
 rw [List.getD_eq_getElem?_getD,List.getElem?_eq_getElem hj] at h
 exact ⟨_,List.getElem_mem hj,h⟩
theorem Za2 {α:Type} {l:List α} {p:α→Bool} {z:α} (h:l.any p=false) {j:Nat} (hj:j < l.length):p (l.getD j z)=false:=by
 rw [List.any_eq_false] at h
 have:=h _ (List.getElem_mem hj)
 rw [List.getD_eq_getElem?_getD,List.getElem?_eq_getElem hj]
 simpa using this
structure Cp where
 r:Int
 y:Int
 a:Int
def Cp.z:Cp:=⟨0,0,0⟩
def Cp.f (p:Cp):List Value:=[iv p.r,iv p.y,iv p.a]
structure Gl where
 y:Int
 k:Int
 b:Int
 p:Int
def Gl.z:Gl:=⟨0,0,0,0⟩
def Gl.f (p:Gl):List Value:=[iv p.y,iv p.k,iv p.b,iv p.p]
structure Ev where
 k:Int
 g:Int
 t:Int
 a:Int
def Ev.z:Ev:=⟨0,0,0,0⟩
def Ev.f (p:Ev):List Value:=[iv p.k,iv p.g,iv p.t,iv p.a]
structure Qt where
 g:Int
 b:Int
 a:Int
def Qt.z:Qt:=⟨0,0,0⟩
def Qt.f (p:Qt):List Value:=[iv p.g,iv p.b,iv p.a]
structure Ac where
 g:Int
 q:Int
 u:Int
 x:Int
def Ac.z:Ac:=⟨0,0,0,0⟩
def Ac.f (p:Ac):List Value:=[iv p.g,iv p.q,iv p.u,iv p.x]
structure Mb where
 g:Int
 b:Int
def Mb.z:Mb:=⟨0,0⟩
def Mb.f (p:Mb):List Value:=[iv p.g,iv p.b]
def cpc (l:List Cp):List Value:=l.flatMap Cp.f
theorem KB {l:List Cp}:(cpc l).length=l.length * 3:=VO fun _ _=>rfl
theorem W9 {l:List Cp} {i:Nat} (h:i < l.length):row 3 (cpc l) (0+i * 3)=some (l.getD i Cp.z).f:=Vg (f:=Cp.f) (fun _ _=>rfl) (Ua h)
theorem KN {l:List Cp} {i j:Nat} {v:Value} (h:i < l.length) (hj:(l.getD i Cp.z).f[j]? = some v):(cpc l)[0+i * 3+j]? = some v:=KI (W9 h) hj
def evc (l:List Ev):List Value:=l.flatMap Ev.f
theorem Zdj {l:List Ev} {i:Nat} (h:i < l.length):row 4 (evc l) (0+i * 4)=some (l.getD i Ev.z).f:=Vg (f:=Ev.f) (fun _ _=>rfl) (Ua h)
def qtc (l:List Qt):List Value:=l.flatMap Qt.f
theorem yT {l:List Qt}:(qtc l).length=l.length * 3:=VO fun _ _=>rfl
theorem Ve {l:List Qt} {i:Nat} (h:i < l.length):row 3 (qtc l) (0+i * 3)=some (l.getD i Qt.z).f:=Vg (f:=Qt.f) (fun _ _=>rfl) (Ua h)
theorem Y3 {l:List Qt} {i j:Nat} {v:Value} (h:i < l.length) (hj:(l.getD i Qt.z).f[j]? = some v):(qtc l)[0+i * 3+j]? = some v:=KI (Ve h) hj
def acc (l:List Ac):List Value:=l.flatMap Ac.f
theorem Ze7 {l:List Ac}:(acc l).length=l.length * 4:=VO fun _ _=>rfl
theorem Zae {l:List Ac} {i:Nat} (h:i < l.length):row 4 (acc l) (0+i * 4)=some (l.getD i Ac.z).f:=Vg (f:=Ac.f) (fun _ _=>rfl) (Ua h)
def mbc (l:List Mb):List Value:=l.flatMap Mb.f
theorem Zfb {l:List Mb}:(mbc l).length=l.length * 2:=VO fun _ _=>rfl
theorem Q6 {l:List Mb} {i:Nat} (h:i < l.length):row 2 (mbc l) (0+i * 2)=some (l.getD i Mb.z).f:=Vg (f:=Mb.f) (fun _ _=>rfl) (Ua h)
theorem Zfo {l:List Mb} {i j:Nat} {v:Value} (h:i < l.length) (hj:(l.getD i Mb.z).f[j]? = some v):(mbc l)[0+i * 2+j]? = some v:=KI (Q6 h) hj
def YM (c:Cp):Bool:=!inB c.r 0 1023 || !inB c.y 0 9999 || !inB c.a 0 1099511627776
def vG (g:Gl):Bool:=inB g.y 0 9999 && inB g.k 1 10 && inB g.b 1 g.k && inB g.p 0 1000
def okE (e:Ev):Bool:=(decide (e.k=0) || (decide (e.k=1) && inB e.t 0 1023)) && inB e.g 0 1023 && inB e.a 1 1099511627776
theorem Qz {c:Cp} (h:YM c=false):0≤c.r∧c.r≤1023∧0≤c.y∧c.y≤9999∧0≤c.a∧c.a≤1099511627776:=by
 simp only [YM,Bool.or_eq_false_iff,Bool.not_eq_false'] at h
 have a:=YB h.1.1
 have b:=YB h.1.2
 have c:=YB h.2
 omega
theorem zf {g:Gl} (h:vG g=true):0≤g.y∧g.y≤9999∧1≤g.k∧g.k≤10∧1≤g.b∧g.b≤g.k∧0≤g.p∧g.p≤1000:=by
 simp only [vG,Bool.and_eq_true] at h
 have a:=YB h.1.1.1
 have b:=YB h.1.1.2
 have c:=YB h.1.2
 have d:=YB h.2
 omega
theorem Zgb {e:Ev} (h:okE e=true):(e.k=0∨(e.k=1∧0≤e.t∧e.t≤1023))∧0≤e.g∧e.g≤1023∧1≤e.a∧e.a≤1099511627776:=by
 simp only [okE,Bool.and_eq_true,Bool.or_eq_true,decide_eq_true_eq] at h
 have b:=YB h.1.2
 have c:=YB h.2
 refine ⟨?_,b.1,b.2,c.1,c.2⟩
 rcases h.1.1 with q | ⟨q,r⟩
 ·exact .inl q
 ·have d:=YB r
  exact .inr ⟨q,d.1,d.2⟩
section
variable {kn:Kn} {lo:Nat} {H:Hp}
theorem XJ {n m:Int}:∃ H',FnX Try.prog kn lo 28 [iv n,iv m] H (.bool (inB n 0 m)) H'∧Keep H H' []:=by
 have key:=Zs (kn:=kn) (lo:=lo) (H:=H) (args:=[iv n,iv m]) (Q:=fun w H'=>w=.bool (inB n 0 m)∧Keep H H' []) Try.func28 B28 N28 Z28 L28 (by simp) ?_
 ·obtain ⟨w,H',h,rfl,q⟩:=key;exact ⟨H',h,q⟩
 repeat' first
  | (intro t ht;cases t)
  | exact And.intro trivial (Exists.intro _ (And.intro rfl ⟨by simp_all [X7,inB]<;>(intros;omega),Keep.refl _ _⟩))
  | refine And.intro rfl (Exists.intro _ (And.intro rfl ?_))
theorem U2 {n m:Int}:∃ H',FnX Try.prog kn lo 43 [iv n,iv m] H (.bool (inB n 1 m)) H'∧Keep H H' []:=by
 have key:=Zs (kn:=kn) (lo:=lo) (H:=H) (args:=[iv n,iv m]) (Q:=fun w H'=>w=.bool (inB n 1 m)∧Keep H H' []) Try.func43 B43 N43 Z43 L43 (by simp) ?_
 ·obtain ⟨w,H',h,rfl,q⟩:=key;exact ⟨H',h,q⟩
 repeat' first
  | (intro t ht;cases t)
  | exact And.intro trivial (Exists.intro _ (And.intro rfl ⟨by simp_all [X7,inB]<;>(intros;omega),Keep.refl _ _⟩))
  | refine And.intro rfl (Exists.intro _ (And.intro rfl ?_))
theorem Ug {n a m:Int}:∃ H',FnX Try.prog kn lo 30 [iv n,iv a,iv m] H (.bool (inB n a m)) H'∧Keep H H' []:=by
 have key:=Zs (kn:=kn) (lo:=lo) (H:=H) (args:=[iv n,iv a,iv m]) (Q:=fun w H'=>w=.bool (inB n a m)∧Keep H H' []) Try.func30 B30 N30 Z30 L30 (by simp) ?_
 ·obtain ⟨w,H',h,rfl,q⟩:=key;exact ⟨H',h,q⟩
 repeat' first
  | (intro t ht;cases t)
  | exact And.intro trivial (Exists.intro _ (And.intro rfl ⟨by simp_all [X7,inB]<;>(intros;omega),Keep.refl _ _⟩))
  | refine And.intro rfl (Exists.intro _ (And.intro rfl ?_))
theorem Ze2 {c:Cp} (hlo:lo≤H.next):∃ H',FnX Try.prog kn lo 41 [.agg (Cp.f c).toArray] H (.bool (YM c)) H'∧Keep H H' []:=by
 have key:=Zs (kn:=kn) (lo:=lo) (H:=H) (args:=[.agg (Cp.f c).toArray]) (Q:=fun w H'=>w=.bool (YM c)∧Keep H H' []) Try.func41 B41 N41 Z41 L41 (by simp) ?_
 ·obtain ⟨w,H',h,rfl,q⟩:=key;exact ⟨H',h,q⟩
 have hk:=Keep.refl H []
 refine Zc<|Y5 (v:=.agg (Cp.f c).toArray) rfl ?_
 intro H1 kH1 nH1 c1
 have c1:Cl H1 H.next [iv c.r,iv c.y,iv c.a]:=c1
 have mH1:=kH1.1
 have hk:=hk.trans kH1
 refine Za rfl<|Zb<|Zc<|ZI (b:=H.next) (o:=0) rfl<|Yi (b:=H.next) (o:=0) (v:=iv c.r) rfl c1.rd rfl<|ZX rfl (XJ) ?_
 intro tH2 H2 hH2 kH2
 have mH2:=kH2.1
 have hk:=hk.trans kH2
 have c1:=kH2.cl c1 (by simp)
 cases tH2
 ·have thH2:inB c.r 0 1023=false:=hH2
  have uhH2:=Xl thH2
  refine Zg (v:=.bool true) rfl rfl<|Za rfl<|Zp rfl<|Zp rfl<|Zp rfl<|Zp rfl<|Zg (v:=.bool true) rfl rfl<|Za rfl<|Zp rfl<|Zp rfl<|Zp rfl<|Zp rfl<|Zg (v:=.bool true) rfl rfl<|Za rfl<|Zb ?_
  exact And.intro trivial (Exists.intro _ (And.intro rfl ⟨congrArg Value.bool (show true=(YM c) from (by symm;simp only [YM, *];try rfl)),hk⟩))
 ·have thH2:inB c.r 0 1023=true:=hH2
  have uhH2:=YB thH2
  refine Zg (v:=.bool false) rfl rfl<|Za rfl ?_
  refine ZK rfl (ZI (b:=H.next) (o:=0) rfl ?_)
  refine ZK rfl (Yi (b:=H.next) (o:=1) (v:=iv c.y) rfl c1.rd rfl ?_)
  refine ZK rfl (ZX rfl (XJ) ?_)
  intro tH3 H3 hH3 kH3
  have mH3:=kH3.1
  have hk:=hk.trans kH3
  have c1:=kH3.cl c1 (by simp)
  cases tH3
  ·have thH3:inB c.y 0 9999=false:=hH3
   have uhH3:=Xl thH3
   refine ZK rfl (Zg (v:=.bool true) rfl rfl ?_)
   refine Zg (v:=.bool true) rfl rfl<|Za rfl<|Zp rfl<|Zp rfl<|Zp rfl<|Zp rfl<|Zg (v:=.bool true) rfl rfl<|Za rfl<|Zb ?_
   exact And.intro trivial (Exists.intro _ (And.intro rfl ⟨congrArg Value.bool (show true=(YM c) from (by symm;simp only [YM, *];try rfl)),hk⟩))
  ·have thH3:inB c.y 0 9999=true:=hH3
   have uhH3:=YB thH3
   refine ZK rfl (Zg (v:=.bool false) rfl rfl ?_)
   refine Zg (v:=.bool false) rfl rfl<|Za rfl ?_
   refine ZK rfl (ZI (b:=H.next) (o:=0) rfl ?_)
   refine ZK rfl (Yi (b:=H.next) (o:=2) (v:=iv c.a) rfl c1.rd rfl ?_)
   refine ZK rfl (ZX rfl (XJ) ?_)
   intro tH4 H4 hH4 kH4
   have mH4:=kH4.1
   have hk:=hk.trans kH4
   have c1:=kH4.cl c1 (by simp)
   cases tH4
   ·have thH4:inB c.a 0 1099511627776=false:=hH4
    have uhH4:=Xl thH4
    refine ZK rfl (Zg (v:=.bool true) rfl rfl ?_)
    refine Zg (v:=.bool true) rfl rfl<|Za rfl<|Zb ?_
    exact And.intro trivial (Exists.intro _ (And.intro rfl ⟨congrArg Value.bool (show true=(YM c) from (by symm;simp only [YM, *];try rfl)),hk⟩))
   ·have thH4:inB c.a 0 1099511627776=true:=hH4
    have uhH4:=YB thH4
    refine ZK rfl (Zg (v:=.bool false) rfl rfl ?_)
    refine Zg (v:=.bool false) rfl rfl<|Za rfl<|Zb ?_
    exact And.intro trivial (Exists.intro _ (And.intro rfl ⟨congrArg Value.bool (show false=(YM c) from (by symm;simp only [YM, *];try rfl)),hk⟩))
theorem ZbP {g:Gl} (hlo:lo≤H.next):∃ H',FnX Try.prog kn lo 24 [.agg (Gl.f g).toArray] H (.bool (vG g)) H'∧Keep H H' []:=by
 have key:=Zs (kn:=kn) (lo:=lo) (H:=H) (args:=[.agg (Gl.f g).toArray]) (Q:=fun w H'=>w=.bool (vG g)∧Keep H H' []) Try.func24 B24 N24 Z24 L24 (by simp) ?_
 ·obtain ⟨w,H',h,rfl,q⟩:=key;exact ⟨H',h,q⟩
 have hk:=Keep.refl H []
 refine Zc<|Y5 (v:=.agg (Gl.f g).toArray) rfl ?_
 intro H1 kH1 nH1 c1
 have c1:Cl H1 H.next [iv g.y,iv g.k,iv g.b,iv g.p]:=c1
 have mH1:=kH1.1
 have hk:=hk.trans kH1
 refine Za rfl<|Zb<|Zc<|ZI (b:=H.next) (o:=0) rfl<|Yi (b:=H.next) (o:=0) (v:=iv g.y) rfl c1.rd rfl<|ZX rfl (XJ) ?_
 intro tH2 H2 hH2 kH2
 have mH2:=kH2.1
 have hk:=hk.trans kH2
 have c1:=kH2.cl c1 (by simp)
 cases tH2
 ·have thH2:inB g.y 0 9999=false:=hH2
  have uhH2:=Xl thH2
  refine Za rfl<|Zp rfl<|Zp rfl<|Zp rfl<|Zg (v:=.bool false) rfl rfl<|Za rfl<|Zp rfl<|Zp rfl<|Zp rfl<|Zp rfl<|Zp rfl<|Zg (v:=.bool false) rfl rfl<|Za rfl<|Zp rfl<|Zp rfl<|Zp rfl<|Zg (v:=.bool false) rfl rfl<|Za rfl<|Zb ?_
  exact And.intro trivial (Exists.intro _ (And.intro rfl ⟨congrArg Value.bool (show false=(vG g) from (by symm;simp only [vG, *];try rfl)),hk⟩))
 ·have thH2:inB g.y 0 9999=true:=hH2
  have uhH2:=YB thH2
  refine Za rfl ?_
  refine ZK rfl (ZI (b:=H.next) (o:=0) rfl ?_)
  refine ZK rfl (Yi (b:=H.next) (o:=1) (v:=iv g.k) rfl c1.rd rfl ?_)
  refine ZK rfl (ZX rfl (U2) ?_)
  intro tH3 H3 hH3 kH3
  have mH3:=kH3.1
  have hk:=hk.trans kH3
  have c1:=kH3.cl c1 (by simp)
  cases tH3
  ·have thH3:inB g.k 1 10=false:=hH3
   have uhH3:=Xl thH3
   refine Zg (v:=.bool false) rfl rfl<|Za rfl<|Zp rfl<|Zp rfl<|Zp rfl<|Zp rfl<|Zp rfl<|Zg (v:=.bool false) rfl rfl<|Za rfl<|Zp rfl<|Zp rfl<|Zp rfl<|Zg (v:=.bool false) rfl rfl<|Za rfl<|Zb ?_
   exact And.intro trivial (Exists.intro _ (And.intro rfl ⟨congrArg Value.bool (show false=(vG g) from (by symm;simp only [vG, *];try rfl)),hk⟩))
  ·have thH3:inB g.k 1 10=true:=hH3
   have uhH3:=YB thH3
   refine Zg (v:=.bool true) rfl rfl<|Za rfl ?_
   refine ZK rfl (ZI (b:=H.next) (o:=0) rfl ?_)
   refine ZK rfl (Yi (b:=H.next) (o:=2) (v:=iv g.b) rfl c1.rd rfl ?_)
   refine ZK rfl (ZI (b:=H.next) (o:=0) rfl ?_)
   refine ZK rfl (Yi (b:=H.next) (o:=1) (v:=iv g.k) rfl c1.rd rfl ?_)
   refine ZK rfl (ZX rfl (U2) ?_)
   intro tH4 H4 hH4 kH4
   have mH4:=kH4.1
   have hk:=hk.trans kH4
   have c1:=kH4.cl c1 (by simp)
   cases tH4
   ·have thH4:inB g.b 1 g.k=false:=hH4
    have uhH4:=Xl thH4
    refine Zg (v:=.bool false) rfl rfl<|Za rfl<|Zp rfl<|Zp rfl<|Zp rfl<|Zg (v:=.bool false) rfl rfl<|Za rfl<|Zb ?_
    exact And.intro trivial (Exists.intro _ (And.intro rfl ⟨congrArg Value.bool (show false=(vG g) from (by symm;simp only [vG, *];try rfl)),hk⟩))
   ·have thH4:inB g.b 1 g.k=true:=hH4
    have uhH4:=YB thH4
    refine Zg (v:=.bool true) rfl rfl<|Za rfl ?_
    refine ZK rfl (ZI (b:=H.next) (o:=0) rfl ?_)
    refine ZK rfl (Yi (b:=H.next) (o:=3) (v:=iv g.p) rfl c1.rd rfl ?_)
    refine ZK rfl (ZX rfl (XJ) ?_)
    intro tH5 H5 hH5 kH5
    have mH5:=kH5.1
    have hk:=hk.trans kH5
    have c1:=kH5.cl c1 (by simp)
    cases tH5
    ·have thH5:inB g.p 0 1000=false:=hH5
     have uhH5:=Xl thH5
     refine Zg (v:=.bool false) rfl rfl<|Za rfl<|Zb ?_
     exact And.intro trivial (Exists.intro _ (And.intro rfl ⟨congrArg Value.bool (show false=(vG g) from (by symm;simp only [vG, *];try rfl)),hk⟩))
    ·have thH5:inB g.p 0 1000=true:=hH5
     have uhH5:=YB thH5
     refine Zg (v:=.bool true) rfl rfl<|Za rfl<|Zb ?_
     exact And.intro trivial (Exists.intro _ (And.intro rfl ⟨congrArg Value.bool (show true=(vG g) from (by symm;simp only [vG, *];try rfl)),hk⟩))
theorem ZeG {g:Gl} (hlo:lo≤H.next):∃ H',FnX Try.prog kn lo 39 [.agg (Gl.f g).toArray] H (.bool (vG g)) H'∧Keep H H' []:=by
 have key:=Zs (kn:=kn) (lo:=lo) (H:=H) (args:=[.agg (Gl.f g).toArray]) (Q:=fun w H'=>w=.bool (vG g)∧Keep H H' []) Try.func39 B39 N39 Z39 L39 (by simp) ?_
 ·obtain ⟨w,H',h,rfl,q⟩:=key;exact ⟨H',h,q⟩
 have hk:=Keep.refl H []
 refine Zc<|Y5 (v:=.agg (Gl.f g).toArray) rfl ?_
 intro H1 kH1 nH1 c1
 have c1:Cl H1 H.next [iv g.y,iv g.k,iv g.b,iv g.p]:=c1
 have mH1:=kH1.1
 have hk:=hk.trans kH1
 refine Za rfl<|Zb<|Zc<|ZI (b:=H.next) (o:=0) rfl<|Yi (b:=H.next) (o:=0) (v:=iv g.y) rfl c1.rd rfl<|ZX rfl (Ug) ?_
 intro tH2 H2 hH2 kH2
 have mH2:=kH2.1
 have hk:=hk.trans kH2
 have c1:=kH2.cl c1 (by simp)
 cases tH2
 ·have thH2:inB g.y 0 9999=false:=hH2
  have uhH2:=Xl thH2
  refine Za rfl<|Zp rfl<|Zp rfl<|Zp rfl<|Zg (v:=.bool false) rfl rfl<|Za rfl<|Zp rfl<|Zp rfl<|Zp rfl<|Zp rfl<|Zp rfl<|Zg (v:=.bool false) rfl rfl<|Za rfl<|Zp rfl<|Zp rfl<|Zp rfl<|Zg (v:=.bool false) rfl rfl<|Za rfl<|Zb ?_
  exact And.intro trivial (Exists.intro _ (And.intro rfl ⟨congrArg Value.bool (show false=(vG g) from (by symm;simp only [vG, *];try rfl)),hk⟩))
 ·have thH2:inB g.y 0 9999=true:=hH2
  have uhH2:=YB thH2
  refine Za rfl ?_
  refine ZK rfl (ZI (b:=H.next) (o:=0) rfl ?_)
  refine ZK rfl (Yi (b:=H.next) (o:=1) (v:=iv g.k) rfl c1.rd rfl ?_)
  refine ZK rfl (ZX rfl (Ug) ?_)
  intro tH3 H3 hH3 kH3
  have mH3:=kH3.1
  have hk:=hk.trans kH3
  have c1:=kH3.cl c1 (by simp)
  cases tH3
  ·have thH3:inB g.k 1 10=false:=hH3
   have uhH3:=Xl thH3
   refine Zg (v:=.bool false) rfl rfl<|Za rfl<|Zp rfl<|Zp rfl<|Zp rfl<|Zp rfl<|Zp rfl<|Zg (v:=.bool false) rfl rfl<|Za rfl<|Zp rfl<|Zp rfl<|Zp rfl<|Zg (v:=.bool false) rfl rfl<|Za rfl<|Zb ?_
   exact And.intro trivial (Exists.intro _ (And.intro rfl ⟨congrArg Value.bool (show false=(vG g) from (by symm;simp only [vG, *];try rfl)),hk⟩))
  ·have thH3:inB g.k 1 10=true:=hH3
   have uhH3:=YB thH3
   refine Zg (v:=.bool true) rfl rfl<|Za rfl ?_
   refine ZK rfl (ZI (b:=H.next) (o:=0) rfl ?_)
   refine ZK rfl (Yi (b:=H.next) (o:=2) (v:=iv g.b) rfl c1.rd rfl ?_)
   refine ZK rfl (ZI (b:=H.next) (o:=0) rfl ?_)
   refine ZK rfl (Yi (b:=H.next) (o:=1) (v:=iv g.k) rfl c1.rd rfl ?_)
   refine ZK rfl (ZX rfl (Ug) ?_)
   intro tH4 H4 hH4 kH4
   have mH4:=kH4.1
   have hk:=hk.trans kH4
   have c1:=kH4.cl c1 (by simp)
   cases tH4
   ·have thH4:inB g.b 1 g.k=false:=hH4
    have uhH4:=Xl thH4
    refine Zg (v:=.bool false) rfl rfl<|Za rfl<|Zp rfl<|Zp rfl<|Zp rfl<|Zg (v:=.bool false) rfl rfl<|Za rfl<|Zb ?_
    exact And.intro trivial (Exists.intro _ (And.intro rfl ⟨congrArg Value.bool (show false=(vG g) from (by symm;simp only [vG, *];try rfl)),hk⟩))
   ·have thH4:inB g.b 1 g.k=true:=hH4
    have uhH4:=YB thH4
    refine Zg (v:=.bool true) rfl rfl<|Za rfl ?_
    refine ZK rfl (ZI (b:=H.next) (o:=0) rfl ?_)
    refine ZK rfl (Yi (b:=H.next) (o:=3) (v:=iv g.p) rfl c1.rd rfl ?_)
    refine ZK rfl (ZX rfl (Ug) ?_)
    intro tH5 H5 hH5 kH5
    have mH5:=kH5.1
    have hk:=hk.trans kH5
    have c1:=kH5.cl c1 (by simp)
    cases tH5
    ·have thH5:inB g.p 0 1000=false:=hH5
     have uhH5:=Xl thH5
     refine Zg (v:=.bool false) rfl rfl<|Za rfl<|Zb ?_
     exact And.intro trivial (Exists.intro _ (And.intro rfl ⟨congrArg Value.bool (show false=(vG g) from (by symm;simp only [vG, *];try rfl)),hk⟩))
    ·have thH5:inB g.p 0 1000=true:=hH5
     have uhH5:=YB thH5
     refine Zg (v:=.bool true) rfl rfl<|Za rfl<|Zb ?_
     exact And.intro trivial (Exists.intro _ (And.intro rfl ⟨congrArg Value.bool (show true=(vG g) from (by symm;simp only [vG, *];try rfl)),hk⟩))
theorem Zb3 {e:Ev} (hlo:lo≤H.next):∃ H',FnX Try.prog kn lo 67 [.agg (Ev.f e).toArray] H (.bool (!okE e)) H'∧Keep H H' []:=by
 have key:=Zs (kn:=kn) (lo:=lo) (H:=H) (args:=[.agg (Ev.f e).toArray]) (Q:=fun w H'=>w=.bool (!okE e)∧Keep H H' []) Try.func67 B67 N67 Z67 L67 (by simp) ?_
 ·obtain ⟨w,H',h,rfl,q⟩:=key;exact ⟨H',h,q⟩
 have hk:=Keep.refl H []
 refine Zc<|Y5 (v:=.agg (Ev.f e).toArray) rfl ?_
 intro H1 kH1 nH1 c1
 have c1:Cl H1 H.next [iv e.k,iv e.g,iv e.t,iv e.a]:=c1
 have mH1:=kH1.1
 have hk:=hk.trans kH1
 refine Za rfl<|Zb<|Zc<|ZI (b:=H.next) (o:=0) rfl<|Yi (b:=H.next) (o:=0) (v:=iv e.k) rfl c1.rd rfl<|jg (a:=e.k) (b:=0) rfl rfl ?_
 intro t1 g1;cases t1
 ·have g1:¬ (e.k≠0):=by simpa using g1
  refine Za rfl<|Zp rfl<|Zp rfl<|Zp rfl<|Zg (v:=.bool false) rfl rfl<|Zb<|ZQ ?_
  first | refine Zl ?_ | skip
  refine Zc<|ZI (b:=H.next) (o:=0) rfl<|Yi (b:=H.next) (o:=0) (v:=iv e.k) rfl c1.rd rfl<|Zaa (a:=e.k) (b:=1) rfl rfl ?_
  intro t2 g2;cases t2
  ·have g2:¬ (e.k=1):=by simpa using g2
   refine Za rfl<|Zp rfl<|Zp rfl<|Zp rfl<|Zp rfl<|Zg (v:=.bool false) rfl rfl<|Zb<|ZQ ?_
   first | refine Zl ?_ | skip
   refine Zc<|ZI (b:=H.next) (o:=0) rfl<|Yi (b:=H.next) (o:=1) (v:=iv e.g) rfl c1.rd rfl<|ZX rfl (XJ) ?_
   intro tH2 H2 hH2 kH2
   have mH2:=kH2.1
   have hk:=hk.trans kH2
   have c1:=kH2.cl c1 (by simp)
   cases tH2
   ·have thH2:inB e.g 0 1023=false:=hH2
    have uhH2:=Xl thH2
    refine Zg (v:=.bool true) rfl rfl<|Za rfl<|Zp rfl<|Zp rfl<|Zp rfl<|Zp rfl<|Zg (v:=.bool true) rfl rfl<|Za rfl<|Zb ?_
    exact And.intro trivial (Exists.intro _ (And.intro rfl ⟨congrArg Value.bool (show true=(!okE e) from (by symm;unfold okE;simp only [*];simp_all<;>omega)),hk⟩))
   ·have thH2:inB e.g 0 1023=true:=hH2
    have uhH2:=YB thH2
    refine Zg (v:=.bool false) rfl rfl<|Za rfl ?_
    refine ZK rfl (ZI (b:=H.next) (o:=0) rfl ?_)
    refine ZK rfl (Yi (b:=H.next) (o:=3) (v:=iv e.a) rfl c1.rd rfl ?_)
    refine ZK rfl (ZX rfl (U2) ?_)
    intro tH3 H3 hH3 kH3
    have mH3:=kH3.1
    have hk:=hk.trans kH3
    have c1:=kH3.cl c1 (by simp)
    cases tH3
    ·have thH3:inB e.a 1 1099511627776=false:=hH3
     have uhH3:=Xl thH3
     refine ZK rfl (Zg (v:=.bool true) rfl rfl ?_)
     refine Zg (v:=.bool true) rfl rfl<|Za rfl<|Zb ?_
     exact And.intro trivial (Exists.intro _ (And.intro rfl ⟨congrArg Value.bool (show true=(!okE e) from (by symm;unfold okE;simp only [*];simp_all<;>omega)),hk⟩))
    ·have thH3:inB e.a 1 1099511627776=true:=hH3
     have uhH3:=YB thH3
     refine ZK rfl (Zg (v:=.bool false) rfl rfl ?_)
     refine Zg (v:=.bool false) rfl rfl<|Za rfl<|Zb ?_
     exact And.intro trivial (Exists.intro _ (And.intro rfl ⟨congrArg Value.bool (show false=(!okE e) from (by symm;unfold okE;simp only [*];simp_all<;>omega)),hk⟩))
  ·have g2:e.k=1:=by simpa using g2
   refine Za rfl ?_
   refine ZK rfl (ZI (b:=H.next) (o:=0) rfl ?_)
   refine ZK rfl (Yi (b:=H.next) (o:=2) (v:=iv e.t) rfl c1.rd rfl ?_)
   refine ZK rfl (ZX rfl (XJ) ?_)
   intro tH4 H4 hH4 kH4
   have mH4:=kH4.1
   have hk:=hk.trans kH4
   have c1:=kH4.cl c1 (by simp)
   cases tH4
   ·have thH4:inB e.t 0 1023=false:=hH4
    have uhH4:=Xl thH4
    refine ZK rfl (Zg (v:=.bool true) rfl rfl ?_)
    refine Zg (v:=.bool true) rfl rfl<|Zb<|YN<|Zc<|Za rfl<|Zb ?_
    exact And.intro trivial (Exists.intro _ (And.intro rfl ⟨congrArg Value.bool (show true=(!okE e) from (by symm;unfold okE;simp only [*];simp_all<;>omega)),hk⟩))
   ·have thH4:inB e.t 0 1023=true:=hH4
    have uhH4:=YB thH4
    refine ZK rfl (Zg (v:=.bool false) rfl rfl ?_)
    refine Zg (v:=.bool false) rfl rfl<|Zb<|ZQ ?_
    first | refine Zl ?_ | skip
    refine Zc<|ZI (b:=H.next) (o:=0) rfl<|Yi (b:=H.next) (o:=1) (v:=iv e.g) rfl c1.rd rfl<|ZX rfl (XJ) ?_
    intro tH5 H5 hH5 kH5
    have mH5:=kH5.1
    have hk:=hk.trans kH5
    have c1:=kH5.cl c1 (by simp)
    cases tH5
    ·have thH5:inB e.g 0 1023=false:=hH5
     have uhH5:=Xl thH5
     refine Zg (v:=.bool true) rfl rfl<|Za rfl<|Zp rfl<|Zp rfl<|Zp rfl<|Zp rfl<|Zg (v:=.bool true) rfl rfl<|Za rfl<|Zb ?_
     exact And.intro trivial (Exists.intro _ (And.intro rfl ⟨congrArg Value.bool (show true=(!okE e) from (by symm;unfold okE;simp only [*];simp_all<;>omega)),hk⟩))
    ·have thH5:inB e.g 0 1023=true:=hH5
     have uhH5:=YB thH5
     refine Zg (v:=.bool false) rfl rfl<|Za rfl ?_
     refine ZK rfl (ZI (b:=H.next) (o:=0) rfl ?_)
     refine ZK rfl (Yi (b:=H.next) (o:=3) (v:=iv e.a) rfl c1.rd rfl ?_)
     refine ZK rfl (ZX rfl (U2) ?_)
     intro tH6 H6 hH6 kH6
     have mH6:=kH6.1
     have hk:=hk.trans kH6
     have c1:=kH6.cl c1 (by simp)
     cases tH6
     ·have thH6:inB e.a 1 1099511627776=false:=hH6
      have uhH6:=Xl thH6
      refine ZK rfl (Zg (v:=.bool true) rfl rfl ?_)
      refine Zg (v:=.bool true) rfl rfl<|Za rfl<|Zb ?_
      exact And.intro trivial (Exists.intro _ (And.intro rfl ⟨congrArg Value.bool (show true=(!okE e) from (by symm;unfold okE;simp only [*];simp_all<;>omega)),hk⟩))
     ·have thH6:inB e.a 1 1099511627776=true:=hH6
      have uhH6:=YB thH6
      refine ZK rfl (Zg (v:=.bool false) rfl rfl ?_)
      refine Zg (v:=.bool false) rfl rfl<|Za rfl<|Zb ?_
      exact And.intro trivial (Exists.intro _ (And.intro rfl ⟨congrArg Value.bool (show false=(!okE e) from (by symm;unfold okE;simp only [*];simp_all<;>omega)),hk⟩))
 ·have g1:e.k≠0:=by simpa using g1
  refine Za rfl ?_
  refine ZK rfl (ZI (b:=H.next) (o:=0) rfl ?_)
  refine ZK rfl (Yi (b:=H.next) (o:=0) (v:=iv e.k) rfl c1.rd rfl ?_)
  refine ZK rfl (jg (a:=e.k) (b:=1) rfl rfl ?_)
  intro t3 g3;cases t3
  ·have g3:¬ (e.k≠1):=by simpa using g3
   refine Zg (v:=.bool false) rfl rfl<|Zb<|ZQ ?_
   first | refine Zl ?_ | skip
   refine Zc<|ZI (b:=H.next) (o:=0) rfl<|Yi (b:=H.next) (o:=0) (v:=iv e.k) rfl c1.rd rfl<|Zaa (a:=e.k) (b:=1) rfl rfl ?_
   intro t4 g4;cases t4
   ·have g4:¬ (e.k=1):=by simpa using g4
    refine Za rfl<|Zp rfl<|Zp rfl<|Zp rfl<|Zp rfl<|Zg (v:=.bool false) rfl rfl<|Zb<|ZQ ?_
    first | refine Zl ?_ | skip
    refine Zc<|ZI (b:=H.next) (o:=0) rfl<|Yi (b:=H.next) (o:=1) (v:=iv e.g) rfl c1.rd rfl<|ZX rfl (XJ) ?_
    intro tH7 H7 hH7 kH7
    have mH7:=kH7.1
    have hk:=hk.trans kH7
    have c1:=kH7.cl c1 (by simp)
    cases tH7
    ·have thH7:inB e.g 0 1023=false:=hH7
     have uhH7:=Xl thH7
     refine Zg (v:=.bool true) rfl rfl<|Za rfl<|Zp rfl<|Zp rfl<|Zp rfl<|Zp rfl<|Zg (v:=.bool true) rfl rfl<|Za rfl<|Zb ?_
     exact And.intro trivial (Exists.intro _ (And.intro rfl ⟨congrArg Value.bool (show true=(!okE e) from (by symm;unfold okE;simp only [*];simp_all<;>omega)),hk⟩))
    ·have thH7:inB e.g 0 1023=true:=hH7
     have uhH7:=YB thH7
     refine Zg (v:=.bool false) rfl rfl<|Za rfl ?_
     refine ZK rfl (ZI (b:=H.next) (o:=0) rfl ?_)
     refine ZK rfl (Yi (b:=H.next) (o:=3) (v:=iv e.a) rfl c1.rd rfl ?_)
     refine ZK rfl (ZX rfl (U2) ?_)
     intro tH8 H8 hH8 kH8
     have mH8:=kH8.1
     have hk:=hk.trans kH8
     have c1:=kH8.cl c1 (by simp)
     cases tH8
     ·have thH8:inB e.a 1 1099511627776=false:=hH8
      have uhH8:=Xl thH8
      refine ZK rfl (Zg (v:=.bool true) rfl rfl ?_)
      refine Zg (v:=.bool true) rfl rfl<|Za rfl<|Zb ?_
      exact And.intro trivial (Exists.intro _ (And.intro rfl ⟨congrArg Value.bool (show true=(!okE e) from (by symm;unfold okE;simp only [*];simp_all<;>omega)),hk⟩))
     ·have thH8:inB e.a 1 1099511627776=true:=hH8
      have uhH8:=YB thH8
      refine ZK rfl (Zg (v:=.bool false) rfl rfl ?_)
      refine Zg (v:=.bool false) rfl rfl<|Za rfl<|Zb ?_
      exact And.intro trivial (Exists.intro _ (And.intro rfl ⟨congrArg Value.bool (show false=(!okE e) from (by symm;unfold okE;simp only [*];simp_all<;>omega)),hk⟩))
   ·have g4:e.k=1:=by simpa using g4
    refine Za rfl ?_
    refine ZK rfl (ZI (b:=H.next) (o:=0) rfl ?_)
    refine ZK rfl (Yi (b:=H.next) (o:=2) (v:=iv e.t) rfl c1.rd rfl ?_)
    refine ZK rfl (ZX rfl (XJ) ?_)
    intro tH9 H9 hH9 kH9
    have mH9:=kH9.1
    have hk:=hk.trans kH9
    have c1:=kH9.cl c1 (by simp)
    cases tH9
    ·have thH9:inB e.t 0 1023=false:=hH9
     have uhH9:=Xl thH9
     refine ZK rfl (Zg (v:=.bool true) rfl rfl ?_)
     refine Zg (v:=.bool true) rfl rfl<|Zb<|YN<|Zc<|Za rfl<|Zb ?_
     exact And.intro trivial (Exists.intro _ (And.intro rfl ⟨congrArg Value.bool (show true=(!okE e) from (by symm;unfold okE;simp only [*];simp_all<;>omega)),hk⟩))
    ·have thH9:inB e.t 0 1023=true:=hH9
     have uhH9:=YB thH9
     refine ZK rfl (Zg (v:=.bool false) rfl rfl ?_)
     refine Zg (v:=.bool false) rfl rfl<|Zb<|ZQ ?_
     first | refine Zl ?_ | skip
     refine Zc<|ZI (b:=H.next) (o:=0) rfl<|Yi (b:=H.next) (o:=1) (v:=iv e.g) rfl c1.rd rfl<|ZX rfl (XJ) ?_
     intro tH10 H10 hH10 kH10
     have mH10:=kH10.1
     have hk:=hk.trans kH10
     have c1:=kH10.cl c1 (by simp)
     cases tH10
     ·have thH10:inB e.g 0 1023=false:=hH10
      have uhH10:=Xl thH10
      refine Zg (v:=.bool true) rfl rfl<|Za rfl<|Zp rfl<|Zp rfl<|Zp rfl<|Zp rfl<|Zg (v:=.bool true) rfl rfl<|Za rfl<|Zb ?_
      exact And.intro trivial (Exists.intro _ (And.intro rfl ⟨congrArg Value.bool (show true=(!okE e) from (by symm;unfold okE;simp only [*];simp_all<;>omega)),hk⟩))
     ·have thH10:inB e.g 0 1023=true:=hH10
      have uhH10:=YB thH10
      refine Zg (v:=.bool false) rfl rfl<|Za rfl ?_
      refine ZK rfl (ZI (b:=H.next) (o:=0) rfl ?_)
      refine ZK rfl (Yi (b:=H.next) (o:=3) (v:=iv e.a) rfl c1.rd rfl ?_)
      refine ZK rfl (ZX rfl (U2) ?_)
      intro tH11 H11 hH11 kH11
      have mH11:=kH11.1
      have hk:=hk.trans kH11
      have c1:=kH11.cl c1 (by simp)
      cases tH11
      ·have thH11:inB e.a 1 1099511627776=false:=hH11
       have uhH11:=Xl thH11
       refine ZK rfl (Zg (v:=.bool true) rfl rfl ?_)
       refine Zg (v:=.bool true) rfl rfl<|Za rfl<|Zb ?_
       exact And.intro trivial (Exists.intro _ (And.intro rfl ⟨congrArg Value.bool (show true=(!okE e) from (by symm;unfold okE;simp only [*];simp_all<;>omega)),hk⟩))
      ·have thH11:inB e.a 1 1099511627776=true:=hH11
       have uhH11:=YB thH11
       refine ZK rfl (Zg (v:=.bool false) rfl rfl ?_)
       refine Zg (v:=.bool false) rfl rfl<|Za rfl<|Zb ?_
       exact And.intro trivial (Exists.intro _ (And.intro rfl ⟨congrArg Value.bool (show false=(!okE e) from (by symm;unfold okE;simp only [*];simp_all<;>omega)),hk⟩))
  ·have g3:e.k≠1:=by simpa using g3
   refine Zg (v:=.bool true) rfl rfl<|Zb<|YN<|Zc<|Za rfl<|Zb ?_
   exact And.intro trivial (Exists.intro _ (And.intro rfl ⟨congrArg Value.bool (show true=(!okE e) from (by symm;unfold okE;simp only [*];simp_all<;>omega)),hk⟩))
theorem ZeN {cs:List Cp} {sa:Option Addr} {n cap:Nat} (hs:Sl H sa n cap (cpc cs)) (hl:cs.length=n) (hn:n≤1000000) (hlo:lo≤H.next):∃ x H',FnX Try.prog kn lo 59 [.slice sa n cap,.func (.func 41) #[] #[]] H (iv x) H'∧decide (x ≥ 0)=cs.any YM∧Keep H H' []:=by
 have key:=Zs (kn:=kn) (lo:=lo) (H:=H) (args:=[.slice sa n cap,.func (.func 41) #[] #[]]) (Q:=fun w H'=>∃ x,w=iv x∧decide (x ≥ 0)=cs.any YM∧Keep H H' []) Try.func59 B59 N59 Z59 L59 (by simp) ?_
 ·obtain ⟨w,H',h,x,rfl,r⟩:=key;exact ⟨x,H',h,r⟩
 have hk:=Keep.refl H []
 have fs:=hs.old
 refine Zc<|Za rfl<|Zb<|Zc<|Za rfl<|Yz (m:=n) rfl<|Za rfl<|Zb ?_
 refine ZA (fn:=Try.f59) ZiJ N59 ZiC (fun i:Nat=>[(0,.slice sa n cap),(1,.func (.func 41) #[] #[]),(7,iv (n:Int)),(8,iv (i:Int))])
  (fun k i H'=>i+k=n∧Keep H H' []∧Sl H' sa n cap (cpc cs)∧∀ j,j < i→YM (cs.getD j Cp.z)=false) n 0 ⟨by omega,hk,hs,fun j h=>absurd h (by omega)⟩ ⟨rfl,rfl,rfl,rfl,trivial⟩ ?_
 rintro k i L1 ⟨hik,hk,hs,hall⟩
 have mk:=hk.1
 refine Zc<|ZM (a:=(i:Int)) (b:=(n:Int)) rfl rfl<|Zb ?_
 refine And.intro (fun q1=>?_) (fun q1=>?_)
 ·have q1:(i:Int) < (n:Int):=of_decide_eq_true q1
  have hi:i < n:=by omega
  have fs:=hs.old
  rcases id hs with ⟨_,h0s,_⟩ | ⟨sb,es,rs,_⟩
  ·omega
  have ls:=rs.1
  first | refine Zl ?_ | skip
  refine Zc<|Za rfl<|Za rfl<|Zb<|Zc<|Za rfl<|Za rfl<|Za rfl<|WP (b:=sb) (o:=0) (k:=i) (j:=(i:Int)) (by rw [← es];rfl) rfl rfl hi<|Wo (b:=sb) (o:=0+i * 3) rfl rs (W9 (by omega))<|ZX rfl (Ze2 (by omega)) ?_
  intro tH1 H1 hH1 kH1
  have mH1:=kH1.1
  have hk:=hk.trans kH1
  have hs:=kH1.sl0 hs
  have rs:=kH1.rd rs (by simp)
  cases tH1
  ·have hb:YM (cs.getD i Cp.z)=false:=hH1
   refine Zb<|ZQ ?_
   first | refine Zl ?_ | skip
   show Zq _ _ _ _ _ _ _ _
   refine ZB (a:=(i:Int)) (b:=1) rfl rfl ⟨by omega,by omega⟩<|Za rfl<|Zb ?_
   exact ⟨k - 1,i+1,by omega,⟨by omega,hk,hs,fun j hj=>by rcases Nat.lt_or_ge j i with c | c;exact hall j c;rw [show j=i by omega];exact hb⟩,rfl,rfl,rfl,rfl,trivial⟩
  ·have hb:YM (cs.getD i Cp.z)=true:=hH1
   refine Zb<|YN<|Zc<|Za rfl<|Za rfl<|Zb ?_
   exact And.intro trivial (Exists.intro _ (And.intro rfl ⟨(i:Int),rfl,by rw [QY (z:=Cp.z) (j:=i) (by omega) hb];exact decide_eq_true (by omega),hk⟩))
 ·have q1:¬ ((i:Int) < (n:Int)):=of_decide_eq_false q1
  refine Zc<|Za rfl<|Zb ?_
  exact And.intro trivial (Exists.intro _ (And.intro rfl ⟨-1,rfl,by rw [JU (z:=Cp.z) (fun j hj=>hall j (by omega))];rfl,hk⟩))
theorem ZfE {cs:List Cp} {sa:Option Addr} {n cap:Nat} (hs:Sl H sa n cap (cpc cs)) (hl:cs.length=n) (hn:n≤1000000) (hlo:lo≤H.next):∃ H',FnX Try.prog kn lo 40 [.slice sa n cap,.func (.func 41) #[] #[]] H (.bool (cs.any YM)) H'∧Keep H H' []:=by
 have key:=Zs (kn:=kn) (lo:=lo) (H:=H) (args:=[.slice sa n cap,.func (.func 41) #[] #[]]) (Q:=fun w H'=>w=.bool (cs.any YM)∧Keep H H' []) Try.func40 B40 N40 Z40 L40 (by simp) ?_
 ·obtain ⟨w,H',h,rfl,q⟩:=key;exact ⟨H',h,q⟩
 have hk:=Keep.refl H []
 refine Zc<|Za rfl<|Zb<|Zc<|Za rfl<|Za rfl ?_
 obtain ⟨x,H1,fH1,hx,kH1⟩:=ZeN (kn:=kn) (lo:=lo) (H:=H) hs hl hn (by omega)
 refine Zx (vs:=[.slice sa n cap,.func (.func 41) #[] #[]]) rfl (Zi fH1) ?_
 have mH1:=kH1.1
 have hk:=hk.trans kH1
 refine Zd0 (a:=x) (b:=0) rfl rfl<|Za rfl<|Zb ?_
 exact And.intro trivial (Exists.intro _ (And.intro rfl ⟨congrArg Value.bool hx,hk⟩))
end
end Go.Ax

namespace Go.Ax
open Go Go.RowKit Go.Proofs Go.ChangeShapes Go.WideShapes Go.Deep

def zY (P:Program) (t:TypeId):Prop:=∀ (H:Type) (enc:TypeId × Value→H) (w:World) (base:Nat) (spare:Nat→Bool) (held:Bool) (fuel:Nat) (cs:List Value) (x:DataW H × List MemPlace),
 DataW.trod enc P w base spare held fuel t cs=some x→cs.length=P.cellsOf t∧∀ j,j < cs.length→∃ n,cs[j]? = some (.int .i64 n)
theorem zY.int {P:Program} {t:TypeId} (ht:P.underlying t=some (.int .i64)) (hc:P.cellsOf t=1):zY P t:=by
 intro H enc w base spare held fuel cs x h
 obtain ⟨n,rfl,_⟩:=DataW.trod_int ht h
 refine ⟨by rw [hc];rfl,fun j hj=>⟨n,?_⟩⟩
 have:j=0:=by simp at hj;omega
 subst this;rfl
theorem zY.struct {P:Program} {t:TypeId} {fs:Array Field} (ht:P.underlying t=some (.struct fs)) (hf:∀ f∈fs.toList,zY P f.type)
  (hcov:((List.range (P.cellsOf t)).all fun j=>fs.toList.any fun f=>decide (f.offset≤j) && decide (j < f.offset+P.cellsOf f.type))=true):zY P t:=by
 intro H enc w base spare held fuel cs x h
 obtain ⟨xs,n,_,_,hlen,hxl,hg⟩:=DataW.trod_struct ht h
 refine ⟨hlen,fun j hj=>?_⟩
 have h1:=List.all_eq_true.1 hcov j (List.mem_range.2 (by omega))
 obtain ⟨f,hfm,h2⟩:=List.any_eq_true.1 h1
 simp only [Bool.and_eq_true,decide_eq_true_eq] at h2
 obtain ⟨i,hi,hfi⟩:=List.getElem_of_mem hfm
 have hfs:fs[i]? = some f:=by
  rw [← Array.getElem?_toList,List.getElem?_eq_getElem hi,hfi]
 have hi2:i < xs.length:=by simpa [hxl] using hi
 have h3:=hg i f hfs
 rw [List.getElem?_eq_getElem hi2] at h3
 obtain ⟨h4,h5⟩:=hf f hfm _ _ _ _ _ _ _ _ _ h3
 obtain ⟨m,hm⟩:=h5 (j - f.offset) (by omega)
 refine ⟨m,?_⟩
 rw [List.getElem?_take] at hm
 split at hm
 ·rw [List.getElem?_drop,show f.offset+(j - f.offset)=j by omega] at hm;exact hm
 ·cases hm

structure yA {α:Type} (w:World) (v:Value) (f:α→List Value) (l:List α) (x:Imp):Prop where
 ok:∀ (i:Nat) u,x.cs[i]? = some u→w.cell? ⟨x.blk,x.off+i,none⟩=some u∧Xs u=true
 cs:x.cs=l.flatMap f
 v:(v=.slice none 0 0∧l=[])∨∃ cap,v=.slice (some ⟨x.blk,x.off,none⟩) l.length cap∧l.length≤cap
theorem jv {α:Type} {f:α→List Value} {k:Nat} (hk:0 < k):∀ {l:List α} (_:∀ x∈l,(f x).length=k) (i:Nat) (u:Value),(l.flatMap f)[i]? = some u→∃ x,l[i / k]? = some x∧(f x)[i % k]? = some u
 | [],_,i,u,h=>by simp at h
 | y :: r,hl,i,u,h=>by
  have hy:=hl y (List.mem_cons_self ..)
  rw [List.flatMap_cons,List.getElem?_append] at h
  split at h
  ·rename_i q
   rw [hy] at q
   refine ⟨y,?_,?_⟩
   ·rw [Nat.div_eq_of_lt q];rfl
   ·rw [Nat.mod_eq_of_lt q];exact h
  ·rename_i q
   rw [hy] at q h
   obtain ⟨x,h1,h2⟩:=jv hk (fun x hx=>hl x (List.mem_cons_of_mem _ hx)) _ u h
   refine ⟨x,?_,?_⟩
   ·rw [Nat.div_eq_sub_div hk (by omega)];exact h1
   ·rw [Nat.mod_eq_sub_mod (by omega)];exact h2
theorem jH {H:Type} {enc:TypeId × Value→H} {P:Program} {w:World} {base b0:Nat} {r:Reach} {held:Bool} {α:Type} (f:α→List Value) (mk:(Nat→Int)→α) (k:Nat) {t e:TypeId} {fuel:Nat} {v:Value} {x:DataW H × List MemPlace}
  (ht:P.underlying t=some (.slice e)) (hI:zY P e) (hc:P.cellsOf e=k) (hk:0 < k) (hmk:∀ N:Nat→Int,f (mk N)=(List.range k).map fun j=>Value.int .i64 (N j))
  (hok:Cell.okWide P w r b0 t v) (h:DataW.trod enc P w base (fun _=>true) held fuel t [v]=some x):∃ (l:List α) (y:Imp),yA w v f l y:=by
 rcases open_slice ht h with ⟨h0,_⟩ | ⟨a,len,cap,m,n,D,Pl,hcs,hb,hl,hm,hmm,hx,hi⟩
 ·cases h0
  exact ⟨[],⟨0,0,[]⟩,fun i u e=>by simp at e,rfl,.inl ⟨rfl,rfl⟩⟩
 ·cases hcs
  obtain ⟨blk,off,spot⟩:=a
  have hs:spot=none:=by
   unfold Cell.okWide at hok
   rw [ht] at hok
   unfold Cell.ok at hok
   simp only [ht] at hok
   exact hok.2.2.2.1
  subst hs
  simp only [if_true] at hmm
  subst hmm
  have hcell:∀ i,i < len→∀ j,j < k→∃ n,w.cell? ⟨blk,off+(i * k+j),none⟩=some (.int .i64 n):=by
   intro i hil j hj
   obtain ⟨cs',h1,h2⟩:=hi i (by omega)
   obtain ⟨h3,h4⟩:=hI _ _ _ _ _ _ _ _ _ h2
   obtain ⟨_,h5,h6⟩:=World.cells?_some h1
   obtain ⟨n,hn⟩:=h4 j (by omega)
   refine ⟨n,?_⟩
   have h7:=h6 j (by omega)
   rw [hn,hc,add_add] at h7
   have e:(⟨blk,off,none⟩:Addr).add (i * k+j)=⟨blk,off+(i * k+j),none⟩:=by
    unfold Addr.add
    by_cases q:i * k+j=0
    ·simp [q]
    ·simp
   rw [e] at h7
   exact h7
  refine ⟨(List.range len).map fun i=>mk fun j=>match w.cell? ⟨blk,off+(i * k+j),none⟩ with | some (.int _ n)=>n | _=>0,⟨blk,off,_⟩,?_,rfl,.inr ⟨m,by simp,by simpa using hl⟩⟩
  intro i u hu
  obtain ⟨y,h1,h2⟩:=jv hk (fun y hy=>by
   obtain ⟨i,_,rfl⟩:=List.mem_map.1 hy
   rw [hmk];simp) i u hu
  have hlt:i / k < len:=by
   have:=zS h1
   simpa using this
  rw [List.getElem?_map,List.getElem?_range hlt] at h1
  simp only [Option.map_some,Option.some.injEq] at h1
  subst h1
  have hj:i % k < k:=Nat.mod_lt _ hk
  rw [hmk,List.getElem?_map,List.getElem?_range hj] at h2
  simp only [Option.map_some,Option.some.injEq] at h2
  obtain ⟨n,hn⟩:=hcell _ hlt _ hj
  rw [hn] at h2
  subst h2
  rw [Nat.div_add_mod' ] at hn
  exact ⟨hn,rfl⟩
theorem yA.rel {α:Type} {w:World} {v:Value} {f:α→List Value} {l:List α} {x:Imp} (g:yA w v f l x) {r:Ren} {H:Hp} {b:Nat} (hr:r b=some ⟨x.blk,x.off,none⟩) (hb:b < H.next) (hc:cellsOf H b=some x.cs) (hro:H.t.get b=some (.ro x.cs)) :
  ∃ a cap,VR r (.slice a l.length cap) v∧Sl H a l.length cap (l.flatMap f)∧∀ b,a=some ⟨b,0,none⟩→H.t.get b=some (.ro (l.flatMap f)):=by
 rcases g.v with ⟨rfl,rfl⟩ | ⟨cap,rfl,hl⟩
 ·exact ⟨none,0,.nilSlice,.inl ⟨.inl rfl,rfl,rfl,rfl⟩,fun b e=>by cases e⟩
 ·refine ⟨some ⟨b,0,none⟩,cap,?_,.inr ⟨b,rfl,⟨hb,by rw [hc,g.cs]⟩,hl⟩,fun b' e=>by cases e;rw [hro,g.cs]⟩
  have:=VR.slice (o:=0) (n:=l.length) (c:=cap) hr rfl hl
  simpa using this
end Go.Ax

/-! Slices of rows of plain cells,as_ arguments. -/
namespace Go.Ax
open Go Go.RowKit Go.Proofs Go.ChangeShapes Go.WideShapes Go.Deep

theorem zY.row {α:Type} {P:Program} {t:TypeId} {k:Nat} {f:α→List Value} {mk:(Nat→Int)→α} (h:zY P t) (hc:P.cellsOf t=k) (hmk:∀ N:Nat→Int,f (mk N)=(List.range k).map fun j=>Value.int .i64 (N j))
  {H:Type} {enc:TypeId × Value→H} {w:World} {base:Nat} {spare:Nat→Bool} {held:Bool} (fuel:Nat) (cs:List Value) (x:DataW H × List MemPlace) (hx:DataW.trod enc P w base spare held fuel t cs=some x):∃ y:α,cs=f y∧True:=by
 obtain ⟨h1,h2⟩:=h _ _ _ _ _ _ _ _ _ hx
 have:∃ N:Nat→Int,∀ j,j < cs.length→cs[j]? = some (.int .i64 (N j)):=by
  refine ⟨fun j=>match cs[j]? with | some (.int _ n)=>n | _=>0,fun j hj=>?_⟩
  obtain ⟨n,hn⟩:=h2 j hj
  simp [hn]
 obtain ⟨N,hN⟩:=this
 refine ⟨mk N,?_,trivial⟩
 rw [hmk]
 apply List.ext_getElem?
 intro j
 by_cases hj:j < k
 ·rw [hN j (by omega),List.getElem?_map,List.getElem?_range hj];rfl
 ·rw [List.getElem?_eq_none (by omega),List.getElem?_eq_none (by simp;omega)]
end Go.Ax

/-! Steps of drawn regions where what is only read lies low (written by program,out of the others). -/
namespace Go.Ax
open Go Go.RowKit
section
variable {P:Program} {kn:Kn} {lo n:Nat} {masks:List Nat} {r:List RO} {ks:List Kd} {S:Rg} {H:Hp} {K:Rg→Hp→Prop} {d:Option Nat} {x y:Operand} {rd:Bool} {a b:Int}
end
end Go.Ax

/-! Lists that append makes side by side;blocks that do not move. -/
namespace Go.Ax
open Go Go.RowKit

theorem K6 {f:Nat} {H:Hp} {b:Nat} {cs:List Value} {e:TypeId} {lz:Bool} (hb:f≤b) (hf:f≤H.next):YZ f H (({ H with t:=H.t.set b .dead }:Hp).new (.cells cs e lz)):=by
 refine ⟨Nat.le_succ _,fun c hc=>?_,fun c xs hc hx=>?_⟩
 ·show ((H.t.set b .dead).set H.next _).get c=_
  rw [Tr.get_set,if_neg (by omega),Tr.get_set,if_neg (by omega)]
 ·have hx:((H.t.set b .dead).set H.next (.cells cs e lz)).get c=some (.ro xs):=hx
  have hc:c < H.next+1:=hc
  rw [Tr.get_set] at hx
  split at hx
  ·cases hx
  ·rw [Tr.get_set] at hx
   split at hx
   ·cases hx
   ·exact ⟨by omega,hx⟩
def bkv:Value→Option Nat
 | .slice (some ⟨b,_,_⟩) _ _=>some b
 | _=>none
def Ap (v w:Value):Prop:=∀ b c,bkv v=some b→bkv w=some c→b≠c
theorem Ap.symm {v w:Value} (h:Ap v w):Ap w v:=fun b c h1 h2 e=>h c b h2 h1 e.symm
theorem Acc.ap {lo f:Nat} {e:TypeId} {H:Hp} {w:Value} {m:Nat} {ds:List Value} (h:Acc lo f e H w m ds) (i j:Nat):Ap (.slice (some ⟨H.next,0,none⟩) i j) w:=by
 intro b c h1 h2 e1
 rcases h with ⟨_,_,rfl⟩ | ⟨b2,rfl,_,_,_,hn,_⟩
 ·simp [bkv] at h2
 ·simp [bkv] at h1 h2;omega
theorem Kx {P:Program} {lo:Nat} {H:Hp} {t0 t1 e ep:TypeId} {size k cap2 f:Nat} {a:Option Addr} {v:Value} {cs news:List Value} (he:ZS P t0=some (e,size)) (ht:P.underlying t1=some (.slice ep))
  (hs:Sl H a 1 cap2 news) (hl:news.length=1 * size) (hz:0 < size) (hone:news.all one=true) (hcl:cs.length=k * size) (hk:k < 1000) (ha:Acc lo f e H v k cs) (hlo:lo≤H.next) (hf:f≤H.next) :
  ∃ H1 kd,(∀ (n:Nat) (S:Rg) (d:Option Tmp) (x y:Operand) (ty:TypeId) (p:String),evS S x=some v→evS S y=some (.slice a 1 cap2)→Zv P lo (frS n S) H ⟨d,.call ⟨.builtin .append,#[x,y],#[t0,t1]⟩,ty,p,#[],none⟩=some (.val (.slice (some ⟨H.next,0,none⟩) (k+1) (k+1)) H1,kd))∧(kd=.heavy∨∃ b,kd=.store b∧f≤b)∧
   Acc lo f e H1 (.slice (some ⟨H.next,0,none⟩) (k+1) (k+1)) (k+1) (cs ++ news)∧YZ f H H1∧(∀ (w:Value) (m:Nat) (ds:List Value),Acc lo f e H w m ds→Ap v w→Acc lo f e H1 w m ds):=by
 rcases ha with ⟨rfl,rfl,rfl⟩ | ⟨b,rfl,h0,hb,hlb,hn,hg⟩
 ·refine ⟨H.new (.cells news e true),.heavy,?_,.inl rfl,?_,YZ.of (ZO rfl).1 hf,fun w m ds hw _=>hw.keep (ZO rfl).1⟩
  ·intro n S d x y ty p hx hy
   unfold Zv
   simp only [evs,Yo,hx,hy,Ys,List.getElem?_toArray,List.getElem?_cons_zero,List.getElem?_cons_succ,he,ht,UK hs hl,Z5]
   rfl
  ·refine .inr ⟨H.next,rfl,by omega,hf,hlo,Nat.lt_succ_self _,?_⟩
   show (H.t.set H.next _).get H.next=_
   rw [Tr.get_set,if_pos rfl];rfl
 ·have h1:Nat.ble (0+(k+1) * size) cs.length=false:=by
   cases h:Nat.ble (0+(k+1) * size) cs.length with
   | false=>rfl
   | true=>have:=Nat.le_of_ble_eq_true h;rw [hcl,Nat.succ_mul] at this;omega
  have h2:Nat.beq (0+k * size) cs.length=true:=by rw [hcl,Nat.zero_add];exact Nat.beq_refl _
  have h3:Nat.ble (k+1) 1048576=true:=Nat.ble_eq_true_of_le (by omega)
  have h4:Nat.beq e e=true:=Nat.beq_refl e
  refine ⟨({ H with t:=H.t.set b .dead }:Hp).new (.cells (cs ++ news) e true),.store b,?_,.inr ⟨b,rfl,hb⟩,?_,?_,?_⟩
  ·intro n S d x y ty p hx hy
   unfold Zv
   simp only [evs,Yo,hx,hy,Ys,List.getElem?_toArray,List.getElem?_cons_zero,List.getElem?_cons_succ,he,ht,UK hs hl,Z5,hg,h1,h2,h3,h4,hone,Nat.ble_eq_true_of_le hlb,Bool.and_self,cond_true,cond_false,List.drop_zero,show Nat.beq 1 0=false from rfl]
  ·refine .inr ⟨H.next,rfl,by omega,hf,hlo,Nat.lt_succ_self _,?_⟩
   show ((H.t.set b .dead).set H.next _).get H.next=_
   rw [Tr.get_set,if_pos rfl]
  ·exact K6 hb hf
  ·intro w m ds hw hap
   rcases hw with h | ⟨b2,rfl,q1,q2,q3,q4,q5⟩
   ·exact .inl h
   ·have hne:b≠b2:=hap b b2 rfl rfl
    refine .inr ⟨b2,rfl,q1,q2,q3,Nat.lt_succ_of_lt q4,?_⟩
    show ((H.t.set b .dead).set H.next _).get b2=_
    rw [Tr.get_set,if_neg (by omega),Tr.get_set,if_neg (fun e=>hne e.symm)]
    exact q5
def AcL (lo f:Nat) (e:TypeId) (H:Hp) (l:List (Value × Nat × List Value)):Prop:=(∀ x∈l,Acc lo f e H x.1 x.2.1 x.2.2)∧l.Pairwise fun x y=>Ap x.1 y.1
theorem AcL.keep {lo f:Nat} {e:TypeId} {H H1:Hp} {l:List (Value × Nat × List Value)} (h:AcL lo f e H l) (k:Keep H H1 []):AcL lo f e H1 l:=⟨fun x hx=>(h.1 x hx).keep k,h.2⟩
theorem AcL.keepW {lo f:Nat} {e:TypeId} {H H1:Hp} {l:List (Value × Nat × List Value)} (h:AcL lo f e H l) {x:Nat} (k:Keep H H1 [x]) (hx:x < f):AcL lo f e H1 l:=⟨fun y hy=>(h.1 y hy).keepW k hx,h.2⟩
theorem AcL.app {P:Program} {lo:Nat} {H:Hp} {t0 t1 e ep:TypeId} {size k cap2 f:Nat} {a:Option Addr} {v:Value} {cs news:List Value} (pre post:List (Value × Nat × List Value)) (he:ZS P t0=some (e,size)) (ht:P.underlying t1=some (.slice ep))
  (hs:Sl H a 1 cap2 news) (hl:news.length=1 * size) (hz:0 < size) (hone:news.all one=true) (hcl:cs.length=k * size) (hk:k < 1000) (ha:AcL lo f e H (pre ++ (v,k,cs) :: post)) (hlo:lo≤H.next) (hf:f≤H.next) :
  ∃ H1 kd,(∀ (n:Nat) (S:Rg) (d:Option Tmp) (x y:Operand) (ty:TypeId) (p:String),evS S x=some v→evS S y=some (.slice a 1 cap2)→Zv P lo (frS n S) H ⟨d,.call ⟨.builtin .append,#[x,y],#[t0,t1]⟩,ty,p,#[],none⟩=some (.val (.slice (some ⟨H.next,0,none⟩) (k+1) (k+1)) H1,kd))∧(kd=.heavy∨∃ b,kd=.store b∧f≤b)∧
   AcL lo f e H1 (pre ++ (.slice (some ⟨H.next,0,none⟩) (k+1) (k+1),k+1,cs ++ news) :: post)∧YZ f H H1:=by
 obtain ⟨h1,h2⟩:=ha
 rw [List.pairwise_append,List.pairwise_cons] at h2
 obtain ⟨p1,⟨p2,p3⟩,p4⟩:=h2
 obtain ⟨H1,kd,q1,q2,q3,q4,q5⟩:=Kx he ht hs hl hz hone hcl hk (h1 (v,k,cs) (by simp)) hlo hf
 refine ⟨H1,kd,q1,q2,⟨fun x hx=>?_,?_⟩,q4⟩
 ·rw [List.mem_append,List.mem_cons] at hx
  rcases hx with hx | rfl | hx
  ·exact q5 _ _ _ (h1 x (by simp [hx])) (p4 x hx _ (by simp)).symm
  ·exact q3
  ·exact q5 _ _ _ (h1 x (by simp [hx])) (p2 x hx)
 ·rw [List.pairwise_append,List.pairwise_cons]
  refine ⟨p1,⟨fun x hx=>(h1 x (by simp [hx])).ap _ _,p3⟩,fun x hx y hy=>?_⟩
  rcases List.mem_cons.1 hy with rfl | hy
  ·exact ((h1 x (by simp [hx])).ap _ _).symm
  ·exact p4 x hx y (by simp [hy])
def Sc (H:Hp) (b:Nat) (cs:List Value):Prop:=b < H.next∧∃ e,H.t.get b=some (.cells cs e false)
theorem Sc.cl {H:Hp} {b:Nat} {cs:List Value} (h:Sc H b cs):Cl H b cs:=by
 obtain ⟨h1,e,h2⟩:=h;exact ⟨h1,e,false,h2⟩
theorem Sc.lt {H:Hp} {b:Nat} {cs:List Value} (h:Sc H b cs):b < H.next:=h.1
theorem Keep.sc {H H1:Hp} {l:List Nat} (k:Keep H H1 l) {b:Nat} {cs:List Value} (h:Sc H b cs) (hl:b ∉ l):Sc H1 b cs:=by
 obtain ⟨h1,e,h2⟩:=h;exact ⟨Nat.lt_of_lt_of_le h1 k.1,e,by rw [k.2 b h1 hl];exact h2⟩
theorem YZ.sc {f:Nat} {H H1:Hp} (k:YZ f H H1) {b:Nat} {cs:List Value} (h:Sc H b cs) (hl:b < f):Sc H1 b cs:=by
 obtain ⟨h1,e,h2⟩:=h;exact ⟨Nat.lt_of_lt_of_le h1 k.1,e,by rw [k.2 b hl];exact h2⟩
def Fx (H:Hp) (b:Nat) (cs:List Value):Prop:=b < H.next∧(H.t.get b=some (.ro cs)∨(∃ e,H.t.get b=some (.cells cs e false))∨H.t.get b=some (.cells cs 3 true))
theorem Fx.rd {H:Hp} {b:Nat} {cs:List Value} (h:Fx H b cs):Rd H b cs:=by
 obtain ⟨h1,h2 | ⟨e,h2⟩ | h2⟩:=h<;>exact ⟨h1,by unfold cellsOf;rw [h2]⟩
theorem Fx.lt {H:Hp} {b:Nat} {cs:List Value} (h:Fx H b cs):b < H.next:=h.1
theorem ZgQ {H H1:Hp} {cs:List Value} {e:TypeId} (h:H.new (.cells cs e false)=H1):Sc H1 H.next cs:=⟨by rw [(ZO h).2.1];omega,e,qz h⟩
theorem Zgp {H H1:Hp} {b:Nat} {cs cs':List Value} {e:TypeId} (hc:Sc H b cs) (h:H.up b (.cells cs' e false)=H1):Keep H H1 [b]∧H1.next=H.next∧Sc H1 b cs':=by
 obtain ⟨a,b1,c⟩:=WK hc.cl h
 refine ⟨a,b1,by rw [b1];exact hc.1,e,?_⟩
 rw [← h]
 show (H.t.set b _).get b=_
 rw [Tr.get_set,if_pos rfl]
theorem ZgZ {P:Program} {kn:Kn} {lo n:Nat} {r:List RO} {S:Rg} {H:Hp} {K:Rg→Hp→Prop} {d:Option Nat} {x y:Operand} {b o:Nat} {cs:List Value} {v:Value} (hx:evS S x=some (.pointer (some ⟨b,o,none⟩))) (hy:evS S y=some v) (hc:Sc H b cs) (hl:lo≤b) (hv:v.cells.toList=[v]) (h1:one v=true) (ho:o < cs.length)
  (h:∀ H1,Keep H H1 [b]→H1.next=H.next→Sc H1 b (cs.set o v)→Zq P kn lo n r (Zy S d undef) H1 K):Zq P kn lo n (⟨d,none,.st x y⟩ :: r) S H K:=by
 simp only [Zq,wRO,wRI,hx,hy]
 obtain ⟨_,e,g⟩:=id hc
 exact ⟨cs,e,false,g,hl,hv,h1,ho,fun H1 hH1=>by obtain ⟨a,b,c⟩:=Zgp hc hH1;exact h H1 a b c⟩

end Go.Ax

/-! Arguments that point to what points: inner slices,rows of slices. -/
namespace Go.Ax
open Go Go.RowKit Go.Proofs Go.ChangeShapes Go.WideShapes Go.Deep

def jJ (imps:List Imp):Ren:=fun b=>(imps[b]?).map fun x=>⟨x.blk,x.off,none⟩
theorem Zeg {P:Program} (imps outs:List Imp) (w:World) (h:∀ x∈imps,∀ (i:Nat) v,x.cs[i]? = some v→w.cell? ⟨x.blk,x.off+i,none⟩=some v∧Xs v=true)
  (hcs:∀ x∈outs,∀ (i:Nat) v,x.cs[i]? = some v→∃ v',w.cell? ⟨x.blk,x.off+i,none⟩=some v'∧VR (jJ imps) v v') :
  ∃ (r:Ren) (H:Hp),Rel P r w.heap.size H w∧H.next=(imps ++ outs).length∧(∀ b loc,r b=some loc→b < H.next)∧Ren.Le (jJ imps) r∧∀ (b:Nat) x,(imps ++ outs)[b]? = some x→r b=some ⟨x.blk,x.off,none⟩∧H.t.get b=some (.ro x.cs):=by
 have hall:∀ x∈imps ++ outs,∀ (i:Nat) v,x.cs[i]? = some v→∃ v',w.cell? ⟨x.blk,x.off+i,none⟩=some v'∧VR (jJ imps) v v':=by
  intro x hx i v hv
  rcases List.mem_append.1 hx with hx | hx
  ·obtain ⟨h1,h2⟩:=h x hx i v hv
   exact ⟨v,h1,Jt h2⟩
  ·exact hcs x hx i v hv
 obtain ⟨t,ht⟩:=Zf9 (fun b=>((imps ++ outs)[b]?).map fun x=>.ro x.cs) (imps ++ outs).length
 have hle:Ren.Le (jJ imps) (fun b=>((imps ++ outs)[b]?).map fun x=>⟨x.blk,x.off,none⟩):=fun b loc e=>by
  unfold jJ at e
  have hlt:b < imps.length:=by
   rcases Nat.lt_or_ge b imps.length with q | q
   ·exact q
   ·rw [List.getElem?_eq_none q] at e;cases e
  show ((imps ++ outs)[b]?).map _=_
  rw [List.getElem?_append_left hlt];exact e
 have hr:∀ (b:Nat) loc,((imps ++ outs)[b]?).map (fun x=>(⟨x.blk,x.off,none⟩:Loc))=some loc→∃ x,(imps ++ outs)[b]? = some x∧b < (imps ++ outs).length∧loc=⟨x.blk,x.off,none⟩∧t.get b=some (.ro x.cs):=by
  intro b loc e
  cases hx:(imps ++ outs)[b]? with
  | none=>rw [hx] at e;cases e
  | some x=>
   rw [hx] at e
   simp at e
   have hlt:=zS hx
   exact ⟨x,rfl,hlt,e.symm,by rw [ht,if_pos hlt,hx];rfl⟩
 have low:∀ {g o:Nat} {v:Value},w.cell? ⟨g,o,none⟩=some v→g < w.heap.size:=fun {g o v} hv=>by
  unfold World.cell? at hv
  rcases Nat.lt_or_ge g w.heap.size with q | q
  ·exact q
  ·rw [Array.getElem?_eq_none q] at hv;cases hv
 refine ⟨fun b=>((imps ++ outs)[b]?).map fun x=>⟨x.blk,x.off,none⟩,{ next:=(imps ++ outs).length,t },⟨?_,?_,?_,Nat.le_refl _⟩,rfl,?_,hle,?_⟩
 ·intro b loc e
  obtain ⟨x,hx,hlt,rfl,hg⟩:=hr b loc e
  refine ⟨hlt,?_⟩
  show Dm _ _ _ (t.get b)
  rw [hg]
  cases hc:x.cs with
  | nil=>exact .inl rfl
  | cons v l=>
   obtain ⟨v',h1,_⟩:=hall x (List.mem_of_getElem? hx) 0 v (by rw [hc];rfl)
   exact .inr (low h1)
 ·intro b loc o e eo
  obtain ⟨x,hx,hlt,rfl,hg⟩:=hr b loc e
  rw [hg] at eo;cases eo
  refine ⟨rfl,fun i v ev=>?_⟩
  obtain ⟨v',h1,h2⟩:=hall x (List.mem_of_getElem? hx) i v ev
  unfold World.cell? at h1
  simp only at h1
  split at h1
  ·rename_i C e' f hC
   exact ⟨C,e',f,v',hC,by simpa using h1,h2.mono hle⟩
  ·cases h1
 ·intro b b' loc loc' e e' _ hl _
  obtain ⟨x,hx,hlt,rfl,hg⟩:=hr b loc e
  obtain ⟨o,h1,h2,h3⟩:=hl
  have:t.get b=some o:=h1
  rw [hg] at this;cases this
  cases h3
 ·intro b loc e
  obtain ⟨x,hx,hlt,rfl,hg⟩:=hr b loc e
  exact hlt
 ·intro b x hx
  have hlt:=zS hx
  refine ⟨by simp only [hx,Option.map_some],?_⟩
  show t.get b=_
  rw [ht,if_pos hlt,hx];rfl

structure ZgA {α:Type} (w:World) (v:Value) (f:α→List Value) (l:List α) (x:Imp):Prop where
 ok:∀ (i:Nat) u,x.cs[i]? = some u→w.cell? ⟨x.blk,x.off+i,none⟩=some u∧Xs u=true
 cs:x.cs=l.flatMap f
 v:((v=.slice none 0 0∨∃ a',v=.slice (some a') 0 0)∧l=[])∨∃ cap,v=.slice (some ⟨x.blk,x.off,none⟩) l.length cap∧l.length≤cap
theorem ZgA.rel {α:Type} {w:World} {v:Value} {f:α→List Value} {l:List α} {x:Imp} (g:ZgA w v f l x) {r:Ren} {b:Nat} (hr:r b=some ⟨x.blk,x.off,none⟩) :
  ∃ a cap,VR r (.slice a l.length cap) v∧(∀ y,a=some ⟨y,0,none⟩→y=b)∧∀ H:Hp,b < H.next→H.t.get b=some (.ro x.cs)→Sl H a l.length cap (l.flatMap f):=by
 rcases g.v with ⟨rfl | ⟨a',rfl⟩,rfl⟩ | ⟨cap,rfl,hl⟩
 ·exact ⟨none,0,.nilSlice,fun y e=>by (cases e),fun H _ _=>.inl ⟨.inl rfl,rfl,rfl,rfl⟩⟩
 ·exact ⟨some ⟨0,0,some 0⟩,0,.weird (.inl rfl),fun y e=>by (cases e),fun H _ _=>.inl ⟨.inr rfl,rfl,rfl,rfl⟩⟩
 ·refine ⟨some ⟨b,0,none⟩,cap,?_,fun y e=>by (cases e;rfl),fun H hb hc=>.inr ⟨b,rfl,⟨hb,by unfold cellsOf;rw [hc,g.cs]⟩,hl⟩⟩
  have:=VR.slice (o:=0) (n:=l.length) (c:=cap) hr rfl hl
  simpa using this
structure RV where
 rv:Value
 l:List Int
 x:Imp
def RV.f (r:RV):List Value:=[r.rv]
def RV.Q (w:World) (r:RV):Prop:=ZgA w r.rv (fun n:Int=>[iv n]) r.l r.x
end Go.Ax

/-
 Pool: crops: no two of the same grower and year (42,38,23,21) (written by program).
-/
namespace Go.Ax
open Go Go.RowKit Go.Proofs

noncomputable section
section
variable {P:Program} {kn:Kn} {lo n:Nat} {α:Type} [DecidableEq α] {enc:α→Value} {masks:List Nat} {ks:List Kd} {r:List RO} {S:Rg} {H:Hp} {K:Rg→Hp→Prop} {d:Option Nat}
theorem Ze8 {o:Oper} {H':Hp} {b:Nat} (hd:Vl S o.op.operands.toList=true) (hp:Zn P (frS n S) o=none) (hh:Zv P lo (frS n S) H o=some (.skip H',.store b))
  (h:Zu P kn lo n masks r (.store b :: ks) (Zy S d undef) H' K):Zu P kn lo n masks (⟨d,none,.mst o⟩ :: r) ks S H K:=⟨hd,hp,H',.store b,hh,h⟩
theorem Zav (enc:α→Value) (tm:TypeId):∃ H',(∀ (S:Rg) (n:Nat) dd ty p,Zv P lo (frS n S) H ⟨dd,.makeMap tm none,ty,p,#[],none⟩=some (.val (.map (some H.next)) H',.heavy))∧Keep H H' []∧H'.next=H.next+1∧Mpa enc H' H.next ([]:ML α) 0:=by
 obtain ⟨k1,k2,k3⟩:=zQ (H:=H) (o:=.mp #[] 0) (fun cs e=>by cases e)
 exact ⟨_,fun S n dd ty p=>rfl,k1,k2,by rw [k2];omega,k3⟩
theorem Zcz {tm tk te:TypeId} (k:XP P tk enc) (hu:P.underlying tm=some (.map tk te)) {b c:Nat} {L:ML α} {a:α} {v:Value} (hm:Mpa enc H b L c) (hl:lo≤b) (hf:Z0 v=true) :
  ∃ H',(∀ (S:Rg) (n:Nat) x y w dd ty p,evS S x=some (.map (some b))→evS S y=some (enc a)→evS S w=some v→Zv P lo (frS n S) H ⟨dd,.mapUpdate tm x y w,ty,p,#[],none⟩=some (.skip H',.store b))∧Keep H H' [b]∧H'.next=H.next∧Mpa enc H' b (Xo a v c L) (Y8 a c L):=by
 obtain ⟨k1,k2⟩:=Q4 (H:=H) (b:=b) (o:=.mp (mEs enc (Xo a v c L)) (Y8 a c L)) (fun cs e=>by cases e)
 exact ⟨_,fun S n x y w dd ty p hx hy hw=>Zeq k hu hx hy hw hm hl hf,k1,rfl,hm.1,k2⟩
end
theorem JF {P:Program} {d:Nat} {t:TypeId} {xs ys:Array Value} {fs:Array Field} (hu:ZH P (underlying t)=some (.struct fs)) (hp:P.stoodInHeld t=false) (g:Field→Bool)
  (hf : ∀ f ∈ fs.toList, f.name ≠ "_" ∧ ∃ u v, ZH P (part f.type xs f.offset) = some u ∧ ZH P (part f.type ys f.offset) = some v ∧ ZH P (Op.equalIn d f.type u v) = some (g f)) :
  ZH P (Op.equalIn (d+1) t (.agg xs) (.agg ys))=some (fs.toList.all g):=by
 simp only [Op.equalIn,YC,hu,Option.bind_some,show ZH P program=some P from rfl,hp,Bool.false_eq_true,if_false]
 rw [← Array.forIn_toList]
 generalize fs.toList=l at hf
 induction l with
 | nil=>rfl
 | cons f l ih=>
  obtain ⟨hn,u,v,h1,h2,h3⟩:=hf f (by simp)
  have ih:=ih (fun g hg=>hf g (by simp [hg]))
  simp only [List.forIn_cons,YC,Zg8]
  rw [if_pos hn]
  cases hg:g f with
  | true=>
   simp only [h1,h2,h3,hg,Option.bind_some,Bool.not_true,Bool.false_eq_true,if_false,XZ,List.all_cons,Bool.true_and]
   exact ih
  | false=>
   simp only [h1,h2,h3,hg,Option.bind_some,Bool.not_false,if_true,XZ,List.all_cons,Bool.false_and]
theorem yO {d:Nat} {x y:Int}:ZH Try.prog (Op.equalIn (d+1) 3 (iv x) (iv y))=some (decide (x=y)):=by
 have h:ZH Try.prog (Op.equalIn (d+1) 3 (iv x) (iv y))=some (x == y):=by kernel_rfl
 rw [h]
 by_cases e:x=y<;>simp [e]
def QK (P:Program) (t:TypeId):Array Field:=
 match P.underlying t with
 | some (.struct fs)=>fs
 | _=>#[]
theorem all_map {β γ:Type} (l:List β) (f:β→γ) (g:γ→Bool):l.all (fun x=>g (f x))=(l.map f).all g:=by
 induction l with
 | nil=>rfl
 | cons a l ih=>simp [ih]
theorem Zka:Try.prog.underlying 3=some (.int .i64):=by kernel_rfl
theorem yP:XP Try.prog 3 iv:=ZgR Zka
theorem ZaI:Try.prog.underlying 100=some (.map 102 4):=by kernel_rfl
theorem Zgc:ZH Try.prog (zeroValue 4)=some (.bool false):=by kernel_rfl
abbrev Se:=Int × Int
def seV (p:Se):Value:=.agg #[iv p.1,iv p.2]
theorem Zdh:Try.prog.underlying 102=some (.struct (QK Try.prog 102)):=by kernel_rfl
theorem Zf7 : (QK Try.prog 102).toList.map (fun f => (f.type, f.offset, f.name == "_")) = [(3, 0, false), (3, 1, false)] := by kernel_rfl
theorem Zij:Program.stoodInHeld Try.prog 102=false:=by kernel_rfl
set_option maxRecDepth 100000 in
theorem Zic {d:Nat} (a b:Se):ZH Try.prog (Op.equalIn (d+2) 102 (seV a) (seV b))=some (decide (a=b)):=by
 have h:=JF (d:=d+1) (xs:=#[iv a.1,iv a.2]) (ys:=#[iv b.1,iv b.2]) (Wh Zdh) Zij
  (fun f => (fun q : TypeId × Nat × Bool => if q.2.1 = 0 then decide (a.1 = b.1) else decide (a.2 = b.2)) (f.type, f.offset, f.name == "_")) (by
   intro f hf
   have h : (f.type, f.offset, f.name == "_") ∈ [(3, 0, false), (3, 1, false)] := by rw [← Zf7]; exact List.mem_map.mpr ⟨f, hf, rfl⟩
   simp only [List.mem_cons,List.not_mem_nil,or_false,Prod.mk.injEq] at h
   rcases h with ⟨h1,h2,h3⟩ | ⟨h1,h2,h3⟩<;>(refine ⟨by intro e;rw [e] at h3;simp at h3,?_⟩;rw [h1,h2])
   ·exact ⟨iv a.1,iv b.1,by kernel_rfl,by kernel_rfl,yO⟩
   ·exact ⟨iv a.2,iv b.2,by kernel_rfl,by kernel_rfl,yO⟩)
 rw [all_map (QK Try.prog 102).toList (fun f => (f.type, f.offset, f.name == "_")) (fun q : TypeId × Nat × Bool => if q.2.1 = 0 then decide (a.1 = b.1) else decide (a.2 = b.2)), Zf7] at h
 unfold seV
 rw [show d+2=d+1+1 from rfl,h]
 congr 1
 obtain ⟨a1,a2⟩:=a
 obtain ⟨b1,b2⟩:=b
 by_cases e1:a1=b1<;>by_cases e2:a2=b2<;>simp [e1,e2]
theorem Zje (l:List Int):Instr.sameBits 10000 (.agg (l.map iv).toArray) (.agg (l.map iv).toArray)=true:=by
 show ((l.map iv).toArray.size == (l.map iv).toArray.size && ((l.map iv).toArray.toList.zip (l.map iv).toArray.toList).all fun (x:Value × Value)=>Instr.sameBits 9999 x.1 x.2)=true
 rw [beq_self_eq_true,Bool.true_and]
 simp only []
 induction l with
 | nil=>rfl
 | cons a l ih=>
  simp only [List.map_cons,List.zip_cons_cons,List.all_cons]
  rw [ih,Bool.and_true]
  show (IntKind.i64 == IntKind.i64 && a == a)=true
  simp
theorem Za4:XP Try.prog 102 seV where
 fl:=fun _=>rfl
 chk:=fun a e=>by
  have:∀ x y:Int,ZH Try.prog (Instr.checkKey e 10000 102 (.agg #[iv x,iv y]))=some ():=fun x y=>by kernel_rfl
  exact this _ _
 now:=⟨_,Zdh,.inr ⟨fun _ _=>rfl,fun a b=>Zic (d:=9998) a b⟩⟩
 bits:=fun a=>Zje [a.1,a.2]
def twk (c:Cp):Se:=(c.r,c.y)
def tw (cs:List Cp):Bool:=!decide ((cs.map twk).Nodup)
def vC (cs:List Cp):Bool:=decide (cs.length≤256) && !cs.any YM && !tw cs
theorem Xu {α:Type} {l:List α} {i:Nat} {z:α} (h:i < l.length):l.take (i+1)=l.take i ++ [l.getD i z]:=by
 rw [List.take_add_one,Ua (z:=z) h];rfl
theorem ZbQ {cs:List Cp} {i:Nat} (h:i < cs.length) (hm:twk (cs.getD i Cp.z)∈(cs.take i).map twk):tw cs=true:=by
 unfold tw
 simp only [Bool.not_eq_true',decide_eq_false_iff_not]
 intro hn
 have e:cs=(cs.take i ++ [cs.getD i Cp.z]) ++ cs.drop (i+1):=by rw [← Xu h,List.take_append_drop]
 rw [e,List.map_append,List.map_append] at hn
 have:=(List.nodup_append.1 (List.nodup_append.1 hn).1).2.2
 exact this _ hm _ (by simp) rfl
theorem ZbL {cs:List Cp} {i:Nat} (h:i < cs.length) (hn:((cs.take i).map twk).Nodup) (hm:twk (cs.getD i Cp.z) ∉ (cs.take i).map twk):((cs.take (i+1)).map twk).Nodup:=by
 rw [Xu (z:=Cp.z) h,List.map_append]
 exact List.nodup_append.2 ⟨hn,by simp,fun a ha b hb e=>hm (by rw [← List.mem_singleton.1 (show b∈[twk (cs.getD i Cp.z)] from hb),← e];exact ha)⟩
theorem zn {cs:List Cp} {i:Nat} (h:cs.length≤i) (hn:((cs.take i).map twk).Nodup):tw cs=false:=by
 rw [List.take_of_length_le h] at hn
 unfold tw;simp [hn]
structure Sns (cs:List Cp) (i:Nat) (L:ML Se) (c:Nat):Prop where
 wf:WfA L c
 val:∀ x∈L,x.2.1=.bool true
 key:∀ q,q∈L.map (·.1)↔q∈(cs.take i).map twk
 nd:((cs.take i).map twk).Nodup
theorem KS {α:Type} [DecidableEq α] {L:ML α} {a:α}:(Yg a L).isSome=true↔a∈L.map (·.1):=by
 cases hg:Yg a L with
 | none=>
  have:=je.1 hg
  simp only [Option.isSome_none,Bool.false_eq_true,false_iff,List.mem_map,not_exists,not_and]
  intro x hx e;exact this x hx e.symm
 | some v=>
  obtain ⟨b,hb⟩:=qV hg
  simp only [Option.isSome_some,true_iff,List.mem_map]
  exact ⟨_,hb,rfl⟩
theorem Sns.new {cs:List Cp} {i:Nat} {L:ML Se} {c:Nat} (h:Sns cs i L c) (hi:i < cs.length) (hg:Yg (twk (cs.getD i Cp.z)) L=none):Sns cs (i+1) (Xo (twk (cs.getD i Cp.z)) (.bool true) c L) (Y8 (twk (cs.getD i Cp.z)) c L):=by
 have hm:twk (cs.getD i Cp.z) ∉ (cs.take i).map twk:=by
  rw [← h.key,← KS,hg];simp
 have hf:Wf (twk (cs.getD i Cp.z)) L 0=none:=by
  have:=VI (twk (cs.getD i Cp.z)) L 0
  rw [hg] at this
  cases hq:Wf (twk (cs.getD i Cp.z)) L 0 with
  | none=>rfl
  | some y=>rw [hq] at this;cases this
 refine ⟨h.wf.put _ _,?_,fun q=>?_,ZbL hi h.nd hm⟩
 ·rw [(KC hf).2.2.2]
  intro x hx
  rcases List.mem_append.1 hx with z | z
  ·exact h.val x z
  ·simp at z;rw [z]
 ·rw [K7,h.key,Xu (z:=Cp.z) hi,List.map_append,List.mem_append]
  simp only [List.map_cons,List.map_nil,List.mem_singleton]
  exact ⟨fun z=>z.symm,fun z=>z.symm⟩
section
variable {kn:Kn} {lo:Nat} {H:Hp}
set_option maxRecDepth 100000 in
theorem Zis {cs:List Cp} {sa:Option Addr} {n cap:Nat} (hs:Sl H sa n cap (cpc cs)) (hl:cs.length=n) (hn:n≤1000000) (hlo:lo≤H.next):∃ H',FnX Try.prog kn lo 42 [.slice sa n cap] H (.bool (tw cs)) H'∧Keep H H' []:=by
 have key:=Zs (kn:=kn) (lo:=lo) (H:=H) (args:=[.slice sa n cap]) (Q:=fun w H'=>w=.bool (tw cs)∧Keep H H' []) Try.func42 B42 N42 Z42 L42 (by simp) ?_
 ·obtain ⟨w,H',h,rfl,q⟩:=key;exact ⟨H',h,q⟩
 have hk:=Keep.refl H []
 have fs:=hs.old
 refine Zc<|Za rfl<|Zb<|Zc ?_
 obtain ⟨H1,fH1,kH1,nH1,hmp⟩:=Zav (P:=Try.prog) (lo:=lo) (H:=H) seV 100
 refine X0 (v:=.map (some H.next)) (H':=H1) (k:=.heavy) rfl rfl (fH1 _ _ _ _ _) (fun b e=>by cases e) ?_
 have mH1:=kH1.1
 have hk:=hk.trans kH1
 have hs:=kH1.sl0 hs
 refine Za rfl<|Zb<|Zc<|Za rfl<|Yz (m:=n) rfl<|Za rfl<|Zb ?_
 refine ZA (fn:=Try.f42) Zjy N42 ZiW (fun i:Nat=>[(3,.map (some H.next)),(8,.slice sa n cap),(9,iv (n:Int)),(10,iv (i:Int))])
  (fun k i H'=>i+k=n∧Keep H H' []∧H1.next≤H'.next∧Sl H' sa n cap (cpc cs)∧∃ L c,Mpa seV H' H.next L c∧Sns cs i L c) n 0 ⟨by omega,hk,Nat.le_refl _,hs,[],0,hmp,⟨WfA.nil,(fun x h=>by cases h),fun q=>by simp,List.nodup_nil⟩⟩ ⟨rfl,rfl,rfl,rfl,trivial⟩ ?_
 rintro k i L1 ⟨hik,hk,hnx,hs,L,c,hmp,hG⟩
 have mk:=hk.1
 refine Zc<|ZM (a:=(i:Int)) (b:=(n:Int)) rfl rfl<|Zb ?_
 refine And.intro (fun q1=>?_) (fun q1=>?_)
 ·have q1:(i:Int) < (n:Int):=of_decide_eq_true q1
  have hi:i < n:=by omega
  rcases id hs with ⟨_,h0s,_⟩ | ⟨sb,es,rs,_⟩
  ·omega
  have ls:=rs.1
  have lsb2:=fs sb es
  first | refine Zl ?_ | skip
  refine Zc<|WP (b:=sb) (o:=0) (k:=i) (j:=(i:Int)) (by rw [← es];rfl) rfl rfl hi<|Wo (b:=sb) (o:=0+i * 3) rfl rs (W9 (by omega))<|WQ ?_
  intro H2 kH2 nH2 c2
  have c2:Cl H2 L1.next [iv 0,iv 0,iv 0]:=c2
  have mH2:=kH2.1
  have hk:=hk.trans kH2
  have hs:=kH2.sl0 hs
  have hmp:=kH2.mpa hmp (by simp)
  have rs:=kH2.rd rs (by simp)
  refine Vc (b:=L1.next) (o:=0) rfl rfl c2 (by omega) rfl rfl (by simp) ?_
  intro H3 kH3 nH3 sH3
  have mH3:=kH3.1
  have hk:=hk.new kH3 (fun b hb=>by simp at hb ⊢;omega)
  have hs:=kH3.sl hs (fun b e=>by have:=fs b e;first | (simp;done) | (simp;omega))
  have hmp:=kH3.mpa hmp (by simp;omega)
  have rs:=kH3.rd rs (by first | (simp;done) | (simp;omega))
  have c2:Cl H3 L1.next [iv ((cs.getD i Cp.z).r),iv ((cs.getD i Cp.z).y),iv ((cs.getD i Cp.z).a)]:=sH3
  refine Zb<|Zc<|ZI (b:=L1.next) (o:=0) rfl<|Yi (b:=L1.next) (o:=0) (v:=iv ((cs.getD i Cp.z).r)) rfl c2.rd rfl<|ZI (b:=L1.next) (o:=0) rfl<|Yi (b:=L1.next) (o:=1) (v:=iv ((cs.getD i Cp.z).y)) rfl c2.rd rfl<|Zg (v:=.agg #[iv ((cs.getD i Cp.z).r),iv ((cs.getD i Cp.z).y)]) rfl (by kernel_rfl)<|WQ ?_
  intro H4 kH4 nH4 c4
  have c4:Cl H4 H3.next [iv 0,iv 0]:=c4
  have mH4:=kH4.1
  have hk:=hk.trans kH4
  have hs:=kH4.sl0 hs
  have hmp:=kH4.mpa hmp (by simp)
  have rs:=kH4.rd rs (by simp)
  have c2:=kH4.cl c2 (by simp)
  refine Vc (b:=H3.next) (o:=0) rfl rfl c4 (by omega) rfl rfl (by simp) ?_
  intro H5 kH5 nH5 sH5
  have mH5:=kH5.1
  have hk:=hk.new kH5 (fun b hb=>by simp at hb ⊢;omega)
  have hs:=kH5.sl hs (fun b e=>by have:=fs b e;first | (simp;done) | (simp;omega))
  have hmp:=kH5.mpa hmp (by simp;omega)
  have rs:=kH5.rd rs (by first | (simp;done) | (simp;omega))
  have c2:=kH5.cl c2 (by first | (simp;done) | (simp;omega))
  have c4:Cl H5 H3.next [iv ((cs.getD i Cp.z).r),iv ((cs.getD i Cp.z).y)]:=sH5
  refine Zb<|Zc<|Za rfl<|Wo (b:=H3.next) (o:=0) rfl c4.rd (show row 2 _ _=some [iv ((cs.getD i Cp.z).r),iv ((cs.getD i Cp.z).y)] from rfl) ?_
  cases hg:Yg (twk (cs.getD i Cp.z)) L
  ·refine X0 (v:=.bool false) (H':=H5) (k:=.read H.next) (yd rfl rfl) rfl ((z6 (a:=(twk (cs.getD i Cp.z))) Za4 ZaI Zgc rfl rfl hmp false (by rw [hg];rfl)).trans (by rw [hg];rfl)) (fun q e=>by cases e;exact hmp.1)<|Zb<|ZQ ?_
   first | refine Zl ?_ | skip
   show Zq _ _ _ _ _ _ _ _
   refine Za rfl<|Wo (b:=H3.next) (o:=0) rfl c4.rd (show row 2 _ _=some [iv ((cs.getD i Cp.z).r),iv ((cs.getD i Cp.z).y)] from rfl) ?_
   obtain ⟨H6,fH6,kH6,nH6,mpH6⟩:=Zcz (P:=Try.prog) (lo:=lo) (H:=H5) Za4 ZaI (a:=(twk (cs.getD i Cp.z))) (v:=.bool true) hmp (by omega) rfl
   refine ZfI (Zgo rfl rfl rfl) rfl (fH6 _ _ _ _ _ _ _ _ rfl rfl rfl) ?_
   have mH6:=kH6.1
   have hk:=hk.new kH6 (fun b hb=>by simp at hb ⊢;omega)
   have hs:=kH6.sl hs (fun b e=>by have:=fs b e;first | (simp;done) | (simp;omega))
   have rs:=kH6.rd rs (by first | (simp;done) | (simp;omega))
   have c2:=kH6.cl c2 (by first | (simp;done) | (simp;omega))
   have c4:=kH6.cl c4 (by first | (simp;done) | (simp;omega))
   have hmp:=mpH6
   refine Zb ?_
   show Zq _ _ _ _ _ _ _ _
   refine ZB (a:=(i:Int)) (b:=1) rfl rfl ⟨by omega,by omega⟩<|Za rfl<|Zb ?_
   exact ⟨k - 1,i+1,by omega,⟨by omega,hk,by omega,hs,_,_,hmp,hG.new (by omega) hg⟩,rfl,rfl,rfl,rfl,trivial⟩
  ·rename_i vv
   obtain ⟨bb,hbb⟩:=qV hg
   obtain rfl:vv=.bool true:=hG.val _ hbb
   refine X0 (v:=.bool true) (H':=H5) (k:=.read H.next) (yd rfl rfl) rfl ((z6 (a:=(twk (cs.getD i Cp.z))) Za4 ZaI Zgc rfl rfl hmp false (by rw [hg];rfl)).trans (by rw [hg];rfl)) (fun q e=>by cases e;exact hmp.1)<|Zb<|YN<|Zc<|Za rfl<|Zb ?_
   have hmm:(twk (cs.getD i Cp.z))∈(cs.take i).map twk:=by rw [← hG.key,← KS,hg];rfl
   exact And.intro trivial (Exists.intro _ (And.intro rfl ⟨congrArg Value.bool (ZbQ (by omega) hmm).symm,hk⟩))
 ·have q1:¬ ((i:Int) < (n:Int)):=of_decide_eq_false q1
  first | (refine ZE ?_;show wC _ _ _ _ _ _ _ _ _) | skip
  refine Zc<|Za rfl<|Zb ?_
  exact And.intro trivial (Exists.intro _ (And.intro rfl ⟨congrArg Value.bool (zn (i:=i) (by omega) hG.nd).symm,hk⟩))
set_option maxRecDepth 100000 in
set_option maxHeartbeats 1000000 in
theorem Zfu {cs:List Cp} {sa:Option Addr} {n cap:Nat} (hs:Sl H sa n cap (cpc cs)) (hl:cs.length=n) (hn:n≤1000000) (hlo:lo≤H.next):∃ H',FnX Try.prog kn lo 38 [.slice sa n cap] H (.bool (vC cs)) H'∧Keep H H' []:=by
 have key:=Zs (kn:=kn) (lo:=lo) (H:=H) (args:=[.slice sa n cap]) (Q:=fun w H'=>w=.bool (vC cs)∧Keep H H' []) Try.func38 B38 N38 Z38 L38 (by simp) ?_
 ·obtain ⟨w,H',h,rfl,q⟩:=key;exact ⟨H',h,q⟩
 have hk:=Keep.refl H []
 have fs:=hs.old
 refine Zc<|Za rfl<|Zb<|Zc<|Za rfl<|Zb ?_
 refine ZA (fn:=Try.f38) Zi9 N38 ZhX (fun i:Nat=>[(0,.slice sa n cap),(3,iv (i:Int))])
  (fun k i H'=>i+k=n∧Keep H H' []∧Sl H' sa n cap (cpc cs)∧(∀ j,j < i→YM (cs.getD j Cp.z)=false)∧((cs.take i).map twk).Nodup) n 0 ⟨by omega,hk,hs,fun j h=>absurd h (by omega),List.nodup_nil⟩ ⟨rfl,rfl,trivial⟩ ?_
 rintro k i L1 ⟨hik,hk,hs,hall,hnd⟩
 have mk:=hk.1
 refine Zc<|Za rfl<|Za rfl<|Yz (m:=n) rfl<|Xi (a:=(i:Int)) (b:=(n:Int)) rfl rfl ?_
 intro t1 g1;cases t1
 ·have g1:¬ ((i:Int) < (n:Int)):=of_decide_eq_false g1
  refine Za rfl<|Zp rfl<|Zp rfl<|Zg (v:=.bool false) rfl rfl<|Zb<|ZQ ?_
  first | (refine ZE ?_;show wC _ _ _ _ _ _ _ _ _) | skip
  refine Zc<|Za rfl<|Yz (m:=n) rfl<|Wl (a:=(n:Int)) (b:=256) rfl rfl<|Za rfl<|Zb ?_
  have hv:vC cs=decide ((n:Int)≤256):=by
   by_cases z:i=n
   ·unfold vC;rw [JU (z:=Cp.z) (fun j hj=>hall j (by omega)),zn (i:=i) (by omega) hnd,hl];simp;omega
   ·rw [decide_eq_false (by omega)];unfold vC;rw [decide_eq_false (by omega)];rfl
  exact And.intro trivial (Exists.intro _ (And.intro rfl ⟨by rw [hv];rfl,hk⟩))
 ·have g1:(i:Int) < (n:Int):=of_decide_eq_true g1
  refine Za rfl ?_
  refine ZK rfl (Za rfl ?_)
  refine ZK rfl (jN (a:=(i:Int)) (b:=256) rfl rfl ?_)
  intro t2 g2;cases t2
  ·have g2:¬ ((i:Int)≤256):=of_decide_eq_false g2
   refine Zg (v:=.bool false) rfl rfl<|Zb<|ZQ ?_
   first | (refine ZE ?_;show wC _ _ _ _ _ _ _ _ _) | skip
   refine Zc<|Za rfl<|Yz (m:=n) rfl<|Wl (a:=(n:Int)) (b:=256) rfl rfl<|Za rfl<|Zb ?_
   have hv:vC cs=decide ((n:Int)≤256):=by
    by_cases z:i=n
    ·unfold vC;rw [JU (z:=Cp.z) (fun j hj=>hall j (by omega)),zn (i:=i) (by omega) hnd,hl];simp;omega
    ·rw [decide_eq_false (by omega)];unfold vC;rw [decide_eq_false (by omega)];rfl
   exact And.intro trivial (Exists.intro _ (And.intro rfl ⟨by rw [hv];rfl,hk⟩))
  ·have g2:(i:Int)≤256:=of_decide_eq_true g2
   refine Zg (v:=.bool true) rfl rfl<|Zb<|YN ?_
   have hi:i < n:=by omega
   rcases id hs with ⟨_,h0s,_⟩ | ⟨sb,es,rs,_⟩
   ·omega
   have ls:=rs.1
   have lsb2:=fs sb es
   first | refine Zl ?_ | skip
   refine Zc<|Za rfl<|Za rfl<|WP (b:=sb) (o:=0) (k:=i) (j:=(i:Int)) (by rw [← es];rfl) rfl rfl hi<|Wo (b:=sb) (o:=0+i * 3) rfl rs (W9 (by omega))<|WQ ?_
   intro H1 kH1 nH1 c1
   have c1:Cl H1 L1.next [iv 0,iv 0,iv 0]:=c1
   have mH1:=kH1.1
   have hk:=hk.trans kH1
   have hs:=kH1.sl0 hs
   have rs:=kH1.rd rs (by simp)
   refine Vc (b:=L1.next) (o:=0) rfl rfl c1 (by omega) rfl rfl (by simp) ?_
   intro H2 kH2 nH2 sH2
   have mH2:=kH2.1
   have hk:=hk.new kH2 (fun b hb=>by simp at hb ⊢;omega)
   have hs:=kH2.sl hs (fun b e=>by have:=fs b e;first | (simp;done) | (simp;omega))
   have rs:=kH2.rd rs (by first | (simp;done) | (simp;omega))
   have c1:Cl H2 L1.next [iv ((cs.getD i Cp.z).r),iv ((cs.getD i Cp.z).y),iv ((cs.getD i Cp.z).a)]:=sH2
   refine Zb<|Zc<|ZI (b:=L1.next) (o:=0) rfl<|Yi (b:=L1.next) (o:=0) (v:=iv ((cs.getD i Cp.z).r)) rfl c1.rd rfl<|ZX rfl (Ug) ?_
   intro tH3 H3 hH3 kH3
   have mH3:=kH3.1
   have hk:=hk.trans kH3
   have hs:=kH3.sl0 hs
   have rs:=kH3.rd rs (by simp)
   have c1:=kH3.cl c1 (by simp)
   cases tH3
   ·have thH3:inB ((cs.getD i Cp.z).r) 0 1023=false:=hH3
    have uhH3:=Xl thH3
    refine Zg (v:=.bool true) rfl rfl<|Za rfl<|Zp rfl<|Zp rfl<|Zp rfl<|Zp rfl<|Zg (v:=.bool true) rfl rfl<|Za rfl<|Zp rfl<|Zp rfl<|Zp rfl<|Zp rfl<|Zg (v:=.bool true) rfl rfl<|Zb<|YN ?_
    have hbad:YM (cs.getD i Cp.z)=true:=by simp only [YM, *];rfl
    refine Zc<|Za rfl<|Zb ?_
    have hv:vC cs=false:=by unfold vC;rw [QY (z:=Cp.z) (j:=i) (by omega) hbad];simp
    exact And.intro trivial (Exists.intro _ (And.intro rfl ⟨by rw [hv];rfl,hk⟩))
   ·have thH3:inB ((cs.getD i Cp.z).r) 0 1023=true:=hH3
    have uhH3:=YB thH3
    refine Zg (v:=.bool false) rfl rfl<|Za rfl ?_
    refine ZK rfl (ZI (b:=L1.next) (o:=0) rfl ?_)
    refine ZK rfl (Yi (b:=L1.next) (o:=1) (v:=iv ((cs.getD i Cp.z).y)) rfl c1.rd rfl ?_)
    refine ZK rfl (ZX rfl (Ug) ?_)
    intro tH4 H4 hH4 kH4
    have mH4:=kH4.1
    have hk:=hk.trans kH4
    have hs:=kH4.sl0 hs
    have rs:=kH4.rd rs (by simp)
    have c1:=kH4.cl c1 (by simp)
    cases tH4
    ·have thH4:inB ((cs.getD i Cp.z).y) 0 9999=false:=hH4
     have uhH4:=Xl thH4
     refine ZK rfl (Zg (v:=.bool true) rfl rfl ?_)
     refine Zg (v:=.bool true) rfl rfl<|Za rfl<|Zp rfl<|Zp rfl<|Zp rfl<|Zp rfl<|Zg (v:=.bool true) rfl rfl<|Zb<|YN ?_
     have hbad:YM (cs.getD i Cp.z)=true:=by simp only [YM, *];rfl
     refine Zc<|Za rfl<|Zb ?_
     have hv:vC cs=false:=by unfold vC;rw [QY (z:=Cp.z) (j:=i) (by omega) hbad];simp
     exact And.intro trivial (Exists.intro _ (And.intro rfl ⟨by rw [hv];rfl,hk⟩))
    ·have thH4:inB ((cs.getD i Cp.z).y) 0 9999=true:=hH4
     have uhH4:=YB thH4
     refine ZK rfl (Zg (v:=.bool false) rfl rfl ?_)
     refine Zg (v:=.bool false) rfl rfl<|Za rfl ?_
     refine ZK rfl (ZI (b:=L1.next) (o:=0) rfl ?_)
     refine ZK rfl (Yi (b:=L1.next) (o:=2) (v:=iv ((cs.getD i Cp.z).a)) rfl c1.rd rfl ?_)
     refine ZK rfl (ZX rfl (Ug) ?_)
     intro tH5 H5 hH5 kH5
     have mH5:=kH5.1
     have hk:=hk.trans kH5
     have hs:=kH5.sl0 hs
     have rs:=kH5.rd rs (by simp)
     have c1:=kH5.cl c1 (by simp)
     cases tH5
     ·have thH5:inB ((cs.getD i Cp.z).a) 0 1099511627776=false:=hH5
      have uhH5:=Xl thH5
      refine ZK rfl (Zg (v:=.bool true) rfl rfl ?_)
      refine Zg (v:=.bool true) rfl rfl<|Zb<|YN ?_
      have hbad:YM (cs.getD i Cp.z)=true:=by simp only [YM, *];rfl
      refine Zc<|Za rfl<|Zb ?_
      have hv:vC cs=false:=by unfold vC;rw [QY (z:=Cp.z) (j:=i) (by omega) hbad];simp
      exact And.intro trivial (Exists.intro _ (And.intro rfl ⟨by rw [hv];rfl,hk⟩))
     ·have thH5:inB ((cs.getD i Cp.z).a) 0 1099511627776=true:=hH5
      have uhH5:=YB thH5
      refine ZK rfl (Zg (v:=.bool false) rfl rfl ?_)
      refine Zg (v:=.bool false) rfl rfl<|Zb<|ZQ ?_
      have hbad:YM (cs.getD i Cp.z)=false:=by simp only [YM, *];rfl
      first | refine Zl ?_ | skip
      refine Zc<|Za rfl<|Zb ?_
      refine ZA (fn:=Try.f38) Zix N38 ZhL (fun q:Nat=>[(0,.slice sa n cap),(3,iv (i:Int)),(4,pt L1.next),(5,iv (q:Int))])
       (fun m q H'=>q+m=i∧Keep H H' []∧L1.next+1≤H'.next∧Sl H' sa n cap (cpc cs)∧Rd H' sb (cpc cs)∧Cl H' L1.next [iv (cs.getD i Cp.z).r,iv (cs.getD i Cp.z).y,iv (cs.getD i Cp.z).a]∧∀ j,j < q→twk (cs.getD j Cp.z)≠twk (cs.getD i Cp.z)) i 0 ⟨by omega,hk,by omega,hs,rs,c1,fun j h=>absurd h (by omega)⟩ ⟨rfl,rfl,rfl,rfl,trivial⟩ ?_
      rintro m q L2 ⟨hqm,hk,hnx,hs,rs,ct,hdf⟩
      have mk2:=hk.1
      refine Zc<|Za rfl<|Za rfl<|ZM (a:=(q:Int)) (b:=(i:Int)) rfl rfl<|Zb ?_
      refine And.intro (fun q3=>?_) (fun q3=>?_)
      ·have q3:(q:Int) < (i:Int):=of_decide_eq_true q3
       first | refine Zl ?_ | skip
       refine Y0<|Ze rfl<|Ze rfl<|Zw (b:=sb) (o:=0) (k:=q) (j:=(q:Int)) (by rw [← es];rfl) rfl rfl (by omega)<|ZC (b:=sb) (o:=0+q * 3) rfl<|ZD (b:=sb) (o:=0+q * 3) (v:=iv ((cs.getD q Cp.z).r)) rfl rs (KN (l:=cs) (i:=q) (j:=0) (by omega) rfl)<|ZC (b:=L1.next) (o:=0) rfl<|ZD (b:=L1.next) (o:=0) (v:=iv ((cs.getD i Cp.z).r)) rfl ct.rd rfl<|UN (a:=(cs.getD q Cp.z).r) (b:=(cs.getD i Cp.z).r) rfl rfl ?_
       intro t4 g4;cases t4
       ·have g4:¬ (((cs.getD q Cp.z).r)=((cs.getD i Cp.z).r)):=by simpa using g4
        refine Ze rfl<|Zz rfl<|Zz rfl<|Zz rfl<|Zz rfl<|Zz rfl<|Zz rfl<|Zz rfl<|Zz rfl<|ZR (v:=.bool false) rfl rfl ?_
        refine ZJ (by repeat' first | exact True.intro | exact (fun h=>h) | refine And.intro ?_ ?_ | (intro h;have h:(_:Nat)=_:=h;omega)) ?_
        refine ZQ ?_
        first | refine Zl ?_ | skip
        show Zq _ _ _ _ _ _ _ _
        refine Za rfl<|ZB (a:=(q:Int)) (b:=1) rfl rfl ⟨by omega,by omega⟩<|Za rfl<|Zb ?_
        exact ⟨m - 1,q+1,by omega,⟨by omega,hk,by omega,hs,rs,ct,fun j hj=>by rcases Nat.lt_or_ge j q with c | c;exact hdf j c;rw [show j=q by omega];intro e;have e1:(cs.getD q Cp.z).r=(cs.getD i Cp.z).r:=congrArg Prod.fst e;have e2:(cs.getD q Cp.z).y=(cs.getD i Cp.z).y:=congrArg Prod.snd e;omega⟩,rfl,rfl,rfl,rfl,trivial⟩
       ·have g4:((cs.getD q Cp.z).r)=((cs.getD i Cp.z).r):=by simpa using g4
        refine Ze rfl ?_
        refine Zr rfl (Ze rfl ?_)
        refine Zr rfl (Ze rfl ?_)
        refine Zr rfl (Zw (b:=sb) (o:=0) (k:=q) (j:=(q:Int)) (by rw [← es];rfl) rfl rfl (by omega) ?_)
        refine Zr rfl (ZC (b:=sb) (o:=0+q * 3) rfl ?_)
        refine Zr rfl (ZD (b:=sb) (o:=0+q * 3+1) (v:=iv ((cs.getD q Cp.z).y)) rfl rs (KN (l:=cs) (i:=q) (j:=1) (by omega) rfl) ?_)
        refine Zr rfl (ZC (b:=L1.next) (o:=0) rfl ?_)
        refine Zr rfl (ZD (b:=L1.next) (o:=1) (v:=iv ((cs.getD i Cp.z).y)) rfl ct.rd rfl ?_)
        refine Zr rfl (UN (a:=(cs.getD q Cp.z).y) (b:=(cs.getD i Cp.z).y) rfl rfl ?_)
        intro t5 g5;cases t5
        ·have g5:¬ (((cs.getD q Cp.z).y)=((cs.getD i Cp.z).y)):=by simpa using g5
         refine ZR (v:=.bool false) rfl rfl ?_
         refine ZJ (by repeat' first | exact True.intro | exact (fun h=>h) | refine And.intro ?_ ?_ | (intro h;have h:(_:Nat)=_:=h;omega)) ?_
         refine ZQ ?_
         first | refine Zl ?_ | skip
         show Zq _ _ _ _ _ _ _ _
         refine Za rfl<|ZB (a:=(q:Int)) (b:=1) rfl rfl ⟨by omega,by omega⟩<|Za rfl<|Zb ?_
         exact ⟨m - 1,q+1,by omega,⟨by omega,hk,by omega,hs,rs,ct,fun j hj=>by rcases Nat.lt_or_ge j q with c | c;exact hdf j c;rw [show j=q by omega];intro e;have e1:(cs.getD q Cp.z).r=(cs.getD i Cp.z).r:=congrArg Prod.fst e;have e2:(cs.getD q Cp.z).y=(cs.getD i Cp.z).y:=congrArg Prod.snd e;omega⟩,rfl,rfl,rfl,rfl,trivial⟩
        ·have g5:((cs.getD q Cp.z).y)=((cs.getD i Cp.z).y):=by simpa using g5
         refine ZR (v:=.bool true) rfl rfl ?_
         refine ZJ (by repeat' first | exact True.intro | exact (fun h=>h) | refine And.intro ?_ ?_ | (intro h;have h:(_:Nat)=_:=h;omega)) ?_
         refine YN<|Zc<|Za rfl<|Zb ?_
         have hv:vC cs=false:=by have hm:twk (cs.getD i Cp.z)∈(cs.take i).map twk:=List.mem_map.2 ⟨cs.getD q Cp.z,by rw [List.getD_eq_getElem?_getD,List.getElem?_eq_getElem (by omega)];exact List.mem_take_iff_getElem.2 ⟨q,by omega,rfl⟩,Prod.ext (show (cs.getD q Cp.z).r=(cs.getD i Cp.z).r by omega) (show (cs.getD q Cp.z).y=(cs.getD i Cp.z).y by omega)⟩;unfold vC;rw [ZbQ (by omega) hm];simp
         exact And.intro trivial (Exists.intro _ (And.intro rfl ⟨by rw [hv];rfl,hk⟩))
      ·have q3:¬ ((q:Int) < (i:Int)):=of_decide_eq_false q3
       have eqi:q=i:=by omega
       rw [eqi] at hdf
       first | (refine ZE ?_;show wC _ _ _ _ _ _ _ _ _) | skip
       show Zq _ _ _ _ _ _ _ _
       refine Za rfl<|ZB (a:=(i:Int)) (b:=1) rfl rfl ⟨by omega,by omega⟩<|Za rfl<|Zb ?_
       have hnd2:=ZbL (cs:=cs) (i:=i) (by omega) hnd (fun hm=>by obtain ⟨c,hc,ec⟩:=List.mem_map.1 hm;obtain ⟨q,hq,eq⟩:=List.mem_iff_getElem.1 hc;rw [List.length_take] at hq;rw [List.getElem_take] at eq;refine hdf q (by omega) ?_;rw [← ec,← eq,List.getD_eq_getElem?_getD,List.getElem?_eq_getElem (by omega)];rfl)
       exact ⟨k - 1,i+1,by omega,⟨by omega,hk,hs,fun j hj=>by rcases Nat.lt_or_ge j i with c | c;exact hall j c;rw [show j=i by omega];exact hbad,hnd2⟩,rfl,rfl,trivial⟩
theorem Zb4 {cs:List Cp} {sa:Option Addr} {n cap:Nat} (hs:Sl H sa n cap (cpc cs)) (hl:cs.length=n) (hn:n≤1000000) (hlo:lo≤H.next):∃ H',FnX Try.prog kn lo 23 [.slice sa n cap] H (.bool (vC cs)) H'∧Keep H H' []:=by
 have key:=Zs (kn:=kn) (lo:=lo) (H:=H) (args:=[.slice sa n cap]) (Q:=fun w H'=>w=.bool (vC cs)∧Keep H H' []) Try.func23 B23 N23 Z23 L23 (by simp) ?_
 ·obtain ⟨w,H',h,rfl,q⟩:=key;exact ⟨H',h,q⟩
 have fs:=hs.old
 have hk:=Keep.refl H []
 refine Zc<|Za rfl<|Zb<|Zc<|Za rfl<|Yz (m:=n) rfl<|jN (a:=(n:Int)) (b:=256) rfl rfl ?_
 intro t1 g1;cases t1
 ·have g1:¬ ((n:Int)≤256):=of_decide_eq_false g1
  refine Za rfl<|Zp rfl<|Zp rfl<|Zp rfl<|Zg (v:=.bool false) rfl rfl<|Za rfl<|Zp rfl<|Zp rfl<|Zp rfl<|Zg (v:=.bool false) rfl rfl<|Za rfl<|Zb ?_
  exact And.intro trivial (Exists.intro _ (And.intro rfl ⟨congrArg Value.bool (show false=(vC cs) from (by symm;unfold vC;rw [hl];generalize cs.any YM=qq at *;generalize tw cs=qt at *;simp_all<;>omega)),hk⟩))
 ·have g1:(n:Int)≤256:=of_decide_eq_true g1
  refine Za rfl ?_
  refine ZK rfl (Za rfl ?_)
  refine ZK rfl (ZX rfl (ZfE hs hl hn (by omega)) ?_)
  intro tH1 H1 hH1 kH1
  have mH1:=kH1.1
  have hk:=hk.trans kH1
  have hs:=kH1.sl0 hs
  cases tH1
  ·have hany:cs.any YM=false:=hH1
   refine ZK rfl (Zg (v:=.bool true) rfl rfl ?_)
   refine Zg (v:=.bool true) rfl rfl<|Za rfl ?_
   refine ZK rfl (Za rfl ?_)
   refine ZK rfl (ZX rfl (Zis hs hl hn (by omega)) ?_)
   intro tH2 H2 hH2 kH2
   have mH2:=kH2.1
   have hk:=hk.trans kH2
   have hs:=kH2.sl0 hs
   cases tH2
   ·have htw:tw cs=false:=hH2
    refine ZK rfl (Zg (v:=.bool true) rfl rfl ?_)
    refine Zg (v:=.bool true) rfl rfl<|Za rfl<|Zb ?_
    exact And.intro trivial (Exists.intro _ (And.intro rfl ⟨congrArg Value.bool (show true=(vC cs) from (by symm;unfold vC;rw [hl];generalize cs.any YM=qq at *;generalize tw cs=qt at *;simp_all<;>omega)),hk⟩))
   ·have htw:tw cs=true:=hH2
    refine ZK rfl (Zg (v:=.bool false) rfl rfl ?_)
    refine Zg (v:=.bool false) rfl rfl<|Za rfl<|Zb ?_
    exact And.intro trivial (Exists.intro _ (And.intro rfl ⟨congrArg Value.bool (show false=(vC cs) from (by symm;unfold vC;rw [hl];generalize cs.any YM=qq at *;generalize tw cs=qt at *;simp_all<;>omega)),hk⟩))
  ·have hany:cs.any YM=true:=hH1
   refine ZK rfl (Zg (v:=.bool false) rfl rfl ?_)
   refine Zg (v:=.bool false) rfl rfl<|Za rfl<|Zp rfl<|Zp rfl<|Zp rfl<|Zg (v:=.bool false) rfl rfl<|Za rfl<|Zb ?_
   exact And.intro trivial (Exists.intro _ (And.intro rfl ⟨congrArg Value.bool (show false=(vC cs) from (by symm;unfold vC;rw [hl];generalize cs.any YM=qq at *;generalize tw cs=qt at *;simp_all<;>omega)),hk⟩))
def vA (cs:List Cp) (g:Gl):Bool:=vC cs && vG g
theorem ZjA {cs:List Cp} {sa:Option Addr} {n cap:Nat} (hs:Sl H sa n cap (cpc cs)) (hl:cs.length=n) (hn:n≤1000000) (hlo:lo≤H.next) {g:Gl}:∃ H',FnX Try.prog kn lo 21 [.slice sa n cap,.agg (Gl.f g).toArray] H (.bool (vA cs g)) H'∧Keep H H' []:=by
 have key:=Zs (kn:=kn) (lo:=lo) (H:=H) (args:=[.slice sa n cap,.agg (Gl.f g).toArray]) (Q:=fun w H'=>w=.bool (vA cs g)∧Keep H H' []) Try.func21 B21 N21 Z21 L21 (by simp) ?_
 ·obtain ⟨w,H',h,rfl,q⟩:=key;exact ⟨H',h,q⟩
 have fs:=hs.old
 have hk:=Keep.refl H []
 refine Zc<|Y5 (v:=.agg (Gl.f g).toArray) rfl ?_
 intro H1 kH1 nH1 c1
 have c1:Cl H1 H.next [iv g.y,iv g.k,iv g.b,iv g.p]:=c1
 have mH1:=kH1.1
 have hk:=hk.trans kH1
 have hs:=kH1.sl0 hs
 refine Za rfl<|Zb<|Zc<|Za rfl<|ZX rfl (Zfu hs hl hn (by omega)) ?_
 intro tH2 H2 hH2 kH2
 have mH2:=kH2.1
 have hk:=hk.trans kH2
 have hs:=kH2.sl0 hs
 have c1:=kH2.cl c1 (by simp)
 cases tH2
 ·have hvC:vC cs=false:=hH2
  refine Za rfl<|Zp rfl<|Zp rfl<|Zg (v:=.bool false) rfl rfl<|Za rfl<|Zb ?_
  exact And.intro trivial (Exists.intro _ (And.intro rfl ⟨congrArg Value.bool (show false=(vA cs g) from (by symm;unfold vA;simp_all)),hk⟩))
 ·have hvC:vC cs=true:=hH2
  refine Za rfl ?_
  refine ZK rfl (Wo (b:=H.next) (o:=0) rfl c1.rd (show row 4 _ _=some [iv g.y,iv g.k,iv g.b,iv g.p] from rfl) ?_)
  refine ZK rfl (ZX rfl (ZeG (by omega)) ?_)
  intro tH3 H3 hH3 kH3
  have mH3:=kH3.1
  have hk:=hk.trans kH3
  have hs:=kH3.sl0 hs
  have c1:=kH3.cl c1 (by simp)
  cases tH3
  ·have hvG:vG g=false:=hH3
   refine Zg (v:=.bool false) rfl rfl<|Za rfl<|Zb ?_
   exact And.intro trivial (Exists.intro _ (And.intro rfl ⟨congrArg Value.bool (show false=(vA cs g) from (by symm;unfold vA;simp_all)),hk⟩))
  ·have hvG:vG g=true:=hH3
   refine Zg (v:=.bool true) rfl rfl<|Za rfl<|Zb ?_
   exact And.intro trivial (Exists.intro _ (And.intro rfl ⟨congrArg Value.bool (show true=(vA cs g) from (by symm;unfold vA;simp_all)),hk⟩))
end
end
end Go.Ax

/-! Lists of ints that append makes: cut,and put together. -/
namespace Go.Ax
open Go Go.RowKit Go.Proofs
def cI (xs:List Int):List Value:=xs.map iv
theorem qY {xs:List Int}:(cI xs).length=xs.length:=by simp [cI]
theorem Zaw {ys:List Int} {i:Nat} (h:i < ys.length):(cI ys)[0+i * 1]? = some (iv (ys.getD i 0)):=by
 rw [Nat.zero_add,Nat.mul_one]
 unfold cI
 rw [List.getElem?_map,List.getElem?_eq_getElem h,List.getD_eq_getElem?_getD,List.getElem?_eq_getElem h];rfl
theorem Zh8:∃ i,Try.prog.info? 3=some i∧i.size=1:=by
 have h:(Try.prog.info? 3).map (fun i=>i.size)=some 1:=by kernel_rfl
 cases e:Try.prog.info? 3 with
 | none=>rw [e] at h;cases h
 | some i=>rw [e] at h;simp at h;exact ⟨i,rfl,h⟩
theorem Zfp:Try.prog.underlying 67=some (.slice 3):=by kernel_rfl
theorem ZeO:ZS Try.prog 67=some (3,1):=by kernel_rfl
theorem zo3:Yt Try.prog 3=some (iv 0):=by kernel_rfl
theorem jo {lo f:Nat} {H:Hp} {v:Value} {m k:Nat} {xs:List Int} (h:Acc lo f 3 H v m (cI xs)) (hl:xs.length=m) (hk:k≤m) :
  ∃ rv kd,(∀ (w:Nat) (S:Rg) (d:Option Tmp) (x y:Operand) (ty:TypeId) (p:String),evS S x=some v→evS S y=some (iv (k:Int))→Zv Try.prog lo (frS w S) H ⟨d,.slice 67 x none (some y) none,ty,p,#[],none⟩=some (.val rv H,kd))∧(kd=.pure∨∃ b,kd=.read b∧b < H.next)∧Xr H 1 rv=some (k,cI (xs.take k))∧∃ a,rv=.slice a k m∧Sl H a k m (cI xs)∧(0 < m→v=.slice a m m):=by
 obtain ⟨i,hi,hs⟩:=Zh8
 rcases h with ⟨rfl,hc,rfl⟩ | ⟨b,rfl,h0,hf,hlb,hn,hg⟩
 ·have hx0:xs=[]:=List.eq_nil_of_length_eq_zero hl
  have hk0:k=0:=by omega
  subst hx0 hk0
  refine ⟨.slice none 0 0,.pure,?_,.inl rfl,rfl,none,rfl,.inl ⟨.inl rfl,rfl,rfl,rfl⟩,fun h=>by omega⟩
  intro w S d x y ty p hx hy
  have b0:Yx (frS w S) 0 none=some 0:=rfl
  have b1:Yx (frS w S) 0 (some y)=some 0:=by unfold Yx;simp only [Yo,hy];try rfl
  unfold Zv
  simp only [Yo,hx,Zfp,hi,b0,b1,Nat.beq_refl,Bool.and_self,cond_true]
 ·have hcl:(cI xs).length=m:=by rw [qY];exact hl
  have hrow:row (k * 1) (cI xs) 0=some (cI (xs.take k)):=by
   unfold row
   have e2:(cI xs).take k=cI (xs.take k):=by unfold cI;rw [List.map_take]
   rw [Nat.mul_one,List.drop_zero]
   simp only []
   rw [e2]
   simp only [ZG,qY,List.length_take,hl,Nat.min_eq_left hk,decide_true,cond_true]
  refine ⟨.slice (some ⟨b,0,none⟩) k m,.read b,?_,.inr ⟨b,rfl,hn⟩,?_,some ⟨b,0,none⟩,rfl,.inr ⟨b,rfl,⟨hn,by unfold cellsOf;rw [hg]⟩,hk⟩,fun _=>rfl⟩
  ·intro w S d x y ty p hx hy
   have b0:Yx (frS w S) m (some y)=some k:=by unfold Yx;simp only [Yo,hy]
   have b1:Yx (frS w S) 0 none=some 0:=rfl
   unfold Zv
   simp only [Yo,hx,Zfp,hi,b0,b1,hg,hs,Nat.beq_refl,show Nat.beq 1 0=false from rfl,Bool.not_false,Bool.or_true,Nat.ble_eq_true_of_le hk,Nat.ble_eq_true_of_le (Nat.zero_le k),Bool.and_self,cond_true,QT,Nat.zero_mul,Nat.add_zero,Nat.sub_zero]
  ·simp only [Xr,cellsOf,hg,hrow]
end Go.Ax

/-! Sums over lists of numbers. -/
namespace Go.Ax
open Go Go.RowKit
def YJ (f:Int→Int):List Int→Int
 | []=>0
 | k :: l=>f k+YJ f l
theorem Jf {f:Int→Int}:∀ (a b:List Int),YJ f (a ++ b)=YJ f a+YJ f b
 | [],b=>by simp [YJ]
 | k :: a,b=>by simp only [List.cons_append,YJ,Jf a b];omega
theorem jd {f g h:Int→Int} (e:∀ k,h k=f k+g k):∀ l,YJ h l=YJ f l+YJ g l
 | []=>rfl
 | k :: l=>by simp only [YJ,jd e l,e k];omega
theorem yH {f:Int→Int}:∀ {l:List Int},(∀ k∈l,f k=0)→YJ f l=0
 | [],_=>rfl
 | k :: l,h=>by simp only [YJ];rw [h k (by simp),yH fun x hx=>h x (by simp [hx])];rfl
theorem Zdx {l:List Int} {i:Nat} (h:i < l.length):l.take (i+1)=l.take i ++ [l.getD i 0]:=by
 rw [List.take_add_one,List.getElem?_eq_getElem h,List.getD_eq_getElem?_getD,List.getElem?_eq_getElem h];rfl
theorem y8 {f g:Int→Int}:∀ {l:List Int},(∀ k∈l,f k≤g k)→YJ f l≤YJ g l
 | [],_=>Int.le_refl _
 | k :: l,h=>by
  have a:=h k (List.mem_cons_self ..)
  have b:=y8 (l:=l) fun x hx=>h x (List.mem_cons_of_mem _ hx)
  simp only [YJ];omega
theorem Js {f:Int→Int} {c:Int}:∀ l:List Int,YJ (fun k=>c * f k) l=c * YJ f l
 | []=>by simp [YJ]
 | k :: l=>by simp only [YJ,Js l,Int.mul_add]
end Go.Ax

/-! Maths for a stock that is shared out: parts rounded down,and one more for those of whom most was cut off. Nothing of a program. -/
namespace Go.Ax
open Go

def ZgI (p:Int→Bool) (l:List Int):Int:=YJ (fun g=>if p g then 1 else 0) l
theorem jz {p:Int→Bool}:∀ l:List Int,ZgI p l=((l.filter p).length:Int)
 | []=>rfl
 | x :: l=>by
  have ih:=jz (p:=p) l
  unfold ZgI at ih ⊢
  simp only [YJ,ih,List.filter_cons]
  split<;>simp<;>omega
def cut (total all b:Int):Int:=(total * b) % all
def part (total all b:Int):Int:=(total * b) / all
theorem Zd5 {total all b:Int}:all * part total all b+cut total all b=total * b:=by
 unfold part cut;exact Int.mul_ediv_add_emod _ _
def ZaE (total all:Int) (b:Int→Int) (L:List Int):Int:=total - YJ (fun g=>part total all (b g)) L
theorem ZdQ {total all:Int} {b:Int→Int} {L:List Int} (hall:YJ b L=all):YJ (fun g=>cut total all (b g)) L=all * ZaE total all b L:=by
 have e:=jd (f:=fun g=>all * part total all (b g)) (g:=fun g=>cut total all (b g)) (h:=fun g=>total * b g) (fun g=>Zd5.symm) L
 rw [Js,Js,hall] at e
 unfold ZaE
 rw [Int.mul_sub,Int.mul_comm all total]
 omega
theorem ZcV {total all b:Int} (h:0 < all):0≤cut total all b∧cut total all b≤all - 1:=by
 unfold cut
 have h1:=Int.emod_nonneg (total * b) (b:=all) (by omega)
 have h2:=Int.emod_lt_of_pos (total * b) h
 omega
theorem Zfz {total all:Int} {b:Int→Int} {L:List Int} (ha:0 < all) (hall:YJ b L=all) :
  0≤ZaE total all b L∧ZaE total all b L≤ZgI (fun g=>decide (0 < cut total all (b g))) L:=by
 have e:=ZdQ (total:=total) hall
 have h1:YJ (fun _=>0) L≤YJ (fun g=>cut total all (b g)) L:=y8 fun g _=>(ZcV ha).1
 rw [yH (f:=fun _=>(0:Int)) (fun _ _=>rfl),e] at h1
 have h2:YJ (fun g=>cut total all (b g)) L≤YJ (fun g=>all * (if decide (0 < cut total all (b g)) then 1 else 0)) L:=y8 fun g _=>by
  have:=ZcV (total:=total) (b:=b g) ha
  show cut total all (b g)≤all * (if decide (0 < cut total all (b g)) then 1 else 0)
  by_cases q:0 < cut total all (b g)
  ·simp only [q,decide_true,if_true];omega
  ·simp only [q,decide_false];simp;omega
 rw [Js,e] at h2
 refine ⟨?_,Int.le_of_mul_le_mul_left h2 ha⟩
 rcases Int.lt_or_le (ZaE total all b L) 0 with q | q
 ·have:=Int.mul_neg_of_pos_of_neg ha q
  omega
 ·exact q
def before (c:Int→Int) (x y:Int):Prop:=c y < c x∨c y=c x∧x < y
end Go.Ax

/-! Maths for the average of the greatest of some amounts. Nothing of a program. -/
namespace Go.Ax
open Go

def Jp (t:Int) (l:List Int):Nat:=(l.filter fun y=>decide (t≤y)).length
theorem Qc {t:Int} {a b:List Int} (h:a.Perm b):Jp t a=Jp t b:=(h.filter _).length_eq
theorem j4 {t x:Int}:∀ {l:List Int} {k:Nat},k < l.length→l.getD k 0≤x→Jp t l≤Jp t (l.set k x)
 | [],_,h,_=>absurd h (Nat.not_lt_zero _)
 | y :: l,0,_,hx=>by
  have hx:y≤x:=hx
  unfold Jp
  simp only [List.set_cons_zero,List.filter_cons]
  by_cases h1:t≤y
  ·rw [if_pos (by simpa using h1),if_pos (by simp;omega)];exact Nat.le_refl _
  ·rw [if_neg (by simpa using h1)]
   split
   ·exact Nat.le_succ _
   ·exact Nat.le_refl _
 | y :: l,k+1,h,hx=>by
  have hx:l.getD k 0≤x:=by simpa [List.getD_eq_getElem?_getD] using hx
  have ih:=j4 (t:=t) (x:=x) (l:=l) (k:=k) (by simpa using h) hx
  unfold Jp at ih ⊢
  simp only [List.set_cons_succ,List.filter_cons]
  split
  ·simpa using ih
  ·exact ih
theorem K0 {t:Int}:∀ {l:List Int} (_:l.Pairwise (· ≥ ·)) {i:Nat} (_:i < l.length),t≤l.getD i 0↔i < Jp t l
 | [],_,_,h=>absurd h (Nat.not_lt_zero _)
 | y :: l,hs,i,h=>by
  obtain ⟨h1,h2⟩:=List.pairwise_cons.1 hs
  by_cases q:t≤y
  ·have e:Jp t (y :: l)=Jp t l+1:=by unfold Jp;rw [List.filter_cons,if_pos (by simpa using q)];rfl
   rw [e]
   cases i with
   | zero=>exact ⟨fun _=>Nat.succ_pos _,fun _=>q⟩
   | succ i=>
    have ih:=K0 (t:=t) h2 (i:=i) (by simpa using h)
    have e2:(y :: l).getD (i+1) 0=l.getD i 0:=by simp [List.getD_eq_getElem?_getD]
    rw [e2,ih];omega
  ·have e:Jp t (y :: l)=0:=by
    unfold Jp
    rw [List.filter_cons,if_neg (by simpa using q),List.length_eq_zero_iff,List.filter_eq_nil_iff]
    intro z hz
    have:=h1 z hz
    simp only [decide_eq_true_eq];omega
   rw [e]
   refine ⟨fun hc=>?_,fun hc=>absurd hc (Nat.not_lt_zero _)⟩
   exfalso
   cases i with
   | zero=>exact q hc
   | succ i=>
    have e2:(y :: l).getD (i+1) 0=l.getD i 0:=by simp [List.getD_eq_getElem?_getD]
    rw [e2,List.getD_eq_getElem?_getD,List.getElem?_eq_getElem (by simpa using h)] at hc
    have:=h1 _ (List.getElem_mem (by simpa using h:i < l.length))
    simp at hc
    omega
theorem qj {a b:List Int} (ha:a.Pairwise (· ≥ ·)) (hb:b.Pairwise (· ≥ ·)) (hl:a.length=b.length) (hc:∀ t,Jp t a≤Jp t b) {i:Nat} (hi:i < a.length):a.getD i 0≤b.getD i 0:=
 (K0 hb (by omega)).2 (Nat.lt_of_lt_of_le ((K0 ha hi).1 (Int.le_refl _)) (hc _))
theorem ZeM {a b:List Int} (ha:a.Pairwise (· ≥ ·)) (hb:b.Pairwise (· ≥ ·)) (hp:a.Perm b):a=b:=by
 apply List.ext_getElem hp.length_eq
 intro i h1 h2
 have e1:=qj ha hb hp.length_eq (fun t=>Nat.le_of_eq (Qc hp)) h1
 have e2:=qj hb ha hp.length_eq.symm (fun t=>Nat.le_of_eq (Qc hp).symm) h2
 rw [List.getD_eq_getElem?_getD,List.getD_eq_getElem?_getD,List.getElem?_eq_getElem h1,List.getElem?_eq_getElem h2] at e1 e2
 simp at e1 e2
 omega
def top (k:Nat) (l:List Int):Int:=YJ (fun x=>x) (l.take k)
theorem ZdS:∀ {a b:List Int} {k:Nat},a.length=b.length→(∀ i,i < a.length→a.getD i 0≤b.getD i 0)→top k a≤top k b
 | [],[],_,_,_=>Int.le_refl _
 | [],_ :: _,_,h,_=>by simp at h
 | _ :: _,[],_,h,_=>by simp at h
 | x :: a,y :: b,0,_,_=>Int.le_refl _
 | x :: a,y :: b,k+1,h,hi=>by
  have ih:=ZdS (a:=a) (b:=b) (k:=k) (by simpa using h) fun i q=>by
   have:=hi (i+1) (by simpa using q)
   simpa [List.getD_eq_getElem?_getD] using this
  have h0:x≤y:=hi 0 (Nat.succ_pos _)
  unfold top at ih ⊢
  simp only [List.take_succ_cons,YJ]
  omega
theorem ZaN {lo hi:Int}:∀ {l:List Int},(∀ x∈l,lo≤x∧x≤hi)→lo * l.length≤YJ (fun x=>x) l∧YJ (fun x=>x) l≤hi * l.length
 | [],_=>by simp [YJ]
 | x :: l,h=>by
  have ih:=ZaN (l:=l) fun y hy=>h y (List.mem_cons_of_mem _ hy)
  have h0:=h x (List.mem_cons_self ..)
  simp only [YJ,List.length_cons,Int.natCast_add,Int.natCast_one,Int.mul_add,Int.mul_one]
  omega
def avg (k:Nat) (l:List Int):Int:=top k l / ((min k l.length:Nat):Int)
theorem Zex {k:Nat} {l:List Int} {lo hi:Int} (hk:0 < k) (hl:0 < l.length) (h:∀ x∈l,lo≤x∧x≤hi):lo≤avg k l∧avg k l≤hi:=by
 have q:=ZaN (l:=l.take k) fun x hx=>h x (List.mem_of_mem_take hx)
 rw [List.length_take] at q
 unfold avg top
 have hp:(0:Int) < ((min k l.length:Nat):Int):=by omega
 exact ⟨(Int.le_ediv_iff_mul_le hp).2 q.1,Int.ediv_le_of_le_mul hp (by first | exact q.2 | (rw [Int.mul_comm];exact q.2))⟩
theorem Zfh {l:List Int} (hl:0 < l.length):avg 1 l=l.getD 0 0:=by
 unfold avg top
 cases l with
 | nil=>cases hl
 | cons x l=>simp [YJ]<;>omega
theorem ZaW {k kx:Nat} {xs ys zs:List Int} {x:Int} (hk:0 < k) (h1:ys.Pairwise (· ≥ ·)) (h2:zs.Pairwise (· ≥ ·)) (p1:ys.Perm xs) (p2:zs.Perm (xs.set kx x)) (hkx:kx < xs.length) (hx:xs.getD kx 0≤x):avg k ys≤avg k zs:=by
 have l1:=p1.length_eq
 have l2:=p2.length_eq
 rw [List.length_set] at l2
 have e:ys.length=zs.length:=by omega
 unfold avg
 rw [e]
 refine Int.ediv_le_ediv (by omega) (ZdS e fun i hi=>qj h1 h2 e (fun t=>?_) hi)
 rw [Qc p1,Qc p2]
 exact j4 hkx hx
end Go.Ax

/-! Who counts,and what a base is (no program in it). -/
namespace Go.Ax
open Go Go.RowKit
def Zcw (a:Int):List Int→List Int
 | []=>[a]
 | x :: l=>if a≤x then x :: Zcw a l else a :: x :: l
def dsc:List Int→List Int
 | []=>[]
 | a :: l=>Zcw a (dsc l)
theorem JO (a:Int):∀ l,(Zcw a l).Perm (a :: l)
 | []=>.refl _
 | x :: l=>by
  unfold Zcw
  split
  ·exact (List.Perm.cons x (JO a l)).trans (List.Perm.swap a x l)
  ·exact .refl _
theorem yF (a:Int):∀ {l:List Int},l.Pairwise (· ≥ ·)→(Zcw a l).Pairwise (· ≥ ·)
 | [],_=>List.pairwise_singleton _ _
 | x :: l,h=>by
  rw [List.pairwise_cons] at h
  unfold Zcw
  split
  ·rename_i q
   refine List.pairwise_cons.2 ⟨fun y hy=>?_,yF a h.2⟩
   rcases List.mem_cons.1 ((JO a l).mem_iff.1 hy) with e | e
   ·rw [e];exact q
   ·exact h.1 y e
  ·rename_i q
   refine List.pairwise_cons.2 ⟨fun y hy=>?_,List.pairwise_cons.2 h⟩
   rcases List.mem_cons.1 hy with e | e
   ·rw [e];show x≤a;omega
   ·have:=h.1 y e;show y≤a;omega
theorem XA:∀ l,(dsc l).Perm l
 | []=>.refl _
 | a :: l=>(JO a (dsc l)).trans (List.Perm.cons a (XA l))
theorem VG:∀ l,(dsc l).Pairwise (· ≥ ·)
 | []=>List.Pairwise.nil
 | a :: l=>yF a (VG l)
theorem V7 {l:List Int}:(dsc l).length=l.length:=(XA l).length_eq
theorem Zd4 {ys xs:List Int} (p:ys.Perm xs) (h:ys.Pairwise (· ≥ ·)):ys=dsc xs:=ZeM h (VG xs) (p.trans (XA xs).symm)
def inY (g:Gl) (c:Cp):Bool:=decide (g.y - g.k≤c.y) && decide (c.y < g.y)
def okX (g:Gl) (x:Int) (c:Cp):Bool:=decide (c.r=x) && inY g c
def ZN (g:Gl) (x:Int) (cs:List Cp):List Int:=(cs.filter (okX g x)).map (·.a)
theorem ye {g:Gl} {x:Int} {cs:List Cp} {i:Nat} (h:i < cs.length):ZN g x (cs.take (i+1))=ZN g x (cs.take i) ++ (if okX g x (cs.getD i Cp.z)=true then [(cs.getD i Cp.z).a] else []):=by
 unfold ZN
 rw [Xu (z:=Cp.z) h,List.filter_append,List.map_append]
 congr 1
 simp only [List.filter_cons,List.filter_nil]
 split<;>rfl
theorem Va {g:Gl} {x:Int} {cs:List Cp} {i:Nat} (h:i < cs.length) (h2:okX g x (cs.getD i Cp.z)=true):ZN g x (cs.take (i+1))=ZN g x (cs.take i) ++ [(cs.getD i Cp.z).a]:=by rw [ye h,if_pos h2]
theorem Vt {g:Gl} {x:Int} {cs:List Cp} {i:Nat} (h:i < cs.length) (h2:okX g x (cs.getD i Cp.z)=false):ZN g x (cs.take (i+1))=ZN g x (cs.take i):=by rw [ye h,if_neg (by rw [h2];simp),List.append_nil]
theorem zN {g:Gl} {x:Int} {cs:List Cp}:(ZN g x cs).length≤cs.length:=by
 unfold ZN;rw [List.length_map];exact List.length_filter_le _ _
theorem Kz {g:Gl} {x:Int} {cs:List Cp} (h:cs.any YM=false):∀ a∈ZN g x cs,0≤a∧a≤1099511627776:=by
 intro a ha
 obtain ⟨c,hc,e⟩:=List.mem_map.1 ha
 have hm:=(List.mem_filter.1 hc).1
 rw [List.any_eq_false] at h
 have:=Qz (c:=c) (by simpa using h c hm)
 rw [← e];omega
theorem Q3 {g:Gl} {x:Int} {cs:List Cp}:ZN g x cs≠[]↔∃ c∈cs,c.r=x∧inY g c=true:=by
 constructor
 ·intro h
  obtain ⟨a,ha⟩:=List.exists_mem_of_ne_nil _ h
  obtain ⟨c,hc,_⟩:=List.mem_map.1 ha
  obtain ⟨h1,h2⟩:=List.mem_filter.1 hc
  simp only [okX,Bool.and_eq_true,decide_eq_true_eq] at h2
  exact ⟨c,h1,h2⟩
 ·rintro ⟨c,h1,h2,h3⟩ e
  have:c.a∈ZN g x cs:=List.mem_map.2 ⟨c,List.mem_filter.2 ⟨h1,by simp [okX,h2,h3]⟩,rfl⟩
  rw [e] at this;cases this
def bs (g:Gl) (cs:List Cp) (x:Int):Int:=avg g.b.toNat (dsc (ZN g x cs))
theorem ZiP {g:Gl} {cs:List Cp} {x:Int} (hb:cs.any YM=false) (hg:vG g=true) (h:ZN g x cs≠[]):0≤bs g cs x∧bs g cs x≤1099511627776:=by
 have:=zf hg
 refine Zex (by omega) ?_ fun a ha=>Kz hb a ((XA _).mem_iff.1 ha)
 rw [V7]
 exact List.length_pos_iff.2 h
def mbx (g:Gl) (cs:List Cp) (x:Int):Option Mb:=if ZN g x cs=[] then none else some ⟨x,bs g cs x⟩
def mbU (g:Gl) (cs:List Cp) (n:Nat):List Mb:=(List.range n).filterMap fun x:Nat=>mbx g cs (x:Int)
def mbL (g:Gl) (cs:List Cp):List Mb:=mbU g cs 1024
theorem Zib {g:Gl} {cs:List Cp} {n:Nat}:mbU g cs (n+1)=mbU g cs n ++ (if ZN g n cs=[] then [] else [⟨n,bs g cs n⟩]):=by
 unfold mbU
 rw [List.range_succ,List.filterMap_append]
 congr 1
 simp only [List.filterMap_cons,List.filterMap_nil,mbx]
 split<;>simp_all
theorem Zby {g:Gl} {cs:List Cp} {n:Nat} {m:Mb}:m∈mbU g cs n↔∃ x:Nat,x < n∧ZN g x cs≠[]∧m=⟨x,bs g cs x⟩:=by
 unfold mbU
 rw [List.mem_filterMap]
 constructor
 ·rintro ⟨x,hx,h⟩
  unfold mbx at h
  split at h
  ·cases h
  ·rename_i q;exact ⟨x,List.mem_range.1 hx,q,(Option.some.inj h).symm⟩
 ·rintro ⟨x,hx,h1,rfl⟩
  exact ⟨x,List.mem_range.2 hx,by unfold mbx;rw [if_neg h1]⟩
theorem zO {g:Gl} {cs:List Cp}:∀ n,(mbU g cs n).Pairwise fun a b=>a.g < b.g
 | 0=>List.Pairwise.nil
 | n+1=>by
  rw [Zib]
  split
  ·rw [List.append_nil];exact zO n
  ·refine List.pairwise_append.2 ⟨zO n,List.pairwise_singleton _ _,fun a ha b hb=>?_⟩
   obtain ⟨x,hx,_,rfl⟩:=Zby.1 ha
   rw [List.mem_singleton.1 hb]
   show (x:Int) < n
   omega
theorem KM {g:Gl} {cs:List Cp} (hb:cs.any YM=false) {m:Mb}:m∈mbL g cs↔ZN g m.g cs≠[]∧m.b=bs g cs m.g:=by
 unfold mbL
 rw [Zby]
 constructor
 ·rintro ⟨x,_,h,rfl⟩;exact ⟨h,rfl⟩
 ·rintro ⟨h1,h2⟩
  obtain ⟨c,hc,e,_⟩:=Q3.1 h1
  rw [List.any_eq_false] at hb
  have:=Qz (c:=c) (by simpa using hb c hc)
  refine ⟨m.g.toNat,by omega,by rw [Int.toNat_of_nonneg (by omega)];exact h1,?_⟩
  rw [Int.toNat_of_nonneg (by omega)]
  cases m;simp_all
theorem UW {g:Gl} {cs:List Cp}:(mbL g cs).Pairwise fun a b=>a.g < b.g:=zO 1024
theorem KY {l:List Mb} (h:l.Pairwise fun a b=>a.g < b.g):l.Nodup:=h.imp fun q e=>by rw [e] at q;omega
theorem ZeW {a b:List Mb} (ha:a.Pairwise fun x y=>x.g < y.g) (hb:b.Pairwise fun x y=>x.g < y.g) (h:∀ m,m∈a↔m∈b):a=b:=
 List.Perm.eq_of_pairwise (le:=fun x y:Mb=>x.g < y.g) (fun x y _ _ h1 h2=>by omega) ha hb (Uj (KY ha) (KY hb) h)
theorem U3 {g:Gl} {cs:List Cp} (hb:cs.any YM=false):(mbL g cs).length≤cs.length:=by
 have hn:((mbL g cs).map (·.g)).Nodup:=by
  refine List.pairwise_map.2 ?_
  exact UW.imp fun q e=>by omega
 have:=XN (L:=cs.map (·.r)) hn fun x hx=>by
  obtain ⟨m,hm,e⟩:=List.mem_map.1 hx
  obtain ⟨c,hc,e2,_⟩:=Q3.1 ((KM hb).1 hm).1
  exact List.mem_map.2 ⟨c,hc,by rw [← e,← e2]⟩
 simpa using this
theorem Zhc {g:Gl} {cs:List Cp} (hb:cs.any YM=false) (hg:vG g=true):∀ m∈mbL g cs,0≤m.g∧m.g≤1023∧0≤m.b∧m.b≤1099511627776:=by
 intro m hm
 obtain ⟨h1,h2⟩:=(KM hb).1 hm
 have:=ZiP hb hg h1
 obtain ⟨c,hc,e,_⟩:=Q3.1 h1
 rw [List.any_eq_false] at hb
 have:=Qz (c:=c) (by simpa using hb c hc)
 rw [h2];omega
def qtM (p:Int) (m:Mb):Qt:=⟨m.g,m.b,m.b * p / 1000⟩
def qtL (p:Int) (ms:List Mb):List Qt:=ms.map (qtM p)
end Go.Ax

/-
 Pool: the document: own,Base,quotas (65,49,27,12) (written by program).
-/
namespace Go.Ax
open Go Go.RowKit Go.Proofs

noncomputable section
theorem ZfB:ZS Try.prog 27=some (44,3):=by kernel_rfl
theorem ZhT:Yt Try.prog 44=some (.agg #[iv 0,iv 0,iv 0]):=by kernel_rfl
theorem ZiF:Try.prog.underlying 27=some (.slice 44):=by kernel_rfl
theorem ZdG {k:Nat} {l:List Int} (h:k < l.length):top (k+1) l=top k l+l.getD k 0:=by
 unfold top
 rw [Zdx h,Jf];simp [YJ]
theorem Zgw {g:Gl} {x:Int} {cs:List Cp} (h:cs.any YM=false):∀ a∈dsc (ZN g x cs),0≤a∧a≤1099511627776:=fun a ha=>Kz h a ((XA _).mem_iff.1 ha)
theorem qG {l:List Int} {P:Int→Prop} (h:∀ a∈l,P a) {i:Nat} (hi:i < l.length):P (l.getD i 0):=by
 rw [List.getD_eq_getElem?_getD,List.getElem?_eq_getElem hi];exact h _ (List.getElem_mem hi)
section
variable {kn:Kn} {lo:Nat} {H:Hp}
theorem Acc.low {lo f f':Nat} {e:TypeId} {H:Hp} {v:Value} {n:Nat} {cs:List Value} (h:Acc lo f e H v n cs) (hf:f'≤f):Acc lo f' e H v n cs:=
 h.imp id fun ⟨b,a1,a2,a3,a4,a5,a6⟩=>⟨b,a1,a2,by omega,a4,a5,a6⟩
end
end
end Go.Ax

/-
 Pool: the document: Base,quotas,Quotas;lists that are the same (49,27,12,17,20) (written by program).
-/
namespace Go.Ax
open Go Go.RowKit Go.Proofs

noncomputable section
def quL (cs:List Cp) (g:Gl):List Qt:=if vA cs g=true then qtL g.p (mbL g cs) else []
def quE (cs:List Cp) (g:Gl):Int:=if vA cs g=true then 0 else 1
section
variable {kn:Kn} {lo:Nat} {H:Hp}
theorem Zc1 {a b A B:Int} (h1:0≤a) (h2:a≤A) (h3:0≤b) (h4:b≤B):0≤a * b∧a * b≤A * B:=
 ⟨Int.mul_nonneg h1 h3,Int.le_trans (Int.mul_le_mul_of_nonneg_left h4 h1) (Int.mul_le_mul_of_nonneg_right h2 (Int.le_trans h3 h4))⟩
theorem Zdv {cs:List Cp} (h:vC cs=true):cs.length≤256∧cs.any YM=false∧tw cs=false:=by
 simp only [vC,Bool.and_eq_true,decide_eq_true_eq,Bool.not_eq_true'] at h
 exact ⟨h.1.1,h.1.2,h.2⟩
theorem zt {cs:List Cp} {g:Gl} (h:vA cs g=true):cs.any YM=false∧vG g=true:=by
 unfold vA at h
 rw [Bool.and_eq_true] at h
 exact ⟨(Zdv h.1).2.1,h.2⟩
end
end
end Go.Ax

/-
 Pool: sums,quotas of members,how large they can be (45,31,25,52,51,50,29) (written by program).
-/
namespace Go.Ax
open Go Go.RowKit Go.Proofs

noncomputable section
structure Lst (p:Nat→Bool) (N m:Nat):Prop where
 le:m≤N
 lo:m=0∨p (m - 1)=false
 hi:m=N∨p m=true
theorem Lst.uniq {p:Nat→Bool} {N m m':Nat} (hp:∀ j k,j≤k→k < N→p j=true→p k=true) (h:Lst p N m) (h':Lst p N m'):m=m':=by
 have key:∀ {m m':Nat},Lst p N m→Lst p N m'→¬ m < m':=by
  intro m m' h h' q
  have h1:=h'.le
  rcases h.hi with e | e
  ·omega
  ·rcases h'.lo with e2 | e2
   ·omega
   ·have:=hp m (m' - 1) (by omega) (by omega) e
    rw [this] at e2;cases e2
 have a:=key h h'
 have b:=key h' h
 omega
theorem Xz {α:Type} {l:List α} {z:α} {P:α→Prop} (h:∀ a∈l,P a) {i:Nat} (hi:i < l.length):P (l.getD i z):=by
 rw [List.getD_eq_getElem?_getD,List.getElem?_eq_getElem hi];exact h _ (List.getElem_mem hi)
def okM (m:Mb):Prop:=0≤m.g∧m.g≤1023∧0≤m.b∧m.b≤1099511627776
def okQ (q:Qt):Prop:=0≤q.a∧q.a≤2199023255552
theorem Ub {B:Int} {k:Nat} {l:List Int} (h:∀ a∈l,0≤a∧a≤B):0≤top k l∧top k l≤B * ((min k l.length:Nat):Int):=by
 have:=ZaN (lo:=0) (hi:=B) (l:=l.take k) fun x hx=>h x (List.mem_of_mem_take hx)
 rw [List.length_take] at this
 unfold top
 omega
theorem Zbc {B:Int} {n:Nat} (hB:0≤B) (h:n≤400):B * ((n:Nat):Int)≤B * 400:=Int.mul_le_mul_of_nonneg_left (by omega) hB
theorem zp {α:Type} {l:List α} {f:α→Int} {z:α} {i:Nat} (h:i < l.length):(l.map f).getD i 0=f (l.getD i z):=by
 rw [List.getD_eq_getElem?_getD,List.getD_eq_getElem?_getD,List.getElem?_map,List.getElem?_eq_getElem h];rfl
def YL (ms:List Mb):Int:=YJ (fun x=>x) (ms.map (·.b))
def UQ (l:List Qt):Int:=YJ (fun x=>x) (l.map (·.a))
theorem yS {l:List Int}:top l.length l=YJ (fun x=>x) l:=by unfold top;rw [List.take_length]
theorem ZbR {ms:List Mb} (h:∀ m∈ms,okM m):∀ a∈ms.map (·.b),0≤a∧a≤1099511627776:=by
 intro a ha
 obtain ⟨m,hm,e⟩:=List.mem_map.1 ha
 have:=h m hm
 rw [← e];exact this.2.2
theorem ZcS {l:List Qt} (h:∀ q∈l,okQ q):∀ a∈l.map (·.a),0≤a∧a≤2199023255552:=by
 intro a ha
 obtain ⟨m,hm,e⟩:=List.mem_map.1 ha
 have:=h m hm
 rw [← e];exact this
theorem Zg1 {ms:List Mb} {p:Int} (h:∀ m∈ms,okM m) (h0:0≤p) (h1:p≤1001):∀ q∈qtL p ms,okQ q:=by
 intro q hq
 obtain ⟨m,hm,e⟩:=List.mem_map.1 hq
 have k:=h m hm
 have:=Zc1 k.2.2.1 k.2.2.2 h0 h1
 rw [← e]
 show 0≤m.b * p / 1000∧m.b * p / 1000≤_
 omega
section
variable {kn:Kn} {lo:Nat} {H:Hp}
set_option maxRecDepth 100000 in
theorem JC {ms:List Mb} {sa:Option Addr} {n cap:Nat} (hs:Sl H sa n cap (mbc ms)) (hl:ms.length=n) (hn:n≤400) (hlo:lo≤H.next) (hm:∀ m∈ms,okM m):∃ H',FnX Try.prog kn lo 31 [.slice sa n cap] H (iv (YL ms)) H'∧Keep H H' []:=by
 have key:=Zs (kn:=kn) (lo:=lo) (H:=H) (args:=[.slice sa n cap]) (Q:=fun w H'=>w=iv (YL ms)∧Keep H H' []) Try.func31 B31 N31 Z31 L31 (by simp) ?_
 ·obtain ⟨w,H',h,rfl,q⟩:=key;exact ⟨H',h,q⟩
 have hk:=Keep.refl H []
 have fs:=hs.old
 refine Zc<|Za rfl<|Zb<|Zc<|Za rfl<|Zb<|Zc<|Za rfl<|Yz (m:=n) rfl<|Za rfl<|Zb ?_
 refine ZA (fn:=Try.f31) Zhz N31 Zih (fun i:Nat=>[(3,iv (top i (ms.map (·.b)))),(6,.slice sa n cap),(7,iv (n:Int)),(8,iv (i:Int))])
  (fun k i H'=>i+k=n∧Keep H H' []∧Sl H' sa n cap (mbc ms)) n 0 ⟨by omega,hk,hs⟩ ⟨rfl,rfl,rfl,rfl,trivial⟩ ?_
 rintro k i L1 ⟨hik,hk,hs⟩
 have mk:=hk.1;have htp:=Ub (k:=i) (ZbR hm);have hmc:=Zbc (B:=1099511627776) (n:=min i (ms.map (·.b)).length) (by omega) (by rw [List.length_map];omega);have htq:=Ub (k:=i+1) (ZbR hm);have hmd:=Zbc (B:=1099511627776) (n:=min (i+1) (ms.map (·.b)).length) (by omega) (by rw [List.length_map];omega)
 refine Zc<|ZM (a:=(i:Int)) (b:=(n:Int)) rfl rfl<|Zb ?_
 refine And.intro (fun q1=>?_) (fun q1=>?_)
 ·have q1:(i:Int) < (n:Int):=of_decide_eq_true q1
  have hi:i < n:=by omega
  rcases id hs with ⟨_,h0s,_⟩ | ⟨sb,es,rs,_⟩
  ·omega
  have ls:=rs.1
  have hmi:=Xz (z:=Mb.z) hm (show i < ms.length by omega);have hsx:top (i+1) (ms.map (·.b))=top i (ms.map (·.b))+(ms.getD i Mb.z).b:=by rw [ZdG (by rw [List.length_map];omega),zp (z:=Mb.z) (by omega)]
  first | refine Zl ?_ | skip
  refine Zc<|WP (b:=sb) (o:=0) (k:=i) (j:=(i:Int)) (by rw [← es];rfl) rfl rfl hi<|Wo (b:=sb) (o:=0+i * 2) rfl rs (Q6 (by omega))<|WQ ?_
  intro H1 kH1 nH1 c1
  have c1:Cl H1 L1.next [iv 0,iv 0]:=c1
  have mH1:=kH1.1
  have hk:=hk.trans kH1
  have hs:=kH1.sl0 hs
  have rs:=kH1.rd rs (by simp)
  refine Vc (b:=L1.next) (o:=0) rfl rfl c1 (by omega) rfl rfl (by simp) ?_
  intro H2 kH2 nH2 sH2
  have mH2:=kH2.1
  have hk:=hk.new kH2 (fun b hb=>by simp at hb ⊢;omega)
  have hs:=kH2.sl hs (fun b e=>by have:=fs b e;first | (simp;done) | (simp;omega))
  have rs:=kH2.rd rs (by first | (simp;done) | (simp;omega))
  have c1:Cl H2 L1.next [iv ((ms.getD i Mb.z).g),iv ((ms.getD i Mb.z).b)]:=sH2
  refine Zb ?_
  show Zq _ _ _ _ _ _ _ _
  refine Za rfl<|ZI (b:=L1.next) (o:=0) rfl<|Yi (b:=L1.next) (o:=1) (v:=iv ((ms.getD i Mb.z).b)) rfl c1.rd rfl<|ZB (a:=(top i (ms.map (·.b)))) (b:=(ms.getD i Mb.z).b) rfl rfl ⟨by omega,by omega⟩<|Za rfl<|Zb ?_
  show Zq _ _ _ _ _ _ _ _
  refine ZB (a:=(i:Int)) (b:=1) rfl rfl ⟨by omega,by omega⟩<|Za rfl<|Zb ?_
  exact ⟨k - 1,i+1,by omega,⟨by omega,hk,hs⟩,(by show some (iv _)=some (iv _);rw [hsx]),rfl,rfl,rfl,trivial⟩
 ·have q1:¬ ((i:Int) < (n:Int)):=of_decide_eq_false q1
  first | (refine ZE ?_;show wC _ _ _ _ _ _ _ _ _) | skip
  refine Zc<|Za rfl<|Za rfl<|Zb ?_
  have ein:i=n:=by omega
  exact And.intro trivial (Exists.intro _ (And.intro rfl ⟨by unfold YL;rw [← yS,ein,List.length_map,hl];rfl,hk⟩))
set_option maxRecDepth 100000 in
theorem Kq {l:List Qt} {sa:Option Addr} {n cap:Nat} (hs:Sl H sa n cap (qtc l)) (hl:l.length=n) (hn:n≤400) (hlo:lo≤H.next) (hq:∀ q∈l,okQ q):∃ H',FnX Try.prog kn lo 52 [.slice sa n cap] H (iv (UQ l)) H'∧Keep H H' []:=by
 have key:=Zs (kn:=kn) (lo:=lo) (H:=H) (args:=[.slice sa n cap]) (Q:=fun w H'=>w=iv (UQ l)∧Keep H H' []) Try.func52 B52 N52 Z52 L52 (by simp) ?_
 ·obtain ⟨w,H',h,rfl,q⟩:=key;exact ⟨H',h,q⟩
 have hk:=Keep.refl H []
 have fs:=hs.old
 refine Zc<|Za rfl<|Zb<|Zc<|Za rfl<|Zb<|Zc<|Za rfl<|Yz (m:=n) rfl<|Za rfl<|Zb ?_
 refine ZA (fn:=Try.f52) Zik N52 ZhZ (fun i:Nat=>[(3,iv (top i (l.map (·.a)))),(6,.slice sa n cap),(7,iv (n:Int)),(8,iv (i:Int))])
  (fun k i H'=>i+k=n∧Keep H H' []∧Sl H' sa n cap (qtc l)) n 0 ⟨by omega,hk,hs⟩ ⟨rfl,rfl,rfl,rfl,trivial⟩ ?_
 rintro k i L1 ⟨hik,hk,hs⟩
 have mk:=hk.1;have htp:=Ub (k:=i) (ZcS hq);have hmc:=Zbc (B:=2199023255552) (n:=min i (l.map (·.a)).length) (by omega) (by rw [List.length_map];omega);have htq:=Ub (k:=i+1) (ZcS hq);have hmd:=Zbc (B:=2199023255552) (n:=min (i+1) (l.map (·.a)).length) (by omega) (by rw [List.length_map];omega)
 refine Zc<|ZM (a:=(i:Int)) (b:=(n:Int)) rfl rfl<|Zb ?_
 refine And.intro (fun q1=>?_) (fun q1=>?_)
 ·have q1:(i:Int) < (n:Int):=of_decide_eq_true q1
  have hi:i < n:=by omega
  rcases id hs with ⟨_,h0s,_⟩ | ⟨sb,es,rs,_⟩
  ·omega
  have ls:=rs.1
  have hmi:=Xz (z:=Qt.z) hq (show i < l.length by omega);have hsx:top (i+1) (l.map (·.a))=top i (l.map (·.a))+(l.getD i Qt.z).a:=by rw [ZdG (by rw [List.length_map];omega),zp (z:=Qt.z) (by omega)]
  first | refine Zl ?_ | skip
  refine Zc<|WP (b:=sb) (o:=0) (k:=i) (j:=(i:Int)) (by rw [← es];rfl) rfl rfl hi<|Wo (b:=sb) (o:=0+i * 3) rfl rs (Ve (by omega))<|WQ ?_
  intro H1 kH1 nH1 c1
  have c1:Cl H1 L1.next [iv 0,iv 0,iv 0]:=c1
  have mH1:=kH1.1
  have hk:=hk.trans kH1
  have hs:=kH1.sl0 hs
  have rs:=kH1.rd rs (by simp)
  refine Vc (b:=L1.next) (o:=0) rfl rfl c1 (by omega) rfl rfl (by simp) ?_
  intro H2 kH2 nH2 sH2
  have mH2:=kH2.1
  have hk:=hk.new kH2 (fun b hb=>by simp at hb ⊢;omega)
  have hs:=kH2.sl hs (fun b e=>by have:=fs b e;first | (simp;done) | (simp;omega))
  have rs:=kH2.rd rs (by first | (simp;done) | (simp;omega))
  have c1:Cl H2 L1.next [iv ((l.getD i Qt.z).g),iv ((l.getD i Qt.z).b),iv ((l.getD i Qt.z).a)]:=sH2
  refine Zb ?_
  show Zq _ _ _ _ _ _ _ _
  refine Za rfl<|ZI (b:=L1.next) (o:=0) rfl<|Yi (b:=L1.next) (o:=2) (v:=iv ((l.getD i Qt.z).a)) rfl c1.rd rfl<|ZB (a:=(top i (l.map (·.a)))) (b:=(l.getD i Qt.z).a) rfl rfl ⟨by omega,by omega⟩<|Za rfl<|Zb ?_
  show Zq _ _ _ _ _ _ _ _
  refine ZB (a:=(i:Int)) (b:=1) rfl rfl ⟨by omega,by omega⟩<|Za rfl<|Zb ?_
  exact ⟨k - 1,i+1,by omega,⟨by omega,hk,hs⟩,(by show some (iv _)=some (iv _);rw [hsx]),rfl,rfl,rfl,trivial⟩
 ·have q1:¬ ((i:Int) < (n:Int)):=of_decide_eq_false q1
  first | (refine ZE ?_;show wC _ _ _ _ _ _ _ _ _) | skip
  refine Zc<|Za rfl<|Za rfl<|Zb ?_
  have ein:i=n:=by omega
  exact And.intro trivial (Exists.intro _ (And.intro rfl ⟨by unfold UQ;rw [← yS,ein,List.length_map,hl];rfl,hk⟩))
set_option maxRecDepth 100000 in
theorem ZaH {xs:List Int} {sa:Option Addr} {M cap:Nat} (hs:Sl H sa M cap (cI xs)) (hM:0 < M) (hMl:M≤xs.length) (hn:xs.length≤400) (hlo:lo≤H.next) (hx:∀ a∈xs,0≤a∧a≤1099511627776):∃ H',FnX Try.prog kn lo 45 [.slice sa M cap] H (iv (top M xs / (M:Int))) H'∧Keep H H' []:=by
 have key:=Zs (kn:=kn) (lo:=lo) (H:=H) (args:=[.slice sa M cap]) (Q:=fun w H'=>w=iv (top M xs / (M:Int))∧Keep H H' []) Try.func45 B45 N45 Z45 L45 (by simp) ?_
 ·obtain ⟨w,H',h,rfl,q⟩:=key;exact ⟨H',h,q⟩
 have hk:=Keep.refl H []
 have fs:=hs.old
 refine Zc<|Za rfl<|Zb<|Zc<|Za rfl<|Zb<|Zc<|Za rfl<|Yz (m:=M) rfl<|Za rfl<|Zb ?_
 refine ZA (fn:=Try.f45) Zjl N45 ZiI (fun i:Nat=>[(0,.slice sa M cap),(3,iv (top i xs)),(6,.slice sa M cap),(7,iv (M:Int)),(8,iv (i:Int))])
  (fun k i H'=>i+k=M∧Keep H H' []∧Sl H' sa M cap (cI xs)) M 0 ⟨by omega,hk,hs⟩ ⟨rfl,rfl,rfl,rfl,rfl,trivial⟩ ?_
 rintro k i L1 ⟨hik,hk,hs⟩
 have mk:=hk.1;have htp:=Ub (k:=i) (hx);have hmc:=Zbc (B:=1099511627776) (n:=min i (xs).length) (by omega) (by omega);have htq:=Ub (k:=i+1) (hx);have hmd:=Zbc (B:=1099511627776) (n:=min (i+1) (xs).length) (by omega) (by omega)
 refine Zc<|ZM (a:=(i:Int)) (b:=(M:Int)) rfl rfl<|Zb ?_
 refine And.intro (fun q1=>?_) (fun q1=>?_)
 ·have q1:(i:Int) < (M:Int):=of_decide_eq_true q1
  have hi:i < M:=by omega
  rcases id hs with ⟨_,h0s,_⟩ | ⟨sb,es,rs,_⟩
  ·omega
  have ls:=rs.1
  have hgd:=qG hx (i:=i) (by omega);have hsx:top (i+1) xs=top i xs+xs.getD i 0:=ZdG (by omega)
  first | refine Zl ?_ | skip
  refine Zc<|WP (b:=sb) (o:=0) (k:=i) (j:=(i:Int)) (by rw [← es];rfl) rfl rfl hi<|Yi (b:=sb) (o:=0+i * 1) (v:=iv (xs.getD i 0)) rfl rs (Zaw (by omega))<|Za rfl<|Zb ?_
  show Zq _ _ _ _ _ _ _ _
  refine Za rfl<|Za rfl<|ZB (a:=(top i xs)) (b:=(xs.getD i 0)) rfl rfl ⟨by omega,by omega⟩<|Za rfl<|Zb ?_
  show Zq _ _ _ _ _ _ _ _
  refine ZB (a:=(i:Int)) (b:=1) rfl rfl ⟨by omega,by omega⟩<|Za rfl<|Zb ?_
  exact ⟨k - 1,i+1,by omega,⟨by omega,hk,hs⟩,rfl,(by show some (iv _)=some (iv _);rw [hsx]),rfl,rfl,rfl,trivial⟩
 ·have q1:¬ ((i:Int) < (M:Int)):=of_decide_eq_false q1
  first | (refine ZE ?_;show wC _ _ _ _ _ _ _ _ _) | skip
  refine Zc<|Za rfl<|Za rfl<|Yz (m:=M) rfl<|Zd1 (a:=(top i xs)) (b:=(M:Int)) rfl rfl (by omega) (by omega) ⟨by omega,by omega⟩<|Za rfl<|Zb ?_
  have ein:i=M:=by omega
  exact And.intro trivial (Exists.intro _ (And.intro rfl ⟨by rw [ein];rfl,hk⟩))
set_option maxRecDepth 100000 in
set_option maxHeartbeats 1000000 in
theorem UC {ms:List Mb} {sa:Option Addr} {n cap:Nat} (hs:Sl H sa n cap (mbc ms)) (hl:ms.length=n) (hn:n≤400) (hlo:lo≤H.next) (hm:∀ m∈ms,okM m) {p:Int} (hp0:0≤p) (hp1:p≤1001):∃ v H',FnX Try.prog kn lo 25 [.slice sa n cap,iv p] H v H'∧Acc lo H.next 44 H' v (qtL p ms).length (qtc (qtL p ms))∧Keep H H' []:=by
 have key:=Zs (kn:=kn) (lo:=lo) (H:=H) (args:=[.slice sa n cap,iv p]) (Q:=fun w H'=>Acc lo H.next 44 H' w (qtL p ms).length (qtc (qtL p ms))∧Keep H H' []) Try.func25 B25 N25 Z25 L25 (by simp) ?_
 ·exact key
 have hk:=Keep.refl H []
 have fs:=hs.old
 refine Zc<|Za rfl<|Zb<|Zc<|Za rfl<|Zb<|Zc<|Za rfl<|Yz (m:=n) rfl<|Za rfl<|Zb ?_
 refine ZA (fn:=Try.f25) ZiN N25 ZiM (fun z:Nat × Value=>[(1,iv p),(5,z.2),(8,.slice sa n cap),(9,iv (n:Int)),(10,iv (z.1:Int))])
  (fun k z H'=>z.1+k=n∧Keep H H' []∧Sl H' sa n cap (mbc ms)∧Acc lo H.next 44 H' z.2 (qtL p (ms.take z.1)).length (qtc (qtL p (ms.take z.1)))) n (0,.slice none 0 0) ⟨by simp,hk,hs,.inl ⟨rfl,rfl,rfl⟩⟩ ⟨rfl,rfl,rfl,rfl,rfl,trivial⟩ ?_
 rintro k ⟨i,wv⟩ L1 ⟨hik,hk,hs,hacc⟩
 simp only [] at hik hacc
 have mk:=hk.1;have kacc:=Keep.refl L1 [];have hql:(qtL p (ms.take i)).length=i:=by unfold qtL;rw [List.length_map,List.length_take];omega
 refine Zc<|ZM (a:=(i:Int)) (b:=(n:Int)) rfl rfl<|Zb ?_
 refine And.intro (fun q1=>?_) (fun q1=>?_)
 ·have q1:(i:Int) < (n:Int):=of_decide_eq_true q1
  have hi:i < n:=by omega
  rcases id hs with ⟨_,h0s,_⟩ | ⟨sb,es,rs,_⟩
  ·omega
  have ls:=rs.1
  have lsb2:=fs sb es
  have hmi:=Xz (z:=Mb.z) hm (show i < ms.length by omega);obtain ⟨hm1,hm2,hm3,hm4⟩:=hmi
  have hmul:=Zc1 hm3 hm4 hp0 hp1
  first | refine Zl ?_ | skip
  refine Zc<|WP (b:=sb) (o:=0) (k:=i) (j:=(i:Int)) (by rw [← es];rfl) rfl rfl hi<|Wo (b:=sb) (o:=0+i * 2) rfl rs (Q6 (by omega))<|WQ ?_
  intro H1 kH1 nH1 c1
  have c1:Cl H1 L1.next [iv 0,iv 0]:=c1
  have mH1:=kH1.1
  have hk:=hk.trans kH1
  have hs:=kH1.sl0 hs
  have kacc:=kacc.trans kH1
  have rs:=kH1.rd rs (by simp)
  refine Vc (b:=L1.next) (o:=0) rfl rfl c1 (by omega) rfl rfl (by simp) ?_
  intro H2 kH2 nH2 sH2
  have mH2:=kH2.1
  have hk:=hk.new kH2 (fun b hb=>by simp at hb ⊢;omega)
  have hs:=kH2.sl hs (fun b e=>by have:=fs b e;first | (simp;done) | (simp;omega))
  have kacc:=kacc.new kH2 (fun b hb=>by simp at hb ⊢;omega)
  have rs:=kH2.rd rs (by first | (simp;done) | (simp;omega))
  have c1:Cl H2 L1.next [iv ((ms.getD i Mb.z).g),iv ((ms.getD i Mb.z).b)]:=sH2
  refine Zb ?_
  show Zq _ _ _ _ _ _ _ _
  refine Za rfl<|ZI (b:=L1.next) (o:=0) rfl<|Yi (b:=L1.next) (o:=0) (v:=iv ((ms.getD i Mb.z).g)) rfl c1.rd rfl<|ZI (b:=L1.next) (o:=0) rfl<|Yi (b:=L1.next) (o:=1) (v:=iv ((ms.getD i Mb.z).b)) rfl c1.rd rfl<|ZI (b:=L1.next) (o:=0) rfl<|Yi (b:=L1.next) (o:=1) (v:=iv ((ms.getD i Mb.z).b)) rfl c1.rd rfl<|Za rfl<|V6 (a:=(ms.getD i Mb.z).b) (b:=p) rfl rfl ⟨by omega,by omega⟩<|Zd1 (a:=((ms.getD i Mb.z).b) * p) (b:=1000) rfl rfl (by omega) (by omega) ⟨by omega,by omega⟩<|Zg (v:=.agg #[iv ((ms.getD i Mb.z).g),iv ((ms.getD i Mb.z).b),iv ((((ms.getD i Mb.z).b) * p) / 1000)]) rfl (by kernel_rfl) ?_
  obtain ⟨H3,hH3⟩:∃ H3,H2.new (.cells [iv ((ms.getD i Mb.z).g),iv ((ms.getD i Mb.z).b),iv ((((ms.getD i Mb.z).b) * p) / 1000)] 44 false)=H3:=⟨_,rfl⟩
  refine X0 (H':=H3) (k:=.heavy) rfl (by kernel_rfl) ((Xj (v:=.agg #[iv ((ms.getD i Mb.z).g),iv ((ms.getD i Mb.z).b),iv ((((ms.getD i Mb.z).b) * p) / 1000)]) ZfB ZhT rfl rfl rfl (by decide)).trans (by rw [← hH3];rfl)) (fun b e=>by cases e) ?_
  obtain ⟨kH3,nH3,c3⟩:=ZO hH3;clear hH3
  have c3:Cl H3 H2.next [iv ((ms.getD i Mb.z).g),iv ((ms.getD i Mb.z).b),iv ((((ms.getD i Mb.z).b) * p) / 1000)]:=c3
  have mH3:=kH3.1
  have hk:=hk.trans kH3
  have hs:=kH3.sl0 hs
  have kacc:=kacc.trans kH3
  have rs:=kH3.rd rs (by simp)
  have c1:=kH3.cl c1 (by simp)
  obtain ⟨H4,kdH4,eH4,dH4,aH4,kbH4⟩:=Yu (P:=Try.prog) (lo:=lo) (k:=(qtL p (ms.take i)).length) (t1:=27) ZfB ZiF (c3.sl (Nat.le_refl 1)) rfl (by decide) rfl (by rw [yT]) (by omega) (hacc.keep kacc) (by omega) (by omega)
  refine X0 (k:=kdH4) rfl (by cases wv<;>kernel_rfl) (eH4 _ _ _ _ _ _ _ rfl rfl) (Qs dH4 _) ?_
  have hk:=kbH4.keep hk (by omega)
  have hs:=kbH4.sl hs (fun b e=>by have:=fs b e;omega)
  have mH4:=kbH4.1
  refine Za rfl<|Zb ?_
  show Zq _ _ _ _ _ _ _ _
  refine ZB (a:=(i:Int)) (b:=1) rfl rfl ⟨by omega,by omega⟩<|Za rfl<|Zb ?_
  have hU:ms.take (i+1)=ms.take i ++ [(ms.getD i Mb.z)]:=Xu (by omega)
  have hacc2:Acc lo H.next 44 H4 (.slice (some ⟨H3.next,0,none⟩) ((qtL p (ms.take i)).length+1) ((qtL p (ms.take i)).length+1)) (qtL p (ms.take (i+1))).length (qtc (qtL p (ms.take (i+1)))):=by unfold qtL qtc at *;rw [hU,List.map_append,List.flatMap_append,List.length_append];exact aH4
  exact ⟨k - 1,(i+1,_),by omega,⟨by simp only [];omega,hk,hs,hacc2⟩,rfl,rfl,rfl,rfl,rfl,trivial⟩
 ·have q1:¬ ((i:Int) < (n:Int)):=of_decide_eq_false q1
  first | (refine ZE ?_;show wC _ _ _ _ _ _ _ _ _) | skip
  refine Zc<|Za rfl<|Za rfl<|Zb ?_
  have ein:i=n:=by omega
  rw [ein,← hl,List.take_length] at hacc
  exact And.intro trivial (Exists.intro _ (And.intro rfl ⟨hacc,hk⟩))
theorem Zcp {n:Nat} {F:FuncId} {caps:Array Value} (p:Nat→Bool) (hn:n≤1099511627776) (hf:∀ k H1,Keep H H1 []→k < n→∃ H2,X4 Try.prog kn lo (.fn (.func F) caps) [iv (k:Int)] H1 (.bool (p k)) H2∧Keep H1 H2 []) :
  ∃ (m:Nat) (H':Hp),FnX Try.prog kn lo 50 [iv n,.func (.func F) #[] caps] H (iv m) H'∧Keep H H' []∧Lst p n m:=by
 have key:=Zs (kn:=kn) (lo:=lo) (H:=H) (args:=[iv n,.func (.func F) #[] caps]) (Q:=fun v H'=>∃ m:Nat,v=iv m∧Keep H H' []∧Lst p n m) Try.func50 B50 N50 Z50 L50 (by simp) ?_
 ·obtain ⟨v,H',h,m,rfl,q⟩:=key;exact ⟨m,H',h,q⟩
 refine Zc (Za rfl (Zb (Zc (Za rfl (Za rfl (Za rfl (Zb (WA (Vn (QX ?_)))))))))) 
 refine ZA (fn:=Try.f50) ZhM N50 Zju (fun a:Nat × Nat=>[(1,.func (.func F) #[] caps),(5,iv (a.1:Int)),(6,iv (a.2:Int))])
  (fun k a H1=>k=a.2 - a.1∧a.1≤a.2∧a.2≤n∧(a.1=0∨p (a.1 - 1)=false)∧(a.2=n∨p a.2=true)∧Keep H H1 []) (n - 0) (0,n) ⟨rfl,Nat.zero_le _,Nat.le_refl _,.inl rfl,.inl rfl,Keep.refl _ _⟩ ⟨rfl,rfl,rfl,trivial⟩ ?_
 rintro k ⟨i,j⟩ H1 ⟨rfl,hij,hjn,hi,hj,hk⟩
 simp only at hij hjn hi hj
 refine WA (Zc (Za rfl (Za rfl (ZM (a:=(i:Int)) (b:=(j:Int)) rfl rfl (Zb (WC (t:=decide ((i:Int) < (j:Int))) rfl (fun hlt=>?_) (fun hge=>?_)))))))
 ·have hlt:=of_decide_eq_true hlt
  refine Zl (Vn (Zc (Za rfl (Za rfl (ZB (a:=(i:Int)) (b:=(j:Int)) rfl rfl ⟨by omega,by omega⟩ ?_)))))
  refine Zg (v:=.int .u64 ((i+j:Nat):Int)) rfl (zv (n:=i+j) (j:=(i:Int)+(j:Int)) (by omega) rfl (by omega))<|Zg (v:=.int .u64 (((i+j) / 2:Nat):Int)) rfl (Qn (m:=i+j) (d:=1) (by decide) rfl rfl) ?_
  have h1:i≤(i+j) / 2:=by omega
  have h2:(i+j) / 2 < j:=by omega
  generalize (i+j) / 2=h at h1 h2 ⊢
  refine Zg (v:=iv (h:Int)) rfl (qH (n:=h) (j:=(h:Int)) (by omega) rfl rfl) (Za rfl (Zb ?_))
  obtain ⟨H2,f2,k2⟩:=hf h H1 hk (by omega)
  refine WA (Zc (Za rfl (Za rfl (Zx rfl f2 (Zg (v:=.bool (!p h)) rfl (by kernel_rfl) (Zb ?_)))))) 
  cases hg:p h with
  | false=>
   refine WC (t:=true) rfl (fun _=>?_) (fun e=>by cases e)
   refine zk (Za rfl (ZB (a:=(h:Int)) (b:=1) rfl rfl ⟨by omega,by omega⟩ (Za rfl (Zb ?_))))
   exact ⟨j - (h+1),(h+1,j),by simp only;omega,⟨rfl,by simp only;omega,hjn,.inr hg,hj,hk.trans k2⟩,rfl,ivq (by simp only [];omega),rfl,trivial⟩
  | true=>
   refine WC (t:=false) rfl (fun e=>by cases e) (fun _=>?_)
   refine zk (Za rfl (Za rfl (Zb ?_)))
   exact ⟨h - i,(i,h),by simp only;omega,⟨rfl,h1,by simp only;omega,hi,.inr hg,hk.trans k2⟩,rfl,rfl,rfl,trivial⟩
 ·have hge:=of_decide_eq_false hge
  have hij:i=j:=by omega
  subst hij
  refine ZE (Zc (Za rfl (Za rfl (Zb ?_))))
  exact And.intro trivial (Exists.intro _ (And.intro rfl ⟨i,rfl,hk,hjn,hi,hj⟩))
set_option maxRecDepth 100000 in
theorem Zgv {ms:List Mb} {sa:Option Addr} {n cap:Nat} (hs:Sl H sa n cap (mbc ms)) (hl:ms.length=n) (hn:n≤400) (hlo:lo≤H.next) (hm:∀ m∈ms,okM m) {k:Nat} (hkk:k≤1000) {dm:Int} {c1 c2:Nat} (r1:Rd H c1 [.slice sa n cap]) (r2:Rd H c2 [iv dm]):∃ H',FnX Try.prog kn lo 51 [iv (k:Int),.pointer (some ⟨c1,0,none⟩),.pointer (some ⟨c2,0,none⟩)] H (.bool (decide (UQ (qtL ((k:Int)+1) ms) > dm))) H'∧Keep H H' []:=by
 have key:=Zs (kn:=kn) (lo:=lo) (H:=H) (args:=[iv (k:Int),.pointer (some ⟨c1,0,none⟩),.pointer (some ⟨c2,0,none⟩)]) (Q:=fun w H'=>w=.bool (decide (UQ (qtL ((k:Int)+1) ms) > dm))∧Keep H H' []) Try.func51 B51 N51 Z51 L51 (by simp) ?_
 ·obtain ⟨w,H',h,rfl,q⟩:=key;exact ⟨H',h,q⟩
 have hk:=Keep.refl H []
 have fs:=hs.old
 have l1:=r1.1;have l2:=r2.1
 refine Zc<|Za rfl<|Zb<|Y0<|ZD (b:=c1) (o:=0) (v:=.slice sa n cap) rfl r1 rfl<|Ze rfl<|X5 (a:=(k:Int)) (b:=1) rfl rfl ⟨by omega,by omega⟩ ?_
 obtain ⟨qv,H1,fH1,hqa,kH1⟩:=UC (kn:=kn) (lo:=H.next) (H:=H) hs hl hn (Nat.le_refl _) hm (p:=(k:Int)+1) (by omega) (by omega)
 obtain ⟨qa,qc,rfl,hqs,_⟩:=hqa.sl
 have fq:=hqs.old
 have hqn:(qtL ((k:Int)+1) ms).length=n:=by unfold qtL;rw [List.length_map,hl]
 rw [hqn] at hqs fH1
 refine WO (vs:=[.slice sa n cap,iv ((k:Int)+1)]) rfl rfl (Zi fH1) ?_
 have mH1:=kH1.1
 have hk:=hk.trans kH1
 have hs:=kH1.sl0 hs
 have r1:=kH1.rd r1 (by simp)
 have r2:=kH1.rd r2 (by simp)
 obtain ⟨H2,fH2,kH2⟩:=Kq (kn:=kn) (lo:=H1.next) (H:=H1) hqs hqn hn (Nat.le_refl _) (Zg1 hm (by omega) (by omega))
 refine WO (vs:=[.slice qa n qc]) rfl rfl (Zi fH2) ?_
 have mH2:=kH2.1
 have hk:=hk.trans kH2
 have hs:=kH2.sl0 hs
 have r1:=kH2.rd r1 (by simp)
 have r2:=kH2.rd r2 (by simp)
 have hqs:=kH2.sl0 hqs
 refine ZD (b:=c2) (o:=0) (v:=iv dm) rfl r2 rfl<|Zd8 (a:=(UQ (qtL ((k:Int)+1) ms))) (b:=dm) rfl rfl<|Ze rfl ?_
 refine ZJ (by repeat' first | exact True.intro | exact (fun h=>h) | refine And.intro ?_ ?_ | (intro h;have h:(_:Nat)=_:=h;omega)) ?_
 exact And.intro trivial (Exists.intro _ (And.intro rfl ⟨rfl,hk⟩))
def Zef (ms:List Mb) (dm:Int) (k:Nat):Bool:=decide (UQ (qtL ((k:Int)+1) ms) > dm)
theorem Zac {ms:List Mb} {sa:Option Addr} {n cap:Nat} (hs:Sl H sa n cap (mbc ms)) (hl:ms.length=n) (hn:n≤400) (hlo:lo≤H.next) (hm:∀ m∈ms,okM m) {dm:Int}:∃ (m:Nat) (H':Hp),FnX Try.prog kn lo 29 [.slice sa n cap,iv dm] H (iv m) H'∧Lst (Zef ms dm) 1000 m∧Keep H H' []:=by
 have key:=Zs (kn:=kn) (lo:=lo) (H:=H) (args:=[.slice sa n cap,iv dm]) (Q:=fun w H'=>∃ m:Nat,w=iv m∧Lst (Zef ms dm) 1000 m∧Keep H H' []) Try.func29 B29 N29 Z29 L29 (by simp) ?_
 ·obtain ⟨w,H',h,m,rfl,r⟩:=key;exact ⟨m,H',h,r⟩
 have hk:=Keep.refl H []
 have fs:=hs.old
 refine Zc<|Y5 (v:=.slice sa n cap) rfl ?_
 intro H1 kH1 nH1 c1
 have c1:Cl H1 H.next [.slice sa n cap]:=c1
 have mH1:=kH1.1
 have hk:=hk.trans kH1
 have hs:=kH1.sl0 hs
 refine Y5 (v:=iv dm) rfl ?_
 intro H2 kH2 nH2 c2
 have c2:Cl H2 H1.next [iv dm]:=c2
 have mH2:=kH2.1
 have hk:=hk.trans kH2
 have hs:=kH2.sl0 hs
 have c1:=kH2.cl c1 (by simp)
 refine Za rfl<|Zb<|Zc<|Zg (v:=.func (.func 51) #[] #[pt H.next,pt H1.next]) rfl (by kernel_rfl) ?_
 obtain ⟨m,H3,fH3,kH3,hmm⟩:=Zcp (kn:=kn) (lo:=lo) (H:=H2) (n:=1000) (F:=51) (caps:=#[.pointer (some ⟨H.next,0,none⟩),.pointer (some ⟨H1.next,0,none⟩)]) (Zef ms dm) (by omega) (fun kk HH kH hkk=>by
  obtain ⟨H9,f9,k9⟩:=Zgv (kn:=kn) (lo:=lo) (H:=HH) (kH.sl0 hs) hl hn (by have:=kH.1;omega) hm (k:=kk) (by omega) (dm:=dm) (kH.rd c1.rd (by simp)) (kH.rd c2.rd (by simp))
  have f9:FnX Try.prog kn lo 51 _ _ (.bool (Zef ms dm kk)) _:=f9
  exact ⟨H9,YK rfl (by simpa using f9),k9⟩)
 refine Zx (vs:=[iv 1000,.func (.func 51) #[] #[pt H.next,pt H1.next]]) rfl (Zi fH3) ?_
 have mH3:=kH3.1
 have hk:=hk.trans kH3
 have hs:=kH3.sl0 hs
 have c1:=kH3.cl c1 (by simp)
 have c2:=kH3.cl c2 (by simp)
 refine Za rfl<|Zb ?_
 exact And.intro trivial (Exists.intro _ (And.intro rfl ⟨m,rfl,hmm,hk⟩))
end
end
end Go.Ax

/-
 Pool: sorting that keeps the order: swaps,turns,insertion (written by program).
-/
namespace Go.Ax
open Go Go.RowKit Go.Proofs

noncomputable section
theorem PRm.dom {a b n:Nat} {g g':Nat→Nat} (p:PRm a b g g') (h:∀ k,k < n→g k < n) (hb:b≤n):∀ k,k < n→g' k < n:=fun k hk=>by
 by_cases q:a≤k∧k < b
 ·obtain ⟨j,_,j2,e⟩:=p.mem q.1 q.2
  rw [e];exact h j (by omega)
 ·rw [p.out k (by omega)];exact h k hk
theorem Zdo {a b i:Nat} {g g':Nat→Nat} (p:PRm a i g g') (hid:∀ i j,a≤i→i < j→j < b→g i < g j) (hi:i < b):∀ q,a≤q→q < i→g' q < g' i:=fun q h1 h2=>by
 obtain ⟨j,j1,j2,e⟩:=p.mem h1 h2
 rw [e,p.out i (.inr (Nat.le_refl _))];exact hid j i j1 j2 hi
theorem Jq {g:Nat→Nat} {s m e:Nat} (h:s=m∨e=m) (h1:s≤m) (h2:m≤e):rot g s m e=g:=by
 funext k
 unfold rot
 by_cases c1:s≤k∧k < s+(e - m)
 ·rw [if_pos c1];congr 1;omega
 ·rw [if_neg c1]
  by_cases c2:s+(e - m)≤k∧k < e
  ·rw [if_pos c2];congr 1;omega
  ·rw [if_neg c2]
section
variable {kn:Kn} {lo:Nat} {H:Hp}
set_option maxRecDepth 100000 in
set_option maxHeartbeats 2000000 in
theorem yX (hlo:lo≤H.next) {bd cap n:Nat} {g:Nat→Nat} {v:Nat→Int} (hlb:lo≤bd) (hn:n≤1000000) (hc:Cl H bd (cG (fun x=>[iv (v x)]) n g)) {cv:Value} {a b c:Nat} (hab:a+c≤b) (hb:b+c≤n):∃ H',FnX Try.prog kn lo 107 [.slice (some ⟨bd,0,none⟩) n cap,iv (a:Int),iv (b:Int),iv (c:Int),cv] H (.tuple #[]) H'∧PRm a (b+c) g (swr g a b c)∧KT bd H H'∧Cl H' bd (cG (fun x=>[iv (v x)]) n (swr g a b c)):=by
 have key_:=Zs (kn:=kn) (lo:=lo) (H:=H) (args:=[.slice (some ⟨bd,0,none⟩) n cap,iv (a:Int),iv (b:Int),iv (c:Int),cv]) (Q:=fun w H'=>w=.tuple #[]∧PRm a (b+c) g (swr g a b c)∧KT bd H H'∧Cl H' bd (cG (fun x=>[iv (v x)]) n (swr g a b c))) Try.func107 ZjM ZhG Zj2 Zkn (by simp) ?_
 ·obtain ⟨w,H',h,rfl,r⟩:=key_;exact ⟨H',h,r⟩
 have hk:=KT.refl (H:=H) hc.1
 refine Zc<|Za rfl<|Zb ?_
 refine ZA (fn:=Try.f107) Zgy ZhG Zg2 (fun i:Nat=>[(0,.slice (some ⟨bd,0,none⟩) n cap),(1,iv (a:Int)),(2,iv (b:Int)),(3,iv (c:Int)),(10,iv (i:Int))])
  (fun k i H'=>i+k=c∧PRm a (b+c) g (swr g a b i)∧KT bd H H'∧Cl H' bd (cG (fun x=>[iv (v x)]) n (swr g a b i))) c 0 ⟨by omega,by rw [Ji];exact PRm.refl _ _ _,hk,by rw [Ji];exact hc⟩ ⟨rfl,rfl,rfl,rfl,rfl,trivial⟩ ?_
 rintro k i L1 ⟨hik,hp,hk,hc⟩
 refine Zc<|Za rfl<|Za rfl<|ZM (a:=(i:Int)) (b:=(c:Int)) rfl rfl<|Zb ?_
 refine And.intro (fun q1=>?_) (fun q1=>?_)
 ·have q1:(i:Int) < (c:Int):=of_decide_eq_true q1
  first | refine Zl ?_ | skip
  first | refine Yc ?_ | refine WB ?_ | refine VC ?_ | (refine YV ?_;refine Yc ?_)
  refine Ze rfl<|Ze rfl<|Ze rfl<|X5 (a:=(a:Int)) (b:=(i:Int)) rfl rfl ⟨by omega,by omega⟩<|Ze rfl<|Ze rfl<|Ze rfl<|X5 (a:=(b:Int)) (b:=(i:Int)) rfl rfl ⟨by omega,by omega⟩<|Ze rfl<|Ze rfl<|Ze rfl<|X5 (a:=(b:Int)) (b:=(i:Int)) rfl rfl ⟨by omega,by omega⟩<|Zw (b:=bd) (o:=0) (k:=b+i) (j:=(b:Int)+(i:Int)) rfl rfl (by omega) (by omega)<|ZD (b:=bd) (o:=0+(b+i) * 1) (v:=iv (v ((swr g a b i) (b+i)))) rfl hc.rd (WT (fun _=>rfl) (by omega) rfl)<|Ze rfl<|Ze rfl<|Ze rfl<|X5 (a:=(a:Int)) (b:=(i:Int)) rfl rfl ⟨by omega,by omega⟩<|Zw (b:=bd) (o:=0) (k:=a+i) (j:=(a:Int)+(i:Int)) rfl rfl (by omega) (by omega)<|ZD (b:=bd) (o:=0+(a+i) * 1) (v:=iv (v ((swr g a b i) (a+i)))) rfl hc.rd (WT (fun _=>rfl) (by omega) rfl)<|Zw (b:=bd) (o:=0) (k:=a+i) (j:=(a:Int)+(i:Int)) rfl rfl (by omega) (by omega)<|UT (b:=bd) (o:=0+(a+i) * 1) rfl rfl hc hlb rfl rfl (by rw [XS (z:=1) (fun _=>rfl)];omega) ?_
  intro H1 kH1 nH1 sH1 tH1
  have mH1:=kH1.1
  have hk:=hk.put kH1 tH1
  have hc:Cl H1 bd (cG (fun x=>[iv (v x)]) n (upd (swr g a b i) (a+i) ((swr g a b i) (b+i)))):=by rw [← UM (fun _=>rfl) (by omega) rfl];exact sH1
  refine Zw (b:=bd) (o:=0) (k:=b+i) (j:=(b:Int)+(i:Int)) rfl rfl (by omega) (by omega)<|UT (b:=bd) (o:=0+(b+i) * 1) rfl rfl hc hlb rfl rfl (by rw [XS (z:=1) (fun _=>rfl)];omega) ?_
  intro H2 kH2 nH2 sH2 tH2
  have mH2:=kH2.1
  have hk:=hk.put kH2 tH2
  have hc:Cl H2 bd (cG (fun x=>[iv (v x)]) n (upd (upd (swr g a b i) (a+i) ((swr g a b i) (b+i))) (b+i) ((swr g a b i) (a+i)))):=by rw [← UM (fun _=>rfl) (by omega) rfl];exact sH2
  have hc:Cl H2 bd (cG (fun x=>[iv (v x)]) n (swp (swr g a b i) (a+i) (b+i))):=hc
  refine ZJ (by repeat' first | exact True.intro | exact (fun h=>h) | refine And.intro ?_ ?_ | (intro h;have h:(_:Nat)=_:=h;omega)) ?_
  show Zq _ _ _ _ _ _ _ _
  refine Za rfl<|ZB (a:=(i:Int)) (b:=1) rfl rfl ⟨by omega,by omega⟩<|Za rfl<|Zb ?_
  rw [Jw hab (by omega)] at hc
  exact ⟨k - 1,i+1,by omega,⟨by omega,by rw [← Jw hab (by omega)];exact hp.trans (PRm.swap (by omega) (by omega) (by omega) (by omega)),hk,hc⟩,rfl,rfl,rfl,rfl,ivq (by omega),trivial⟩
 ·have q1:¬ ((i:Int) < (c:Int)):=of_decide_eq_false q1
  first | (refine ZE ?_;show wC _ _ _ _ _ _ _ _ _) | skip
  obtain rfl:i=c:=by omega
  exact And.intro trivial (Exists.intro _ (And.intro rfl ⟨rfl,hp,hk,hc⟩))
set_option maxRecDepth 100000 in
set_option maxHeartbeats 2000000 in
theorem Zfx (hlo:lo≤H.next) {bd cap n:Nat} {g:Nat→Nat} {v:Nat→Int} (hlb:lo≤bd) (hn:n≤1000000) (hc:Cl H bd (cG (fun x=>[iv (v x)]) n g)) {cv:Value} {a m b:Nat} (ham:a < m) (hmb:m < b) (hb:b≤n):∃ H',FnX Try.prog kn lo 104 [.slice (some ⟨bd,0,none⟩) n cap,iv (a:Int),iv (m:Int),iv (b:Int),cv] H (.tuple #[]) H'∧PRm a b g (rot g a m b)∧KT bd H H'∧Cl H' bd (cG (fun x=>[iv (v x)]) n (rot g a m b)):=by
 have key_:=Zs (kn:=kn) (lo:=lo) (H:=H) (args:=[.slice (some ⟨bd,0,none⟩) n cap,iv (a:Int),iv (m:Int),iv (b:Int),cv]) (Q:=fun w H'=>w=.tuple #[]∧PRm a b g (rot g a m b)∧KT bd H H'∧Cl H' bd (cG (fun x=>[iv (v x)]) n (rot g a m b))) Try.func104 ZjU ZiL Zkc Zky (by simp) ?_
 ·obtain ⟨w,H',h,rfl,r⟩:=key_;exact ⟨H',h,r⟩
 have hk:=KT.refl (H:=H) hc.1
 refine Zc<|Za rfl<|Za rfl<|Z8 (a:=(m:Int)) (b:=(a:Int)) rfl rfl ⟨by omega,by omega⟩<|Za rfl<|Zb<|Zc<|Za rfl<|Za rfl<|Z8 (a:=(b:Int)) (b:=(m:Int)) rfl rfl ⟨by omega,by omega⟩<|Za rfl<|Zb ?_
 refine ZA (fn:=Try.f104) ZgD ZiL Zhx (fun x:Nat × Nat=>[(0,.slice (some ⟨bd,0,none⟩) n cap),(2,iv (m:Int)),(4,cv),(10,iv (x.1:Int)),(11,iv (x.2:Int))])
  (fun k x H'=>k=x.1+x.2∧0 < x.1∧0 < x.2∧x.1≤m - a∧x.2≤b - m∧∃ g',rot g' (m - x.1) m (m+x.2)=rot g a m b∧PRm a b g g'∧KT bd H H'∧Cl H' bd (cG (fun x=>[iv (v x)]) n g')) _ (m - a,b - m) ⟨rfl,by simp only [];omega,by simp only [];omega,Nat.le_refl _,Nat.le_refl _,g,by simp only [];rw [show m - (m - a)=a by omega,show m+(b - m)=b by omega],PRm.refl _ _ _,hk,hc⟩ ⟨rfl,rfl,rfl,ivq (by simp only [];omega),ivq (by simp only [];omega),trivial⟩ ?_
 rintro k ⟨i,j⟩ L1 ⟨rfl,hi1,hj1,hi2,hj2,gx,hr,hp,hk,hc⟩
 simp only [] at hi1 hj1 hi2 hj2 hr
 refine Zc<|Za rfl<|Za rfl<|UO (a:=(i:Int)) (b:=(j:Int)) rfl rfl<|Zb ?_
 refine And.intro (fun q1=>?_) (fun q1=>?_)
 ·have q1:(i:Int)≠(j:Int):=by simpa using q1
  first | refine Zl ?_ | skip
  refine Zc<|Za rfl<|Za rfl<|Vo (a:=(i:Int)) (b:=(j:Int)) rfl rfl<|Zb ?_
  refine And.intro (fun q2=>?_) (fun q2=>?_)
  ·have q2:(i:Int) > (j:Int):=of_decide_eq_true q2
   refine Zc<|Za rfl<|Za rfl<|Za rfl<|Z8 (a:=(m:Int)) (b:=(i:Int)) rfl rfl ⟨by omega,by omega⟩<|Za rfl<|Za rfl<|Za rfl ?_
   obtain ⟨H1,fH1,pH1,kH1,cH1⟩:=yX (kn:=kn) (lo:=lo) (H:=L1) (by have:=hk.1;omega) hlb hn (cap:=cap) hc (cv:=cv) (a:=m - i) (b:=m) (c:=j) (by omega) (by omega)
   refine Zx (vs:=[.slice (some ⟨bd,0,none⟩) n cap,iv ((m:Int) - (i:Int)),iv (m:Int),iv (j:Int),cv]) rfl (by have q:=Zi fH1;rw [show ((m - i:Nat):Int)=(m:Int) - (i:Int) by omega] at q;exact q) ?_
   have mH1:=kH1.1
   have hk:=hk.trans kH1
   have hc:=cH1
   have hp:=hp.trans (pH1.mono (by omega) (by omega) (by omega))
   refine Zb ?_
   show Zq _ _ _ _ _ _ _ _
   refine Za rfl<|Za rfl<|Z8 (a:=(i:Int)) (b:=(j:Int)) rfl rfl ⟨by omega,by omega⟩<|Za rfl<|Zb ?_
   rw [jk (i:=i) (j:=j) (by omega) (by omega)] at hr
   exact ⟨_,(i - j,j),by simp only [];omega,⟨rfl,by omega,by omega,by simp only [];omega,by omega,_,hr,hp,hk,hc⟩,rfl,rfl,rfl,ivq (by simp only [];omega),rfl,trivial⟩
  ·have q2:¬ ((i:Int) > (j:Int)):=of_decide_eq_false q2
   refine Zc<|Za rfl<|Za rfl<|Za rfl<|Z8 (a:=(m:Int)) (b:=(i:Int)) rfl rfl ⟨by omega,by omega⟩<|Za rfl<|Za rfl<|ZB (a:=(m:Int)) (b:=(j:Int)) rfl rfl ⟨by omega,by omega⟩<|Za rfl<|Z8 (a:=(m:Int)+(j:Int)) (b:=(i:Int)) rfl rfl ⟨by omega,by omega⟩<|Za rfl<|Za rfl ?_
   obtain ⟨H2,fH2,pH2,kH2,cH2⟩:=yX (kn:=kn) (lo:=lo) (H:=L1) (by have:=hk.1;omega) hlb hn (cap:=cap) hc (cv:=cv) (a:=m - i) (b:=(m+j) - i) (c:=i) (by omega) (by omega)
   refine Zx (vs:=[.slice (some ⟨bd,0,none⟩) n cap,iv ((m:Int) - (i:Int)),iv (((m:Int)+(j:Int)) - (i:Int)),iv (i:Int),cv]) rfl (by have q:=Zi fH2;rw [show ((m - i:Nat):Int)=(m:Int) - (i:Int) by omega] at q;rw [show (((m+j) - i:Nat):Int)=((m:Int)+(j:Int)) - (i:Int) by omega] at q;exact q) ?_
   have mH2:=kH2.1
   have hk:=hk.trans kH2
   have hc:=cH2
   have hp:=hp.trans (pH2.mono (by omega) (by omega) (by omega))
   refine Zb ?_
   show Zq _ _ _ _ _ _ _ _
   refine Za rfl<|Za rfl<|Z8 (a:=(j:Int)) (b:=(i:Int)) rfl rfl ⟨by omega,by omega⟩<|Za rfl<|Zb ?_
   rw [yz (i:=i) (j:=j) (by omega) (by omega)] at hr
   exact ⟨_,(i,j - i),by simp only [];omega,⟨rfl,by omega,by omega,by omega,by simp only [];omega,_,hr,hp,hk,hc⟩,rfl,rfl,rfl,rfl,ivq (by simp only [];omega),trivial⟩
 ·have q1:¬ ((i:Int)≠(j:Int)):=by simpa using q1
  first | (refine ZE ?_;show wC _ _ _ _ _ _ _ _ _) | skip
  show Zq _ _ _ _ _ _ _ _
  refine Za rfl<|Za rfl<|Za rfl<|Z8 (a:=(m:Int)) (b:=(i:Int)) rfl rfl ⟨by omega,by omega⟩<|Za rfl<|Za rfl<|Za rfl ?_
  obtain ⟨H3,fH3,pH3,kH3,cH3⟩:=yX (kn:=kn) (lo:=lo) (H:=L1) (by have:=hk.1;omega) hlb hn (cap:=cap) hc (cv:=cv) (a:=m - i) (b:=m) (c:=i) (by omega) (by omega)
  refine Zx (vs:=[.slice (some ⟨bd,0,none⟩) n cap,iv ((m:Int) - (i:Int)),iv (m:Int),iv (i:Int),cv]) rfl (by have q:=Zi fH3;rw [show ((m - i:Nat):Int)=(m:Int) - (i:Int) by omega] at q;exact q) ?_
  have mH3:=kH3.1
  have hk:=hk.trans kH3
  have hc:=cH3
  have hp:=hp.trans (pH3.mono (by omega) (by omega) (by omega))
  refine Zb ?_
  obtain rfl:i=j:=by omega
  rw [ju (by omega),hr] at hc hp
  exact And.intro trivial (Exists.intro _ (And.intro rfl ⟨rfl,hp,hk,hc⟩))
set_option maxRecDepth 100000 in
set_option maxHeartbeats 2000000 in
theorem ZbI (hlo:lo≤H.next) {bd cap n:Nat} {g:Nat→Nat} {v:Nat→Int} (hlb:lo≤bd) (hn:n≤1000000) (hc:Cl H bd (cG (fun x=>[iv (v x)]) n g)) (hd:∀ k,k < n→g k < n) {fc:FuncId} {caps:Array Value} {key:Nat→Int} (hcmp:Uq Try.prog kn lo bd fc caps (fun x=>iv (v x)) n key H) {a b:Nat} (hab:a≤b) (hb:b≤n) (hid:∀ i j,a≤i→i < j→j < b→g i < g j):∃ H' g',FnX Try.prog kn lo 96 [.slice (some ⟨bd,0,none⟩) n cap,iv (a:Int),iv (b:Int),.func (.func fc) #[] caps] H (.tuple #[]) H'∧PRm a b g g'∧So key a b g'∧KT bd H H'∧Cl H' bd (cG (fun x=>[iv (v x)]) n g'):=by
 have key_:=Zs (kn:=kn) (lo:=lo) (H:=H) (args:=[.slice (some ⟨bd,0,none⟩) n cap,iv (a:Int),iv (b:Int),.func (.func fc) #[] caps]) (Q:=fun w H'=>w=.tuple #[]∧∃ g',PRm a b g g'∧So key a b g'∧KT bd H H'∧Cl H' bd (cG (fun x=>[iv (v x)]) n g')) Try.func96 B96 N96 Z96 L96 (by simp) ?_
 ·obtain ⟨w,H',h,rfl,g',r⟩:=key_;exact ⟨H',g',h,r⟩
 have hk:=KT.refl (H:=H) hc.1
 refine Zc<|Za rfl<|ZB (a:=(a:Int)) (b:=1) rfl rfl ⟨by omega,by omega⟩<|Za rfl<|Zb ?_
 refine ZA (fn:=Try.f96) ZhI N96 ZhQ (fun i:Nat=>[(0,.slice (some ⟨bd,0,none⟩) n cap),(1,iv (a:Int)),(2,iv (b:Int)),(3,.func (.func fc) #[] caps),(8,iv (i:Int))])
  (fun k i H'=>k=b+1 - i∧a+1≤i∧∃ g':Nat→Nat,PRm a (min i b) g g'∧So key a i g'∧KT bd H H'∧Cl H' bd (cG (fun x=>[iv (v x)]) n g')) _ (a+1) ⟨rfl,Nat.le_refl _,g,PRm.refl _ _ _,So.one,hk,hc⟩ ⟨rfl,rfl,rfl,rfl,ivq (by omega),trivial⟩ ?_
 rintro k i L1 ⟨rfl,hi1,gx1,hp,hs,hk,hc⟩
 refine Zc<|Za rfl<|Za rfl<|ZM (a:=(i:Int)) (b:=(b:Int)) rfl rfl<|Zb ?_
 refine And.intro (fun q1=>?_) (fun q1=>?_)
 ·have q1:(i:Int) < (b:Int):=of_decide_eq_true q1
  first | refine Zl ?_ | skip
  refine Zc<|Za rfl<|Za rfl<|Zb ?_
  rw [Nat.min_eq_left (by omega)] at hp
  have hib:i < b:=by omega
  refine ZA (fn:=Try.f96) Zi8 N96 ZhV (fun j:Nat=>[(0,.slice (some ⟨bd,0,none⟩) n cap),(1,iv (a:Int)),(2,iv (b:Int)),(3,.func (.func fc) #[] caps),(8,iv (i:Int)),(9,iv (j:Int))])
   (fun k j H'=>k=j+1∧∃ g':Nat→Nat,PRm a (i+1) g g'∧Inl key a i j g'∧KT bd H H'∧Cl H' bd (cG (fun x=>[iv (v x)]) n g')) _ i ⟨rfl,gx1,hp.mono (Nat.le_refl _) (by omega) (by omega),Inl.init hs (Zdo hp hid hib) (by omega),hk,hc⟩ ⟨rfl,rfl,rfl,rfl,rfl,rfl,trivial⟩ ?_
  rintro k j L2 ⟨rfl,gx2,hp,hin,hk,hc⟩
  have qaj:=hin.aj;have qji:=hin.ji;have hdm:=hp.dom hd (by omega)
  refine Y0<|Ze rfl<|Ze rfl<|VF (a:=(j:Int)) (b:=(a:Int)) rfl rfl ?_
  intro t2 g2;cases t2
  ·have g2:¬ ((j:Int) > (a:Int)):=of_decide_eq_false g2
   refine Ze rfl<|Zz rfl<|Zz rfl<|Zz rfl<|Zz rfl<|Zz rfl<|Zz rfl<|Zz rfl<|Zz rfl<|Zz rfl<|Zz rfl<|Zz rfl<|Zz rfl<|ZR (v:=.bool false) rfl rfl ?_
   refine ZJ (by repeat' first | exact True.intro | exact (fun h=>h) | refine And.intro ?_ ?_ | (intro h;have h:(_:Nat)=_:=h;omega)) ?_
   refine ZQ ?_
   first | (refine ZE ?_;show wC _ _ _ _ _ _ _ _ _) | skip
   show Zq _ _ _ _ _ _ _ _
   refine Za rfl<|ZB (a:=(i:Int)) (b:=1) rfl rfl ⟨by omega,by omega⟩<|Za rfl<|Zb ?_
   exact ⟨_,i+1,by omega,⟨rfl,by omega,gx2,by rw [Nat.min_eq_left (by omega)];exact hp,hin.done (fun h=>by omega),hk,hc⟩,rfl,rfl,rfl,rfl,ivq (by omega),trivial⟩
  ·have g2:(j:Int) > (a:Int):=of_decide_eq_true g2
   refine Ze rfl ?_
   refine Zr rfl (Ze rfl ?_)
   refine Zr rfl (Ze rfl ?_)
   refine Zr rfl (Ze rfl ?_)
   refine Zr rfl (Zw (b:=bd) (o:=0) (k:=j) (j:=(j:Int)) rfl rfl (by omega) (by omega) ?_)
   refine Zr rfl (ZD (b:=bd) (o:=0+j * 1) (v:=iv (v (gx2 j))) rfl hc.rd (WT (fun _=>rfl) (by omega) rfl) ?_)
   refine Zr rfl (Ze rfl ?_)
   refine Zr rfl (Ze rfl ?_)
   refine Zr rfl (Xd (a:=(j:Int)) (b:=1) rfl rfl ⟨by omega,by omega⟩ ?_)
   refine Zr rfl (Zw (b:=bd) (o:=0) (k:=j - 1) (j:=(j:Int) - 1) rfl rfl (by omega) (by omega) ?_)
   refine Zr rfl (ZD (b:=bd) (o:=0+(j - 1) * 1) (v:=iv (v (gx2 (j - 1)))) rfl hc.rd (WT (fun _=>rfl) (by omega) rfl) ?_)
   obtain ⟨rH1,H1,fH1,kH1,qH1⟩:=hcmp L2 hk.kp (gx2 j) (gx2 (j - 1)) (hdm _ (by omega)) (hdm _ (by omega))
   refine Zr rfl (Yy (vs:=[iv (v (gx2 j)),iv (v (gx2 (j - 1)))]) rfl fH1 ?_)
   have mH1:=kH1.1
   have hc:=kH1.cl hc (by simp)
   have hk:=hk.keep kH1
   refine Zr rfl (VL (a:=rH1) (b:=0) rfl rfl ?_)
   intro t3 g3;cases t3
   ·have g3:¬ (rH1 < 0):=of_decide_eq_false g3
    refine ZR (v:=.bool false) rfl rfl ?_
    refine ZJ (by repeat' first | exact True.intro | exact (fun h=>h) | refine And.intro ?_ ?_ | (intro h;have h:(_:Nat)=_:=h;omega)) ?_
    refine ZQ ?_
    first | (refine ZE ?_;show wC _ _ _ _ _ _ _ _ _) | skip
    show Zq _ _ _ _ _ _ _ _
    refine Za rfl<|ZB (a:=(i:Int)) (b:=1) rfl rfl ⟨by omega,by omega⟩<|Za rfl<|Zb ?_
    exact ⟨_,i+1,by omega,⟨rfl,by omega,gx2,by rw [Nat.min_eq_left (by omega)];exact hp,hin.done (fun h=>by omega),hk,hc⟩,rfl,rfl,rfl,rfl,ivq (by omega),trivial⟩
   ·have g3:rH1 < 0:=of_decide_eq_true g3
    refine ZR (v:=.bool true) rfl rfl ?_
    refine ZJ (by repeat' first | exact True.intro | exact (fun h=>h) | refine And.intro ?_ ?_ | (intro h;have h:(_:Nat)=_:=h;omega)) ?_
    refine YN ?_
    first | refine Zl ?_ | skip
    first | refine Yc ?_ | refine WB ?_ | refine VC ?_ | (refine YV ?_;refine Yc ?_)
    refine Ze rfl<|Ze rfl<|Ze rfl<|Ze rfl<|Xd (a:=(j:Int)) (b:=1) rfl rfl ⟨by omega,by omega⟩<|Ze rfl<|Ze rfl<|Xd (a:=(j:Int)) (b:=1) rfl rfl ⟨by omega,by omega⟩<|Zw (b:=bd) (o:=0) (k:=j - 1) (j:=(j:Int) - 1) rfl rfl (by omega) (by omega)<|ZD (b:=bd) (o:=0+(j - 1) * 1) (v:=iv (v (gx2 (j - 1)))) rfl hc.rd (WT (fun _=>rfl) (by omega) rfl)<|Ze rfl<|Ze rfl<|Zw (b:=bd) (o:=0) (k:=j) (j:=(j:Int)) rfl rfl (by omega) (by omega)<|ZD (b:=bd) (o:=0+j * 1) (v:=iv (v (gx2 j))) rfl hc.rd (WT (fun _=>rfl) (by omega) rfl)<|Zw (b:=bd) (o:=0) (k:=j) (j:=(j:Int)) rfl rfl (by omega) (by omega)<|UT (b:=bd) (o:=0+j * 1) rfl rfl hc hlb rfl rfl (by rw [XS (z:=1) (fun _=>rfl)];omega) ?_
    intro H2 kH2 nH2 sH2 tH2
    have mH2:=kH2.1
    have hk:=hk.put kH2 tH2
    have hc:Cl H2 bd (cG (fun x=>[iv (v x)]) n (upd gx2 j (gx2 (j - 1)))):=by rw [← UM (fun _=>rfl) (by omega) rfl];exact sH2
    refine Zw (b:=bd) (o:=0) (k:=j - 1) (j:=(j:Int) - 1) rfl rfl (by omega) (by omega)<|UT (b:=bd) (o:=0+(j - 1) * 1) rfl rfl hc hlb rfl rfl (by rw [XS (z:=1) (fun _=>rfl)];omega) ?_
    intro H3 kH3 nH3 sH3 tH3
    have mH3:=kH3.1
    have hk:=hk.put kH3 tH3
    have hc:Cl H3 bd (cG (fun x=>[iv (v x)]) n (upd (upd gx2 j (gx2 (j - 1))) (j - 1) (gx2 j))):=by rw [← UM (fun _=>rfl) (by omega) rfl];exact sH3
    have hc:Cl H3 bd (cG (fun x=>[iv (v x)]) n (swp gx2 j (j - 1))):=hc
    refine ZJ (by repeat' first | exact True.intro | exact (fun h=>h) | refine And.intro ?_ ?_ | (intro h;have h:(_:Nat)=_:=h;omega)) ?_
    show Zq _ _ _ _ _ _ _ _
    refine Za rfl<|Z8 (a:=(j:Int)) (b:=1) rfl rfl ⟨by omega,by omega⟩<|Za rfl<|Zb ?_
    exact ⟨_,j - 1,by omega,⟨rfl,_,hp.trans (PRm.swap (by omega) (by omega) (by omega) (by omega)),hin.step (by omega) (by omega),hk,hc⟩,rfl,rfl,rfl,rfl,rfl,ivq (by omega),trivial⟩
 ·have q1:¬ ((i:Int) < (b:Int)):=of_decide_eq_false q1
  first | (refine ZE ?_;show wC _ _ _ _ _ _ _ _ _) | skip
  exact And.intro trivial (Exists.intro _ (And.intro rfl ⟨rfl,gx1,by rw [Nat.min_eq_right (by omega)] at hp;exact hp,hs.mono (Nat.le_refl _) (by omega),hk,hc⟩))
end
end
end Go.Ax


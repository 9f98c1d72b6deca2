import Derived.Test.YtngkkiijcpdffaaMg
import Derived.Test.YtngkkiijcpdffaaChecked
import Derived.Deep.Slices
import Derived.Deep.Fields
import Derived.ChangeSame
set_option linter.all false
namespace Go.Ax
open Go Go.RowKit Go.Proofs Go.ChangeShapes Go.WideShapes Go.Deep

def JY (P:Program) (t:TypeId):Prop:=∀ (H:Type) (enc:TypeId × Value→H) (w:World) (base:Nat) (spare:Nat→Bool) (held:Bool) (fuel:Nat) (cs:List Value) (x:DataW H × List MemPlace),
 DataW.trod enc P w base spare held fuel t cs=some x→cs.length=P.cellsOf t∧∀ j,j < cs.length→∃ n,cs[j]? = some (.int .i64 n)
theorem JY.int {P:Program} {t:TypeId} (ht:P.underlying t=some (.int .i64)) (hc:P.cellsOf t=1):JY P t:=by
 intro H enc w base spare held fuel cs x h
 obtain ⟨n,rfl,_⟩:=DataW.trod_int ht h
 refine ⟨by rw [hc];rfl,fun j hj=>⟨n,?_⟩⟩
 have:j=0:=by simp at hj;omega
 subst this;rfl
theorem JY.struct {P:Program} {t:TypeId} {fs:Array Field} (ht:P.underlying t=some (.struct fs)) (hf:∀ f∈fs.toList,JY P f.type)
  (hcov:((List.range (P.cellsOf t)).all fun j=>fs.toList.any fun f=>decide (f.offset≤j) && decide (j < f.offset+P.cellsOf f.type))=true):JY P t:=by
 intro H enc w base spare held fuel cs x h
 obtain ⟨xs,n,_,_,hlen,hxl,hg⟩:=DataW.trod_struct ht h
 refine ⟨hlen,fun j hj=>?_⟩
 have h1:=List.all_eq_true.1 hcov j (List.mem_range.2 (by omega))
 obtain ⟨f,hfm,h2⟩:=List.any_eq_true.1 h1
 simp only [Bool.and_eq_true,decide_eq_true_eq] at h2
 obtain ⟨i,hi,hfi⟩:=List.getElem_of_mem hfm
 have hfs:fs[i]? = some f:=by
  rw [← Array.getElem?_toList,List.getElem?_eq_getElem hi,hfi]
 have hi2:i < xs.length:=by simpa [hxl] using hi
 have h3:=hg i f hfs
 rw [List.getElem?_eq_getElem hi2] at h3
 obtain ⟨h4,h5⟩:=hf f hfm _ _ _ _ _ _ _ _ _ h3
 obtain ⟨m,hm⟩:=h5 (j - f.offset) (by omega)
 refine ⟨m,?_⟩
 rw [List.getElem?_take] at hm
 split at hm
 ·rw [List.getElem?_drop,show f.offset+(j - f.offset)=j by omega] at hm;exact hm
 ·cases hm

structure UY {α:Type} (w:World) (v:Value) (f:α→List Value) (l:List α) (x:Imp):Prop where
 ok:∀ (i:Nat) u,x.cs[i]? = some u→w.cell? ⟨x.blk,x.off+i,none⟩=some u∧Y4 u=true
 cs:x.cs=l.flatMap f
 v:(v=.slice none 0 0∧l=[])∨∃ cap,v=.slice (some ⟨x.blk,x.off,none⟩) l.length cap∧l.length≤cap
theorem J6 {α:Type} {f:α→List Value} {k:Nat} (hk:0 < k):∀ {l:List α} (_:∀ x∈l,(f x).length=k) (i:Nat) (u:Value),(l.flatMap f)[i]? = some u→∃ x,l[i / k]? = some x∧(f x)[i % k]? = some u
 | [],_,i,u,h=>by simp at h
 | y :: r,hl,i,u,h=>by
  have hy:=hl y (List.mem_cons_self ..)
  rw [List.flatMap_cons,List.getElem?_append] at h
  split at h
  ·rename_i q
   rw [hy] at q
   refine ⟨y,?_,?_⟩
   ·rw [Nat.div_eq_of_lt q];rfl
   ·rw [Nat.mod_eq_of_lt q];exact h
  ·rename_i q
   rw [hy] at q h
   obtain ⟨x,h1,h2⟩:=J6 hk (fun x hx=>hl x (List.mem_cons_of_mem _ hx)) _ u h
   refine ⟨x,?_,?_⟩
   ·rw [Nat.div_eq_sub_div hk (by omega)];exact h1
   ·rw [Nat.mod_eq_sub_mod (by omega)];exact h2
theorem yl {H:Type} {enc:TypeId × Value→H} {P:Program} {w:World} {base b0:Nat} {r:Reach} {held:Bool} {α:Type} (f:α→List Value) (mk:(Nat→Int)→α) (k:Nat) {t e:TypeId} {fuel:Nat} {v:Value} {x:DataW H × List MemPlace}
  (ht:P.underlying t=some (.slice e)) (hI:JY P e) (hc:P.cellsOf e=k) (hk:0 < k) (hmk:∀ N:Nat→Int,f (mk N)=(List.range k).map fun j=>Value.int .i64 (N j))
  (hok:Cell.okWide P w r b0 t v) (h:DataW.trod enc P w base (fun _=>true) held fuel t [v]=some x):∃ (l:List α) (y:Imp),UY w v f l y:=by
 rcases open_slice ht h with ⟨h0,_⟩ | ⟨a,len,cap,m,n,D,Pl,hcs,hb,hl,hm,hmm,hx,hi⟩
 ·cases h0
  exact ⟨[],⟨0,0,[]⟩,fun i u e=>by simp at e,rfl,.inl ⟨rfl,rfl⟩⟩
 ·cases hcs
  obtain ⟨blk,off,spot⟩:=a
  have hs:spot=none:=by
   unfold Cell.okWide at hok
   rw [ht] at hok
   unfold Cell.ok at hok
   simp only [ht] at hok
   exact hok.2.2.2.1
  subst hs
  simp only [if_true] at hmm
  subst hmm
  have hcell:∀ i,i < len→∀ j,j < k→∃ n,w.cell? ⟨blk,off+(i * k+j),none⟩=some (.int .i64 n):=by
   intro i hil j hj
   obtain ⟨cs',h1,h2⟩:=hi i (by omega)
   obtain ⟨h3,h4⟩:=hI _ _ _ _ _ _ _ _ _ h2
   obtain ⟨_,h5,h6⟩:=World.cells?_some h1
   obtain ⟨n,hn⟩:=h4 j (by omega)
   refine ⟨n,?_⟩
   have h7:=h6 j (by omega)
   rw [hn,hc,add_add] at h7
   have e:(⟨blk,off,none⟩:Addr).add (i * k+j)=⟨blk,off+(i * k+j),none⟩:=by
    unfold Addr.add
    by_cases q:i * k+j=0
    ·simp [q]
    ·simp
   rw [e] at h7
   exact h7
  refine ⟨(List.range len).map fun i=>mk fun j=>match w.cell? ⟨blk,off+(i * k+j),none⟩ with | some (.int _ n)=>n | _=>0,⟨blk,off,_⟩,?_,rfl,.inr ⟨m,by simp,by simpa using hl⟩⟩
  intro i u hu
  obtain ⟨y,h1,h2⟩:=J6 hk (fun y hy=>by
   obtain ⟨i,_,rfl⟩:=List.mem_map.1 hy
   rw [hmk];simp) i u hu
  have hlt:i / k < len:=by
   have:=Qq h1
   simpa using this
  rw [List.getElem?_map,List.getElem?_range hlt] at h1
  simp only [Option.map_some,Option.some.injEq] at h1
  subst h1
  have hj:i % k < k:=Nat.mod_lt _ hk
  rw [hmk,List.getElem?_map,List.getElem?_range hj] at h2
  simp only [Option.map_some,Option.some.injEq] at h2
  obtain ⟨n,hn⟩:=hcell _ hlt _ hj
  rw [hn] at h2
  subst h2
  rw [Nat.div_add_mod' ] at hn
  exact ⟨hn,rfl⟩
theorem UY.rel {α:Type} {w:World} {v:Value} {f:α→List Value} {l:List α} {x:Imp} (g:UY w v f l x) {r:Ren} {H:Hp} {b:Nat} (hr:r b=some ⟨x.blk,x.off,none⟩) (hb:b < H.next) (hc:cellsOf H b=some x.cs) (hro:H.t.get b=some (.ro x.cs)) :
  ∃ a cap,VR r (.slice a l.length cap) v∧Sl H a l.length cap (l.flatMap f)∧∀ b,a=some ⟨b,0,none⟩→H.t.get b=some (.ro (l.flatMap f)):=by
 rcases g.v with ⟨rfl,rfl⟩ | ⟨cap,rfl,hl⟩
 ·exact ⟨none,0,.nilSlice,.inl ⟨.inl rfl,rfl,rfl,rfl⟩,fun b e=>by cases e⟩
 ·refine ⟨some ⟨b,0,none⟩,cap,?_,.inr ⟨b,rfl,⟨hb,by rw [hc,g.cs]⟩,hl⟩,fun b' e=>by cases e;rw [hro,g.cs]⟩
  have:=VR.slice (o:=0) (n:=l.length) (c:=cap) hr rfl hl
  simpa using this
end Go.Ax

/-! Slices of rows of plain cells,as_ arguments. -/
namespace Go.Ax
open Go Go.RowKit Go.Proofs Go.ChangeShapes Go.WideShapes Go.Deep

theorem JY.row {α:Type} {P:Program} {t:TypeId} {k:Nat} {f:α→List Value} {mk:(Nat→Int)→α} (h:JY P t) (hc:P.cellsOf t=k) (hmk:∀ N:Nat→Int,f (mk N)=(List.range k).map fun j=>Value.int .i64 (N j))
  {H:Type} {enc:TypeId × Value→H} {w:World} {base:Nat} {spare:Nat→Bool} {held:Bool} (fuel:Nat) (cs:List Value) (x:DataW H × List MemPlace) (hx:DataW.trod enc P w base spare held fuel t cs=some x):∃ y:α,cs=f y∧True:=by
 obtain ⟨h1,h2⟩:=h _ _ _ _ _ _ _ _ _ hx
 have:∃ N:Nat→Int,∀ j,j < cs.length→cs[j]? = some (.int .i64 (N j)):=by
  refine ⟨fun j=>match cs[j]? with | some (.int _ n)=>n | _=>0,fun j hj=>?_⟩
  obtain ⟨n,hn⟩:=h2 j hj
  simp [hn]
 obtain ⟨N,hN⟩:=this
 refine ⟨mk N,?_,trivial⟩
 rw [hmk]
 apply List.ext_getElem?
 intro j
 by_cases hj:j < k
 ·rw [hN j (by omega),List.getElem?_map,List.getElem?_range hj];rfl
 ·rw [List.getElem?_eq_none (by omega),List.getElem?_eq_none (by simp;omega)]
theorem Zcw {w:World} {a:Addr} {v:Value} (h:w.cell? a=some v):a.spot=none:=by
 unfold World.cell? at h
 split at h
 ·cases hs:a.spot with
  | none=>rfl
  | some x=>rw [hs] at h;simp at h
 ·cases h
theorem K5 (a:Addr):a.add 0=a:=by unfold Addr.add;simp
theorem KD (b o n:Nat):(⟨b,o,none⟩:Addr).add n=⟨b,o+n,none⟩:=by
 unfold Addr.add
 by_cases q:n=0
 ·simp [q]
 ·simp [q]
theorem Zai {H:Type} {enc:TypeId × Value→H} {P:Program} {w:World} {base:Nat} {held:Bool} {α:Type} {f:α→List Value} {Q:α→Prop} {k:Nat} {t e:TypeId} {fuel:Nat} {v:Value} {x:DataW H × List MemPlace}
  (ht:P.underlying t=some (.slice e)) (hR:∀ (fuel:Nat) (cs:List Value) (x:DataW H × List MemPlace),DataW.trod enc P w base (fun _=>true) held fuel e cs=some x→∃ y:α,cs=f y∧Q y) (hc:P.cellsOf e=k) (hk:0 < k) (hfk:∀ y,(f y).length=k)
  (h:DataW.trod enc P w base (fun _=>true) held fuel t [v]=some x):∃ (l:List α),l.length≤maxLen∧(∀ y∈l,Q y)∧
   (((v=.slice none 0 0∨∃ a',v=.slice (some a') 0 0)∧l=[])∨∃ blk off cap,v=.slice (some ⟨blk,off,none⟩) l.length cap∧l.length≤cap∧∀ (i:Nat) u,(l.flatMap f)[i]? = some u→w.cell? ⟨blk,off+i,none⟩=some u):=by
 rcases open_slice ht h with ⟨h0,_⟩ | ⟨a,len,cap,m,n,D,Pl,hcs,hb,hl,hm,hmm,hx,hi⟩
 ·cases h0
  exact ⟨[],by simp,fun y hy=>by simp at hy,.inl ⟨.inl rfl,rfl⟩⟩
 cases hcs
 simp only [if_true] at hmm
 subst hmm
 rcases Nat.eq_zero_or_pos m with h0 | h0
 ·subst h0
  have:len=0:=by omega
  subst this
  exact ⟨[],by simp,fun y hy=>by simp at hy,.inl ⟨.inr ⟨_,rfl⟩,rfl⟩⟩
 obtain ⟨blk,off,spot⟩:=a
 have hs:spot=none:=by
  obtain ⟨cs',h1,h2⟩:=hi 0 h0
  obtain ⟨y,hy,_⟩:=hR _ _ _ h2
  obtain ⟨_,h5,h6⟩:=World.cells?_some h1
  have h7:=h6 0 (by omega)
  rw [Nat.zero_mul,K5,K5] at h7
  have h8:cs'[0]? = some (cs'[0]'(by omega)):=List.getElem?_eq_getElem _
  rw [h8] at h7
  exact Zcw h7
 subst hs
 have hrow:∀ i,i < len→∃ y:α,Q y∧∀ j,j < k→∃ u,(f y)[j]? = some u∧w.cell? ⟨blk,off+(i * k+j),none⟩=some u:=by
  intro i hil
  obtain ⟨cs',h1,h2⟩:=hi i (by omega)
  obtain ⟨y,rfl,hq⟩:=hR _ _ _ h2
  obtain ⟨_,h5,h6⟩:=World.cells?_some h1
  refine ⟨y,hq,fun j hj=>?_⟩
  have h7:=h6 j (by omega)
  have h8:(f y)[j]? = some ((f y)[j]'(by rw [hfk];exact hj)):=List.getElem?_eq_getElem _
  rw [h8,hc,KD,KD,Nat.add_assoc] at h7
  exact ⟨_,h8,h7⟩
 have key:∀ n,n≤len→∃ l:List α,l.length=n∧(∀ y∈l,Q y)∧∀ (i:Nat) y,l[i]? = some y→∀ j,j < k→∃ u,(f y)[j]? = some u∧w.cell? ⟨blk,off+(i * k+j),none⟩=some u:=by
  intro n
  induction n with
  | zero=>intro _;exact ⟨[],rfl,fun y hy=>by simp at hy,fun i y e=>by simp at e⟩
  | succ n ih=>
   intro hn
   obtain ⟨l,h1,hq,h2⟩:=ih (by omega)
   obtain ⟨y,hyq,hy⟩:=hrow n (by omega)
   refine ⟨l ++ [y],by simp [h1],fun z hz=>?_,fun i z e=>?_⟩
   ·simp only [List.mem_append,List.mem_singleton] at hz
    rcases hz with hz | rfl
    ·exact hq z hz
    ·exact hyq
   rw [List.getElem?_append] at e
   split at e
   ·exact h2 i z e
   ·rename_i q
    have:i=n:=by have:=Qq e;simp at this;omega
    subst this
    rw [h1,Nat.sub_self] at e
    simp at e;subst e
    exact hy
 obtain ⟨l,hl1,hq,hl2⟩:=key len (Nat.le_refl _)
 refine ⟨l,by omega,hq,.inr ⟨blk,off,m,by rw [hl1],by omega,fun i u hu=>?_⟩⟩
 obtain ⟨y,h1,h2⟩:=J6 hk (fun y _=>hfk y) i u hu
 have hj:i % k < k:=Nat.mod_lt _ hk
 obtain ⟨u',e1,e2⟩:=hl2 _ y h1 _ hj
 rw [h2] at e1;cases e1
 rw [Nat.div_add_mod'] at e2
 exact e2
theorem yu {H:Type} {enc:TypeId × Value→H} {P:Program} {w:World} {base b0:Nat} {r:Reach} {held:Bool} {α:Type} {f:α→List Value} {Q:α→Prop} {k:Nat} {t e:TypeId} {fuel:Nat} {v:Value} {x:DataW H × List MemPlace}
  (ht:P.underlying t=some (.slice e)) (hR:∀ (fuel:Nat) (cs:List Value) (x:DataW H × List MemPlace),DataW.trod enc P w base (fun _=>true) held fuel e cs=some x→∃ y:α,cs=f y∧Q y) (hc:P.cellsOf e=k) (hk:0 < k) (hfk:∀ y,(f y).length=k) (hflat:∀ y u,u∈f y→Y4 u=true)
  (hok:Cell.okWide P w r b0 t v) (h:DataW.trod enc P w base (fun _=>true) held fuel t [v]=some x):∃ (l:List α) (y:Imp),UY w v f l y∧l.length≤maxLen∧∀ y∈l,Q y:=by
 obtain ⟨l,h1,h2,⟨h3,rfl⟩ | ⟨blk,off,cap,h3,h4,h5⟩⟩:=Zai ht hR hc hk hfk h
 ·rcases h3 with h3 | ⟨⟨blk,off,spot⟩,rfl⟩
  ·exact ⟨[],⟨0,0,[]⟩,⟨fun i u e=>by simp at e,rfl,.inl ⟨h3,rfl⟩⟩,h1,h2⟩
  ·have hs:spot=none:=by
    unfold Cell.okWide at hok
    rw [ht] at hok
    unfold Cell.ok at hok
    simp only [ht] at hok
    exact hok.2.2.2.1
   subst hs
   exact ⟨[],⟨blk,off,[]⟩,⟨fun i u e=>by simp at e,rfl,.inr ⟨0,rfl,Nat.le_refl 0⟩⟩,h1,h2⟩
 ·refine ⟨l,⟨blk,off,l.flatMap f⟩,⟨fun i u hu=>⟨h5 i u hu,?_⟩,rfl,.inr ⟨cap,h3,h4⟩⟩,h1,h2⟩
  obtain ⟨y,hy,hu'⟩:=List.mem_flatMap.1 (List.mem_of_getElem? hu)
  exact hflat y u hu'
theorem jZ:maxLen≤9223372036854775807:=by decide

end Go.Ax

/-! Arguments that point to what points: inner slices,rows of slices. -/
namespace Go.Ax
open Go Go.RowKit Go.Proofs Go.ChangeShapes Go.WideShapes Go.Deep

def z0 (imps:List Imp):Ren:=fun b=>(imps[b]?).map fun x=>⟨x.blk,x.off,none⟩
theorem ZaE {P:Program} (imps outs:List Imp) (w:World) (h:∀ x∈imps,∀ (i:Nat) v,x.cs[i]? = some v→w.cell? ⟨x.blk,x.off+i,none⟩=some v∧Y4 v=true)
  (hcs:∀ x∈outs,∀ (i:Nat) v,x.cs[i]? = some v→∃ v',w.cell? ⟨x.blk,x.off+i,none⟩=some v'∧VR (z0 imps) v v') :
  ∃ (r:Ren) (H:Hp),Rel P r w.heap.size H w∧H.next=(imps ++ outs).length∧(∀ b loc,r b=some loc→b < H.next)∧Ren.Le (z0 imps) r∧∀ (b:Nat) x,(imps ++ outs)[b]? = some x→r b=some ⟨x.blk,x.off,none⟩∧H.t.get b=some (.ro x.cs):=by
 have hall:∀ x∈imps ++ outs,∀ (i:Nat) v,x.cs[i]? = some v→∃ v',w.cell? ⟨x.blk,x.off+i,none⟩=some v'∧VR (z0 imps) v v':=by
  intro x hx i v hv
  rcases List.mem_append.1 hx with hx | hx
  ·obtain ⟨h1,h2⟩:=h x hx i v hv
   exact ⟨v,h1,UP h2⟩
  ·exact hcs x hx i v hv
 obtain ⟨t,ht⟩:=Zc7 (fun b=>((imps ++ outs)[b]?).map fun x=>.ro x.cs) (imps ++ outs).length
 have hle:Ren.Le (z0 imps) (fun b=>((imps ++ outs)[b]?).map fun x=>⟨x.blk,x.off,none⟩):=fun b loc e=>by
  unfold z0 at e
  have hlt:b < imps.length:=by
   rcases Nat.lt_or_ge b imps.length with q | q
   ·exact q
   ·rw [List.getElem?_eq_none q] at e;cases e
  show ((imps ++ outs)[b]?).map _=_
  rw [List.getElem?_append_left hlt];exact e
 have hr:∀ (b:Nat) loc,((imps ++ outs)[b]?).map (fun x=>(⟨x.blk,x.off,none⟩:Loc))=some loc→∃ x,(imps ++ outs)[b]? = some x∧b < (imps ++ outs).length∧loc=⟨x.blk,x.off,none⟩∧t.get b=some (.ro x.cs):=by
  intro b loc e
  cases hx:(imps ++ outs)[b]? with
  | none=>rw [hx] at e;cases e
  | some x=>
   rw [hx] at e
   simp at e
   have hlt:=Qq hx
   exact ⟨x,rfl,hlt,e.symm,by rw [ht,if_pos hlt,hx];rfl⟩
 have low:∀ {g o:Nat} {v:Value},w.cell? ⟨g,o,none⟩=some v→g < w.heap.size:=fun {g o v} hv=>by
  unfold World.cell? at hv
  rcases Nat.lt_or_ge g w.heap.size with q | q
  ·exact q
  ·rw [Array.getElem?_eq_none q] at hv;cases hv
 refine ⟨fun b=>((imps ++ outs)[b]?).map fun x=>⟨x.blk,x.off,none⟩,{ next:=(imps ++ outs).length,t },⟨?_,?_,?_,Nat.le_refl _⟩,rfl,?_,hle,?_⟩
 ·intro b loc e
  obtain ⟨x,hx,hlt,rfl,hg⟩:=hr b loc e
  refine ⟨hlt,?_⟩
  show Dm _ _ _ (t.get b)
  rw [hg]
  cases hc:x.cs with
  | nil=>exact .inl rfl
  | cons v l=>
   obtain ⟨v',h1,_⟩:=hall x (List.mem_of_getElem? hx) 0 v (by rw [hc];rfl)
   exact .inr (low h1)
 ·intro b loc o e eo
  obtain ⟨x,hx,hlt,rfl,hg⟩:=hr b loc e
  rw [hg] at eo;cases eo
  refine ⟨rfl,fun i v ev=>?_⟩
  obtain ⟨v',h1,h2⟩:=hall x (List.mem_of_getElem? hx) i v ev
  unfold World.cell? at h1
  simp only at h1
  split at h1
  ·rename_i C e' f hC
   exact ⟨C,e',f,v',hC,by simpa using h1,h2.mono hle⟩
  ·cases h1
 ·intro b b' loc loc' e e' _ hl _
  obtain ⟨x,hx,hlt,rfl,hg⟩:=hr b loc e
  obtain ⟨o,h1,h2,h3⟩:=hl
  have:t.get b=some o:=h1
  rw [hg] at this;cases this
  cases h3
 ·intro b loc e
  obtain ⟨x,hx,hlt,rfl,hg⟩:=hr b loc e
  exact hlt
 ·intro b x hx
  have hlt:=Qq hx
  refine ⟨by simp only [hx,Option.map_some],?_⟩
  show t.get b=_
  rw [ht,if_pos hlt,hx];rfl

structure Zdv {α:Type} (w:World) (v:Value) (f:α→List Value) (l:List α) (x:Imp):Prop where
 ok:∀ (i:Nat) u,x.cs[i]? = some u→w.cell? ⟨x.blk,x.off+i,none⟩=some u∧Y4 u=true
 cs:x.cs=l.flatMap f
 v:((v=.slice none 0 0∨∃ a',v=.slice (some a') 0 0)∧l=[])∨∃ cap,v=.slice (some ⟨x.blk,x.off,none⟩) l.length cap∧l.length≤cap
theorem Zdv.rel {α:Type} {w:World} {v:Value} {f:α→List Value} {l:List α} {x:Imp} (g:Zdv w v f l x) {r:Ren} {b:Nat} (hr:r b=some ⟨x.blk,x.off,none⟩) :
  ∃ a cap,VR r (.slice a l.length cap) v∧(∀ y,a=some ⟨y,0,none⟩→y=b)∧∀ H:Hp,b < H.next→H.t.get b=some (.ro x.cs)→Sl H a l.length cap (l.flatMap f):=by
 rcases g.v with ⟨rfl | ⟨a',rfl⟩,rfl⟩ | ⟨cap,rfl,hl⟩
 ·exact ⟨none,0,.nilSlice,fun y e=>by (cases e),fun H _ _=>.inl ⟨.inl rfl,rfl,rfl,rfl⟩⟩
 ·exact ⟨some ⟨0,0,some 0⟩,0,.weird (.inl rfl),fun y e=>by (cases e),fun H _ _=>.inl ⟨.inr rfl,rfl,rfl,rfl⟩⟩
 ·refine ⟨some ⟨b,0,none⟩,cap,?_,fun y e=>by (cases e;rfl),fun H hb hc=>.inr ⟨b,rfl,⟨hb,by unfold cellsOf;rw [hc,g.cs]⟩,hl⟩⟩
  have:=VR.slice (o:=0) (n:=l.length) (c:=cap) hr rfl hl
  simpa using this
structure RV where
 rv:Value
 l:List Int
 x:Imp
def RV.f (r:RV):List Value:=[r.rv]
def RV.Q (w:World) (r:RV):Prop:=Zdv w r.rv (fun n:Int=>[iv n]) r.l r.x
end Go.Ax

/-! What is YG as_ arguments. -/
namespace Go.Ax
open Go Go.RowKit Go.Proofs Go.ChangeShapes Go.WideShapes Go.Deep

theorem zo {P:Program} (pre:List Imp) {w:World} (h:∀ x∈pre,∀ (i:Nat) v,x.cs[i]? = some v→w.cell? ⟨x.blk,x.off+i,none⟩=some v∧Y4 v=true) :
  ∃ (r:Ren) (H:Hp),Rel P r w.heap.size H w∧(∀ b loc,r b=some loc→b < H.next)∧(∀ (b:Nat) x,pre[b]? = some x→b < H.next∧r b=some ⟨x.blk,x.off,none⟩∧H.t.get b=some (.ro x.cs)):=by
 obtain ⟨r,H,h1,h2,h3,h4,h5⟩:=ZaE (P:=P) pre [] w h (fun x hx=>by simp at hx)
 refine ⟨r,H,h1,h3,fun b x hx=>?_⟩
 have:=Qq hx
 obtain ⟨a,c⟩:=h5 b x (by simpa using hx)
 exact ⟨by rw [h2];simpa using this,a,c⟩
end Go.Ax


import Derived.Test.YtobbfhkodccclaaMf
import Derived.Test.YtobbfhkodccclaaRows
set_option linter.all false
/-! Drawn regions whose values are told by the run: calls that come to one of several ends. Pieces of code over the machine. -/
namespace Go.Ax
open Go Go.RowKit
section
variable {P:Program} {kn:Kn} {lo n:Nat} {rd:Bool}
def Zea (V:Nat→Value) (i:Nat) (v:Value):Nat→Value:=fun j=>bif Nat.beq j i then v else V j
def ZjE (P:Program) (kn:Kn) (lo n:Nat) (ops:List RO) (HP:(Nat→Bool)→(Nat→Value)→Hp→Prop) (S:Rg) (i m:Nat) (o:RO):Prop:=
 ∀ (done:Nat→Bool) (V:Nat→Value) (S':Rg) (H':Hp),done i=false→(∀ j,m.testBit j=true→done j=true)→HP done V H'→KD ops V done S S'→Xx P kn lo n S' H' o fun S2 H2=>∃ v,S2=Zy S' o.dst v∧HP (jP done i) (Zea V i v) H2
def ZeI (P:Program) (kn:Kn) (lo n:Nat) (ops:List RO) (HP:(Nat→Bool)→(Nat→Value)→Hp→Prop) (S:Rg) (ms:List Nat):List RO→Nat→Prop
 | [],_=>True
 | o :: r,i=>ZjE P kn lo n ops HP S i (ms.getD (ops.length - 1 - i) 0) o∧ZeI P kn lo n ops HP S ms r (i+1)
theorem jW {ops:List RO} {HP:(Nat→Bool)→(Nat→Value)→Hp→Prop} {S:Rg} {ms:List Nat}:∀ (l:List RO) (k:Nat),ZeI P kn lo n ops HP S ms l k→∀ i o,l[i]? = some o→ZjE P kn lo n ops HP S (k+i) (ms.getD (ops.length - 1 - (k+i)) 0) o
 | [],_,_,i,o,e=>by simp at e
 | x :: l,k,h,i,o,e=>by
  cases i with
  | zero=>simp at e;subst e;exact h.1
  | succ i=>rw [show k+(i+1)=k+1+i by omega];exact jW l (k+1) h.2 i o (by simpa using e)
theorem ZcB (s:Snd P kn) {id:Nat} {ops:Array Oper} {ord:Nat→Bool} {rl:List RO} {S:Rg} {H:Hp} {K:Exit→Rg→Hp→Prop} (hreg:Qh ops=true) (hl:Y4 P n ops.toList ord ops.toList 0=some rl) {HP:(Nat→Bool)→(Nat→Value)→Hp→Prop} {V0:Nat→Value} (hnd:(rl.filterMap (·.dst)).Nodup) (h0:HP (fun _=>false) V0 H) (hops:ZeI P kn lo n rl HP S (We ops.toList 0 []) rl 0) (hend:∀ done V H',(∀ i,i < rl.length→done i=true)→HP done V H'→K .normal (Zb9 V rl 0 S) H') :
  Yn P lo n rd (.region id ops true) S H K:=by
 obtain ⟨hlen,hget⟩:=QN ops.toList 0 hl
 have hlen:rl.length=ops.size:=by simpa using hlen
 have hR:=Ud hreg
 have key:∀ (fuel t:Nat) (L:Array Bool) (V:Nat→Value) (S':Rg) (H':Hp),L.size=ops.size→todo ops L≤fuel→(∀ (i:Nat) o,ops[i]? = some o→Z2 L i→∀ e∈o.after,Region.binds .any e=true→Z2 L e.on)→HP (fun i=>L.getD i false) V H'→KD rl V (fun i=>L.getD i false) S S'→
   Up P lo n rd ops (Region.linearise.go .any ops fuel t L []) S' H' K:=by
  have fin:∀ (L:Array Bool) (V:Nat→Value) (S':Rg) (H':Hp),(∀ i,i < ops.size→Z2 L i)→HP (fun i=>L.getD i false) V H'→KD rl V (fun i=>L.getD i false) S S'→Up P lo n rd ops [] S' H' K:=by
   intro L V S' H' hall hHP hKD
   have hk:=hend _ V H' (fun i hi=>hall i (by rw [← hlen];exact hi)) hHP
   have hsub:=qg (V:=V) (S':=S') rl 0 S hnd (fun i o d e1 e2=>by
    have hi:i < rl.length:=by
     rcases Nat.lt_or_ge i rl.length with q | q
     ·exact q
     ·rw [List.getElem?_eq_none q] at e1;cases e1
    rw [Nat.zero_add]
    exact hKD.1 i o d e1 e2 (hall i (by rw [← hlen];exact hi))) hKD.2
   exact fun base r w A tmps ds rdv cs k hlo hrel hF hn hr hS=>Up.nil hk base r w A tmps ds rdv cs k hlo hrel hF hn hr fun j v e=>hS j v (hsub j v e)
  intro fuel
  induction fuel with
  | zero=>
   intro t L V S' H' hL hf hcl hHP hKD
   simp only [Region.linearise.go,List.reverse_nil]
   exact fin L V S' H' (U9 (by omega)) hHP hKD
  | succ fuel ih=>
   intro t L V S' H' hL hf hcl hHP hKD
   have hgo:Region.linearise.go .any ops (fuel+1) t L []=match (Region.ready .any ops L)[t % (Region.ready .any ops L).length]? with
    | some i=>Region.linearise.go .any ops fuel (t / (Region.ready .any ops L).length) (L.setIfInBounds i true) [i]
    | none=>[]:=by
    simp only [Region.linearise.go]
    rfl
   cases hi:(Region.ready .any ops L)[t % (Region.ready .any ops L).length]? with
   | none=>
    have hnil:Region.ready .any ops L=[]:=by
     cases hr:Region.ready .any ops L with
     | nil=>rfl
     | cons x xs=>
      rw [hr] at hi
      have hlt:t % (x :: xs).length < (x :: xs).length:=Nat.mod_lt _ (by simp)
      rw [List.getElem?_eq_getElem hlt] at hi
      cases hi
    rw [hgo,hi]
    exact fin L V S' H' (Ui hR hL hnil) hHP hKD
   | some i=>
    have hmem:=List.mem_of_getElem? hi
    obtain ⟨hlt,hun,o,ho,hr⟩:=VT.1 hmem
    have hLi:i < L.size:=by rw [hL];exact hlt
    have hunD:L.getD i false=false:=by
     have:L[i]? = some (L[i]'hLi):=Array.getElem?_eq_getElem hLi
     simp only [Array.getD_eq_getD_getElem?,this,Option.getD_some] at hun ⊢
     exact hun
    have hun':¬ Z2 L i:=by unfold Z2;rw [hunD];simp
    rw [hgo,hi]
    simp only
    rw [linearise_go_acc,List.reverse_singleton,List.singleton_append]
    obtain ⟨ro,hrl,hro⟩:=hget i o (by simpa using ho)
    have hanc:∀ j,Anc ops i j→Z2 L j:=by
     have cl:∀ {a b},Anc ops a b→Z2 L a→Z2 L b:=by
      intro a b ha
      induction ha with
      | edge ho he hb=>exact fun hj=>hcl _ _ ho hj _ he hb
      | more ho he hb _ ih=>exact fun hj=>ih (hcl _ _ ho hj _ he hb)
     intro j ha
     cases ha with
     | edge ho' he hb=>rw [ho] at ho';cases ho';exact hr _ he hb
     | more ho' he hb ha=>rw [ho] at ho';cases ho';exact cl ha (hr _ he hb)
    have hm:=Ux ops
    have h1:=jW rl 0 hops i ro hrl
    rw [Nat.zero_add,hlen] at h1
    have hmask:∀ j,((We ops.toList 0 []).getD (ops.size - 1 - i) 0).testBit j=true→L.getD j false=true:=by
     intro j hj
     have hlt':ops.size - 1 - i < (We ops.toList 0 []).length:=by rw [hm.1];omega
     have hg:=List.getElem?_eq_getElem hlt'
     rw [List.getD_eq_getElem?_getD,hg,Option.getD_some] at hj
     exact hanc j (hm.2 i _ hlt hg j hj)
    refine J4 s ho hro (h1 _ V S' H' hunD hmask hHP hKD) fun {S2 H2} q=>?_
    obtain ⟨v0,rfl,hHP2⟩:=q
    have hset:(fun j=>(L.setIfInBounds i true).getD j false)=jP (fun j=>L.getD j false) i:=by
     funext j
     unfold jP
     by_cases e:j=i
     ·subst e
      rw [Nat.beq_refl,cond_true]
      exact (Yj hLi).2 (.inl rfl)
     ·have:Nat.beq j i=false:=by
       cases hb:Nat.beq j i with
       | false=>rfl
       | true=>exact absurd (Nat.eq_of_beq_eq_true hb) e
      rw [this,cond_false]
      simp only [Array.getD_eq_getD_getElem?,Array.getElem?_setIfInBounds]
      rw [if_neg (fun q=>e q.symm)]
    refine ih _ _ (Zea V i v0) _ _ (by simp [hL]) (by have:=Ja hLi hlt hun';omega) ?_ (by rw [hset];exact hHP2) ?_
    ·intro j oj hoj hdj e he hb
     rcases (Yj hLi).1 hdj with rfl | hdj
     ·rw [ho] at hoj;cases hoj
      exact (Yj hLi).2 (.inr (hr _ he hb))
     ·exact (Yj hLi).2 (.inr (hcl _ _ hoj hdj _ he hb))
    ·rw [hset]
     refine ⟨fun j oj d e1 e2 e3=>?_,fun j v e q=>?_⟩
     ·by_cases e:j=i
      ·subst e
       rw [hrl] at e1;cases e1
       rw [e2]
       simp only [Zy,lk,Zea,Nat.beq_refl,cond_true]
      ·have hV:Zea V i v0 j=V j:=by
        have:Nat.beq j i=false:=by
         cases hb:Nat.beq j i with
         | false=>rfl
         | true=>exact absurd (Nat.eq_of_beq_eq_true hb) e
        simp only [Zea,this,cond_false]
       rw [hV]
       have hd:L.getD j false=true:=by
        unfold jP at e3
        have:Nat.beq j i=false:=by
         cases hb:Nat.beq j i with
         | false=>rfl
         | true=>exact absurd (Nat.eq_of_beq_eq_true hb) e
        rw [this,cond_false] at e3
        exact e3
       cases hod:ro.dst with
       | none=>exact hKD.1 j oj d e1 e2 hd
       | some d'=>
        have hne:d'≠d:=fun q=>e (WU hnd j i oj ro d e1 hrl e2 (by rw [hod,q]))
        have hb:Nat.beq d' d=false:=by
         cases hb:Nat.beq d' d with
         | false=>rfl
         | true=>exact absurd (Nat.eq_of_beq_eq_true hb) hne
        simp only [Zy,lk,hb,cond_false]
        exact hKD.1 j oj d e1 e2 hd
     ·cases hod:ro.dst with
      | none=>exact hKD.2 j v e q
      | some d'=>
       have hne:d'≠j:=fun x=>q ro (List.mem_of_getElem? hrl) (by rw [hod,x])
       have hb:Nat.beq d' j=false:=by
        cases hb:Nat.beq d' j with
        | false=>rfl
        | true=>exact absurd (Nat.eq_of_beq_eq_true hb) hne
       simp only [Zy,lk,hb,cond_false]
       exact hKD.2 j v e q
 intro base r w A tmps ds rdv cs k hlo hrel hF hn hr hS
 have hst:=key ops.size (w.tape w.drawn (.order A.fn id)) (Array.replicate ops.size false) V0 S H (by simp) (by
  unfold todo;have:=List.countP_le_length (p:=fun i=>!(Array.replicate ops.size false).getD i false) (l:=List.range ops.size);simpa using this)
  (fun i o ho hd=>by unfold Z2 at hd;simp [Array.getD_eq_getD_getElem?,Array.getElem?_replicate] at hd;split at hd<;>simp at hd)
  (by
   have:(fun i=>(Array.replicate ops.size false).getD i false)=fun _=>false:=by
    funext i
    simp only [Array.getD_eq_getD_getElem?,Array.getElem?_replicate]
    split<;>rfl
   rw [this];exact h0)
  ⟨fun i o d _ _ hd=>by simp [Array.getD_eq_getD_getElem?,Array.getElem?_replicate] at hd;split at hd<;>simp at hd,fun j v e _=>e⟩
 have hrel':Rel P r base H { w with drawn:=w.drawn+1 }:=⟨hrel.dom,hrel.cont,hrel.inj,hrel.top⟩
 have hp0:Zt P lo base r H w r H { w with drawn:=w.drawn+1 }:=⟨.refl r,hrel',Nat.le_refl _,fun _ _ e=>.inl e,fun k hk q=>rfl,fun _ _=>rfl,⟨rfl,rfl,rfl,Nat.le_refl _⟩⟩
 obtain ⟨e,S1,H1,T1,a,b,q⟩:=hst base r { w with drawn:=w.drawn+1 } A tmps ds rdv cs k hlo hrel' hF hn hr hS
 refine ⟨e,S1,H1,T1,a,b,Z1.of_steps (Steps.one KH) ?_⟩
 simp only [Region.schedule,s.hm,Bool.true_or,if_true]
 exact Z1.after hlo hp0 (JY.refl A) q
theorem Zez {c:Code} {l:List RO} {ms:List Nat} (h:low P n c=some (.dreg l ms)):∃ id ops ord,c=.region id ops true∧Qh ops=true∧Y4 P n ops.toList ord ops.toList 0=some l∧ms=We ops.toList 0 []:=by
 cases c<;>simp only [low] at h
 case region id ops draw=>
  cases draw with
  | true=>
   simp only [cond_true] at h
   obtain ⟨hr,h⟩:=Zf h
   split at h<;>first | (cases h;done) | skip
   rename_i x hx
   cases h
   exact ⟨id,ops,_,rfl,hr,hx,rfl⟩
  | false=>
   simp only [cond_false] at h
   split at h<;>cases h
 all_goals first | (cases h;done) | (split at h<;>first | (cases h;done) | (split at h<;>cases h;done))
theorem yq (s:Snd P kn) {c:Code} {rl:List RO} {ms:List Nat} {S S0:Rg} {H:Hp} {K:Exit→Rg→Hp→Prop} (hL:low P n c=some (.dreg rl ms)) (hS:WM S0 S) (HP:(Nat→Bool)→(Nat→Value)→Hp→Prop) (V0:Nat→Value) (hnd:(rl.filterMap (·.dst)).Nodup) (h0:HP (fun _=>false) V0 H) (hops:ZeI P kn lo n rl HP S0 ms rl 0)
  (hend:∀ done V H',(∀ i,i < rl.length→done i=true)→HP done V H'→K .normal (Zb9 V rl 0 S0) H'):Yn P lo n rd c S H K:=by
 obtain ⟨id,ops,ord,rfl,hr,hl,rfl⟩:=Zez hL
 exact (ZcB s hr hl hnd h0 hops hend).forget hS.get
theorem Zhl (s:Snd P kn) {c:Code} {r:RC} (hl:LV P n c r):∀ {S:Rg} {H:Hp} {K:Exit→Rg→Hp→Prop},wCM P kn lo n rd r S H K→Yn P lo n rd c S H K:=by
 induction hl with
 | low h=>exact fun w=>Yh s _ h w
 | other c=>exact fun w=>w
 | seq _ _ ih1 ih2=>exact fun w=>Yn.seq ((ih1 w).mono fun e S' H' q=>by
   cases e with
   | normal=>exact ih2 q
   | _=>exact q)
 | block id _ ih=>exact fun w=>Yn.block (ih w)
 | cond o _ _ ih1 ih2=>
  intro S H K w
  simp only [wCM] at w
  split at w<;>first | exact w.elim | skip
  rename_i t ht
  cases t with
  | true=>exact Yn.cond ht (ih1 (w.1 rfl))
  | false=>exact Yn.cond ht (ih2 (w.2 rfl))
theorem Zdu {f:FuncId} {fn:Func} {R:RC} {n:Nat} {rs:List ResultVar} {args:List Value} {H:Hp} {Q:Value→Hp→Prop} (s:Snd P kn) (hf:P.funcs[f]? = some fn) (hb:fn.body=some (at_ fn [])) (hn:fn.ntmps=n) (hz:fn.results.toList=rs) (hL:LV P n (at_ fn []) R) (hl:args.length≤n)
  (h:wCM P kn lo n false R (VS args 0) H fun e S' H'=>(match e with | .normal=>True | .ret=>True | _=>False)∧∃ vs,Wt P S' H' rs=some vs∧Q (X7 vs) H'):FnM P lo f args H Q:=by
 subst hn hz
 exact zo hf hb hl (Zhl s hL h)
end
end Go.Ax

/-
 Pool: Quotas,Percent,Shares (11,13,15) (written by program).
-/
namespace Go.Ax
open Go Go.RowKit Go.Proofs

noncomputable section
noncomputable def R11D:RC:=(.dreg [oM 14 0,oD 15 3 4,⟨some 16,none,(.call ⟨(.value (.func 26)),#[(.tmp 14),(.tmp 15)],#[22,24]⟩ false)⟩,oJ 17 3 3,oL 18 17 1,oC 19 25 #[(.tmp 16),(.tmp 18)] #[60,3],oM 4 19,oN 5 0] [127,63,31,8,0,3,0,0])
theorem Zj6:low Try.prog 20 (at_ Try.f11 [1,1,0])=some R11D:=by kernel_rfl
noncomputable def R11v:RC:=(.seq (.reg [oK 3 24 1,⟨some 4,none,(.mov (.const (.slice none 0 0)))⟩,oN 5 0])
 (.seq (.seq (.reg [oM 6 0,oC 7 23 #[(.tmp 6)] #[22],oU 8 7,oM 9 8,⟨some 10,(some (9,false)),(.lda (.tmp 3) 4)⟩,oH 11 9 false 24 #[(.tmp 10)] #[24],oV 12 9 false 11,oO 13 9 12])
 (.cond (.tmp 13) (.seq (.reg [⟨some 4,none,(.mov (.const (.slice none 0 0)))⟩,oN 5 1])
 .ret)
 .skip))
 (.seq (.other (at_ Try.f11 [1,1,0]))
 .ret)))
theorem V11:LV Try.prog 20 (at_ Try.f11 []) R11v:=by
 have e:at_ Try.f11 []=(.seq (at_ Try.f11 [0]) (.seq (at_ Try.f11 [1,0]) (.seq (at_ Try.f11 [1,1,0]) (at_ Try.f11 [1,1,1])))):=by kernel_rfl
 rw [e]
 exact (.seq (.low (by kernel_rfl)) (.seq (.low (by kernel_rfl)) (.seq (.other _) (.low (by kernel_rfl)))))
theorem Um {cs:List Cp} {g:Gl} {a b:Bool} (h1:vC cs=a) (h2:vG g=b):vA cs g=(a && b):=by unfold vA;rw [h1,h2]
def qS (n:Nat):Bool:=(decide (100 < n) && decide (n≤256)) || decide (260 < n)
theorem qO {n:Nat} (h:n≤100):qS n=false:=by
 simp only [qS,Bool.or_eq_false_iff,Bool.and_eq_false_iff,decide_eq_false_iff_not]
 omega
theorem Q5 {n:Nat} (h:qS n=false) (h2:n≤256):n≤100:=by
 simp only [qS,Bool.or_eq_false_iff,Bool.and_eq_false_iff,decide_eq_false_iff_not] at h
 omega
theorem zB {g:Gl} {cs:List Cp} (hb:cs.any YM=false) (hg:vG g=true):∀ m∈mbL g cs,okM m:=Zhc hb hg
section
variable {kn:Kn} {lo:Nat} {H:Hp}
set_option maxRecDepth 100000 in
set_option maxHeartbeats 1000000 in
theorem U6 (s:Snd Try.prog kn) {cs:List Cp} {sa:Option Addr} {n cap:Nat} (hs:Sl H sa n cap (cpc cs)) (hl:cs.length=n) (hn:n≤400) (hlo:lo≤H.next) (hmn:qS n=false) {g:Gl} :
  FnM Try.prog lo 11 [.slice sa n cap,.agg (Gl.f g).toArray] H fun v H'=>∃ u,v=.tuple #[u,iv (quE cs g)]∧Acc lo H.next 44 H' u (quL cs g).length (qtc (quL cs g))∧Keep H H' []:=by
 refine Zdu s Try.func11 B11 N11 Z11 V11 (by simp) ?_
 have hk:=Keep.refl H []
 have fs:=hs.old
 refine Zk<|UJ (v:=.agg (Gl.f g).toArray) rfl ?_
 intro H1 kH1 nH1 c1
 have c1:Cl H1 H.next [iv g.y,iv g.k,iv g.b,iv g.p]:=c1
 have mH1:=kH1.1
 have hk:=hk.trans kH1
 have hs:=kH1.sl0 hs
 refine Zd rfl<|Zd rfl<|Zh<|Zk<|Zd rfl<|XX s rfl (Zb4 hs hl (by omega) (by omega)) ?_
 intro tH2 H2 hH2 kH2
 have mH2:=kH2.1
 have hk:=hk.trans kH2
 have hs:=kH2.sl0 hs
 have c1:=kH2.cl c1 (by simp)
 cases tH2
 ·have qvC:=hH2
  refine Zo (v:=.bool true) rfl rfl<|Zd rfl<|XU rfl<|XU rfl<|XU rfl<|Zo (v:=.bool true) rfl rfl<|Zh<|YN<|Zk<|Zd rfl<|Zd rfl<|Zh ?_
  have hvA:vA cs g=false:=by first | (rw [Um qvC qvG];rfl) | (unfold vA;rw [qvC];rfl)
  exact And.intro trivial (Exists.intro _ (And.intro rfl ⟨.slice none 0 0,by unfold quE;rw [if_neg (by rw [hvA];simp)];rfl,by unfold quL;rw [if_neg (by rw [hvA];simp)];exact .inl ⟨rfl,rfl,rfl⟩,hk⟩))
 ·have qvC:=hH2
  refine Zo (v:=.bool false) rfl rfl<|Zd rfl ?_
  refine YH rfl (Y1 (b:=H.next) (o:=0) rfl c1.rd (show row 4 _ _=some [iv g.y,iv g.k,iv g.b,iv g.p] from rfl) ?_)
  refine YH rfl (XX s rfl (ZbP (g:=g) (by omega)) ?_)
  intro tH3 H3 hH3 kH3
  have mH3:=kH3.1
  have hk:=hk.trans kH3
  have hs:=kH3.sl0 hs
  have c1:=kH3.cl c1 (by simp)
  cases tH3
  ·have qvG:=hH3
   refine YH rfl (Zo (v:=.bool true) rfl rfl ?_)
   refine Zo (v:=.bool true) rfl rfl<|Zh<|YN<|Zk<|Zd rfl<|Zd rfl<|Zh ?_
   have hvA:vA cs g=false:=by first | (rw [Um qvC qvG];rfl) | (unfold vA;rw [qvC];rfl)
   exact And.intro trivial (Exists.intro _ (And.intro rfl ⟨.slice none 0 0,by unfold quE;rw [if_neg (by rw [hvA];simp)];rfl,by unfold quL;rw [if_neg (by rw [hvA];simp)];exact .inl ⟨rfl,rfl,rfl⟩,hk⟩))
  ·have qvG:=hH3
   refine YH rfl (Zo (v:=.bool false) rfl rfl ?_)
   refine Zo (v:=.bool false) rfl rfl<|Zh<|ZQ ?_
   first | refine ZV ?_ | skip
   have hvA:vA cs g=true:=Um qvC qvG
   have hb:=(zt hvA).1;have hg:=(zt hvA).2;have hsm:=Q5 hmn (by have:=(Zdv qvC).1;omega)
   have hgt:=zf hg;have hmlen:=U3 (g:=g) hb;have hmok:=zB hb hg
   refine U1 (K2 ?_)
   have hxl:lo≤H3.next:=by omega
   refine yq s Zj6 (S0:=[(0,.slice sa n cap),(3,.pointer (some ⟨H.next,0,none⟩))]) ⟨rfl,rfl,trivial⟩ (fun done V H'=>Keep H3 H' []∧(done 0=true→V 0=.slice sa n cap)∧(done 1=true→V 1=.agg (Gl.f g).toArray)∧(done 2=true→∃ a cp,V 2=.slice a (mbL g cs).length cp∧Sl H' a (mbL g cs).length cp (mbc (mbL g cs)))∧(done 3=true→V 3=.pointer (some ⟨H.next,0+3,none⟩))∧(done 4=true→V 4=iv g.p)∧(done 5=true→Acc lo H3.next 44 H' (V 5) (qtL g.p (mbL g cs)).length (qtc (qtL g.p (mbL g cs))))∧(done 6=true→Acc lo H3.next 44 H' (V 6) (qtL g.p (mbL g cs)).length (qtc (qtL g.p (mbL g cs))))∧(done 7=true→V 7=iv 0)) (fun _=>iv 0) (by decide) ⟨Keep.refl _ _,(fun h=>by cases h),(fun h=>by cases h),(fun h=>by cases h),(fun h=>by cases h),(fun h=>by cases h),(fun h=>by cases h),(fun h=>by cases h),(fun h=>by cases h)⟩ ⟨?_,?_,?_,?_,?_,?_,?_,?_,True.intro⟩ (fun done V H9 hd hp=>?_)
   ·rintro done V S' H' hd hm ⟨k,p0,p1,p2,p3,p4,p5,p6,p7⟩ kd
    exact Xa (Zd (kd.old rfl rfl) (Zh ⟨_,rfl,k,fun _=>rfl,p1,p2,p3,p4,p5,p6,p7⟩))
   ·rintro done V S' H' hd hm ⟨k,p0,p1,p2,p3,p4,p5,p6,p7⟩ kd
    exact Xa (Y1 (b:=H.next) (o:=0) (kd.old rfl rfl) (k.rd c1.rd (by simp)) rfl (Zh ⟨_,rfl,k,p0,fun _=>rfl,p2,p3,p4,p5,p6,p7⟩))
   ·rintro done V S' H' hd hm ⟨k,p0,p1,p2,p3,p4,p5,p6,p7⟩ kd
    have mk:=k.1
    have h14:lk S' 14=some (.slice sa n cap):=kd.own 0 rfl (hm 0 (by decide)) (p0 (hm 0 (by decide)))
    have h15:lk S' 15=some (.agg (Gl.f g).toArray):=kd.own 1 rfl (hm 1 (by decide)) (p1 (hm 1 (by decide)))
    refine Xa (YR (t:=.fn (.func 26) #[]) (vs:=[.slice sa n cap,.agg (Gl.f g).toArray]) (by simp only [YO,zj,evS,h14,h15];rfl) (Ye s.hN (WX (H:=H') s (k.sl0 hs) hl hsm hb hg (by omega))) ?_)
    rintro _ H2 ⟨k2,a,cp,rfl,hs2⟩
    exact Zh ⟨_,rfl,k.trans k2,p0,p1,fun _=>⟨a,cp,rfl,hs2⟩,p3,p4,fun h=>(p5 h).keep k2,fun h=>(p6 h).keep k2,p7⟩
   ·rintro done V S' H' hd hm ⟨k,p0,p1,p2,p3,p4,p5,p6,p7⟩ kd
    exact Xa (YS (b:=H.next) (o:=0) (kd.old rfl rfl) (Zh ⟨_,rfl,k,p0,p1,p2,fun _=>rfl,p4,p5,p6,p7⟩))
   ·rintro done V S' H' hd hm ⟨k,p0,p1,p2,p3,p4,p5,p6,p7⟩ kd
    exact Xa (XQ (b:=H.next) (o:=0+3) (v:=iv g.p) (kd.own 3 rfl (hm 3 (by decide)) (p3 (hm 3 (by decide)))) (k.rd c1.rd (by simp)) rfl (Zh ⟨_,rfl,k,p0,p1,p2,p3,fun _=>rfl,p5,p6,p7⟩))
   ·rintro done V S' H' hd hm ⟨k,p0,p1,p2,p3,p4,p5,p6,p7⟩ kd
    have mk:=k.1
    obtain ⟨a,cp,e2,s2⟩:=p2 (hm 2 (by decide))
    have h16:lk S' 16=some (.slice a (mbL g cs).length cp):=kd.own 2 rfl (hm 2 (by decide)) e2
    have h18:lk S' 18=some (iv g.p):=kd.own 4 rfl (hm 4 (by decide)) (p4 (hm 4 (by decide)))
    obtain ⟨v,H2,f2,a2,k2⟩:=UC (kn:=kn) (lo:=lo) (H:=H') s2 rfl (by omega) (by omega) hmok (p:=g.p) (by omega) (by omega)
    exact Xa (Z6 s (t:=.fn (.func 25) #[]) (vs:=[.slice a (mbL g cs).length cp,iv g.p]) (by simp only [YO,zj,evS,h16,h18];rfl) (Zi f2) (Zh ⟨v,rfl,k.trans k2,p0,p1,fun h=>(by obtain ⟨a,cp,e,q⟩:=p2 h;exact ⟨a,cp,e,k2.sl0 q⟩),p3,p4,fun _=>a2.low (by omega),fun h=>(p6 h).keep k2,p7⟩))
   ·rintro done V S' H' hd hm ⟨k,p0,p1,p2,p3,p4,p5,p6,p7⟩ kd
    exact Xa (Zd (kd.own 5 rfl (hm 5 (by decide)) rfl) (Zh ⟨V 5,rfl,k,p0,p1,p2,p3,p4,p5,fun _=>p5 (hm 5 (by decide)),p7⟩))
   ·rintro done V S' H' hd hm ⟨k,p0,p1,p2,p3,p4,p5,p6,p7⟩ kd
    exact Xa (Zd rfl (Zh ⟨_,rfl,k,p0,p1,p2,p3,p4,p5,p6,fun _=>rfl⟩))
   obtain ⟨k,p0,p1,p2,p3,p4,p5,p6,p7⟩:=hp
   have p6:=p6 (hd 6 (by decide));have p7:=p7 (hd 7 (by decide))
   have mk:=k.1
   refine qC ⟨True.intro,[V 6,V 7],rfl,V 6,?_,?_,hk.trans k⟩
   ·rw [p7];unfold quE;rw [if_pos hvA];rfl
   ·unfold quL;rw [if_pos hvA];exact p6.low (by omega)
end
end
end Go.Ax

/-
 Pool: Percent,and the document's (13,14) (written by program).
-/
namespace Go.Ax
open Go Go.RowKit Go.Proofs

noncomputable section
def tot (ms:List Mb) (k:Nat):Int:=UQ (qtL (k:Int) ms)
theorem jU {ms:List Mb} (h:∀ m∈ms,okM m) {j k:Nat} (hjk:j≤k):tot ms j≤tot ms k:=by
 unfold tot
 induction ms with
 | nil=>exact Int.le_refl _
 | cons m ms ih=>
  have ih:=ih fun x hx=>h x (List.mem_cons_of_mem _ hx)
  have hm:=(h m List.mem_cons_self).2.2.1
  have h1:m.b * (j:Int)≤m.b * (k:Int):=Int.mul_le_mul_of_nonneg_left (by omega) hm
  have h2:m.b * (j:Int) / 1000≤m.b * (k:Int) / 1000:=Int.ediv_le_ediv (by decide) h1
  have e:∀ k:Int,UQ (qtL k (m :: ms))=m.b * k / 1000+UQ (qtL k ms):=fun k=>rfl
  rw [e,e]
  omega
theorem Zf1 {ms:List Mb}:tot ms 0=0:=by
 unfold tot
 induction ms with
 | nil=>rfl
 | cons m ms ih=>
  show m.b * ((0:Nat):Int) / 1000+UQ (qtL ((0:Nat):Int) ms)=0
  rw [ih];simp
def Mx (ms:List Mb) (dm:Int) (m:Nat):Prop:=m≤1000∧tot ms m≤dm∧∀ j,j≤1000→tot ms j≤dm→j≤m
theorem Mx.uniq {ms:List Mb} {dm:Int} {m m':Nat} (h:Mx ms dm m) (h':Mx ms dm m'):m=m':=by
 have a:=h.2.2 m' h'.1 h'.2.1
 have b:=h'.2.2 m h.1 h.2.1
 omega
theorem Mx.of {ms:List Mb} {dm:Int} (hm:∀ m∈ms,okM m) (hd:0≤dm) {m:Nat} (h:Lst (Zef ms dm) 1000 m):Mx ms dm m:=by
 obtain ⟨h1,h2,h3⟩:=h
 refine ⟨h1,?_,fun j hj hd2=>?_⟩
 ·rcases h2 with rfl | h2
  ·rw [Zf1];exact hd
  ·rcases Nat.eq_zero_or_pos m with rfl | h0
   ·rw [Zf1];exact hd
   ·have:=of_decide_eq_false h2
    have e:(((m - 1:Nat):Int)+1)=(m:Int):=by omega
    rw [e] at this
    unfold tot;omega
 ·rcases h3 with rfl | h3
  ·exact hj
  ·have:=of_decide_eq_true h3
   rcases Nat.lt_or_ge m j with q | q
   ·have t:=jU hm (show m+1≤j from q)
    have e:(((m+1:Nat):Int))=(m:Int)+1:=by omega
    unfold tot at t hd2
    rw [e] at t
    omega
   ·exact q
def PcS (cs:List Cp) (g:Gl) (dm v e:Int):Prop:=if vA cs g=true then (if inB dm 0 1099511627776=true then e=0∧∃ m:Nat,v=m∧Mx (mbL g cs) dm m else v=0∧e=2) else v=0∧e=1
theorem PcS.uniq {cs:List Cp} {g:Gl} {dm v e v' e':Int} (h:PcS cs g dm v e) (h':PcS cs g dm v' e'):v=v'∧e=e':=by
 unfold PcS at h h'
 split at h<;>rename_i q
 ·rw [if_pos q] at h'
  split at h<;>rename_i q2
  ·rw [if_pos q2] at h'
   obtain ⟨rfl,m,rfl,hm⟩:=h
   obtain ⟨rfl,m',rfl,hm'⟩:=h'
   exact ⟨by rw [hm.uniq hm'],rfl⟩
  ·rw [if_neg q2] at h'
   exact ⟨h.1.trans h'.1.symm,h.2.trans h'.2.symm⟩
 ·rw [if_neg q] at h'
  exact ⟨h.1.trans h'.1.symm,h.2.trans h'.2.symm⟩
theorem Xg {p:Int} {ms:List Mb} {i:Nat} (h:i < ms.length):(qtL p ms).getD i Qt.z=qtM p (ms.getD i Mb.z):=by
 unfold qtL
 rw [List.getD_eq_getElem?_getD,List.getElem?_map,List.getD_eq_getElem?_getD,List.getElem?_eq_getElem h];rfl
theorem Yb {p:Int} {ms:List Mb}:(qtL p ms).length=ms.length:=by unfold qtL;rw [List.length_map]
section
variable {kn:Kn} {lo:Nat} {H:Hp}
set_option maxRecDepth 100000 in
set_option maxHeartbeats 1000000 in
theorem Za8 (s:Snd Try.prog kn) {cs:List Cp} {sa:Option Addr} {n cap:Nat} (hs:Sl H sa n cap (cpc cs)) (hl:cs.length=n) (hn:n≤400) (hlo:lo≤H.next) (hmn:qS n=false) {g:Gl} {dm:Int} :
  FnM Try.prog lo 13 [.slice sa n cap,.agg (Gl.f g).toArray,iv dm] H fun v H'=>∃ u e,v=.tuple #[iv u,iv e]∧PcS cs g dm u e∧Keep H H' []:=by
 refine WZ s Try.func13 B13 N13 Z13 L13 (by simp) ?_
 have hk:=Keep.refl H []
 have fs:=hs.old
 refine Zk<|UJ (v:=.agg (Gl.f g).toArray) rfl ?_
 intro H1 kH1 nH1 c1
 have c1:Cl H1 H.next [iv g.y,iv g.k,iv g.b,iv g.p]:=c1
 have mH1:=kH1.1
 have hk:=hk.trans kH1
 have hs:=kH1.sl0 hs
 refine Zd rfl<|Zd rfl<|Zh<|Zk<|Zd rfl<|XX s rfl (Zb4 hs hl (by omega) (by omega)) ?_
 intro tH2 H2 hH2 kH2
 have mH2:=kH2.1
 have hk:=hk.trans kH2
 have hs:=kH2.sl0 hs
 have c1:=kH2.cl c1 (by simp)
 cases tH2
 ·have qvC:=hH2
  refine Zo (v:=.bool true) rfl rfl<|Zd rfl<|XU rfl<|XU rfl<|XU rfl<|Zo (v:=.bool true) rfl rfl<|Zh<|YN<|Zk<|Zd rfl<|Zd rfl<|Zh ?_
  have hvA:vA cs g=false:=by first | (rw [Um qvC qvG];rfl) | (unfold vA;rw [qvC];rfl)
  exact And.intro trivial (Exists.intro _ (And.intro rfl ⟨0,1,rfl,by unfold PcS;rw [if_neg (by rw [hvA];simp)];exact ⟨rfl,rfl⟩,hk⟩))
 ·have qvC:=hH2
  refine Zo (v:=.bool false) rfl rfl<|Zd rfl ?_
  refine YH rfl (Y1 (b:=H.next) (o:=0) rfl c1.rd (show row 4 _ _=some [iv g.y,iv g.k,iv g.b,iv g.p] from rfl) ?_)
  refine YH rfl (XX s rfl (ZbP (g:=g) (by omega)) ?_)
  intro tH3 H3 hH3 kH3
  have mH3:=kH3.1
  have hk:=hk.trans kH3
  have hs:=kH3.sl0 hs
  have c1:=kH3.cl c1 (by simp)
  cases tH3
  ·have qvG:=hH3
   refine YH rfl (Zo (v:=.bool true) rfl rfl ?_)
   refine Zo (v:=.bool true) rfl rfl<|Zh<|YN<|Zk<|Zd rfl<|Zd rfl<|Zh ?_
   have hvA:vA cs g=false:=by first | (rw [Um qvC qvG];rfl) | (unfold vA;rw [qvC];rfl)
   exact And.intro trivial (Exists.intro _ (And.intro rfl ⟨0,1,rfl,by unfold PcS;rw [if_neg (by rw [hvA];simp)];exact ⟨rfl,rfl⟩,hk⟩))
  ·have qvG:=hH3
   refine YH rfl (Zo (v:=.bool false) rfl rfl ?_)
   refine Zo (v:=.bool false) rfl rfl<|Zh<|ZQ ?_
   first | refine ZV ?_ | skip
   refine Zk<|Zd rfl ?_
   have hvA:vA cs g=true:=Um qvC qvG
   have hb:=(zt hvA).1;have hg:=(zt hvA).2;have hsm:=Q5 hmn (by have:=(Zdv qvC).1;omega)
   have hgt:=zf hg;have hmlen:=U3 (g:=g) hb;have hmok:=zB hb hg
   refine XX s rfl (XJ (n:=dm) (m:=1099511627776)) ?_
   intro tH4 H4 hH4 kH4
   have mH4:=kH4.1
   have hk:=hk.trans kH4
   have hs:=kH4.sl0 hs
   have c1:=kH4.cl c1 (by simp)
   cases tH4
   ·have hdm:=hH4;have hdmu:=Xl hH4
    refine Zo (v:=.bool true) rfl rfl<|Zh<|YN<|Zk<|Zd rfl<|Zd rfl<|Zh ?_
    exact And.intro trivial (Exists.intro _ (And.intro rfl ⟨0,2,rfl,by unfold PcS;rw [if_pos hvA,if_neg (by rw [hdm];simp)];exact ⟨rfl,rfl⟩,hk⟩))
   ·have hdm:=hH4;have hdmu:=YB hH4
    refine Zo (v:=.bool false) rfl rfl<|Zh<|ZQ ?_
    first | refine ZV ?_ | skip
    refine Zk<|Zd rfl<|Y1 (b:=H.next) (o:=0) rfl c1.rd (show row 4 _ _=some [iv g.y,iv g.k,iv g.b,iv g.p] from rfl)<|YR (t:=.fn (.func 26) #[]) rfl (Ye s.hN (WX (H:=H4) s hs hl hsm hb hg (by omega))) ?_
    rintro _ H5 ⟨kH5,ma,mcap,rfl,hms⟩
    have mH5:=kH5.1
    have hk:=hk.trans kH5
    have hs:=kH5.sl0 hs
    have c1:=kH5.cl c1 (by simp)
    have fm:=hms.old
    refine Zd rfl ?_
    obtain ⟨m,H6,fH6,hL,kH6⟩:=Zac (kn:=kn) (lo:=lo) (H:=H5) hms rfl (by omega) (by omega) hmok (dm:=dm)
    refine Z6 s (vs:=[.slice ma (mbL g cs).length mcap,iv dm]) rfl (Zi fH6) ?_
    have mH6:=kH6.1
    have hk:=hk.trans kH6
    have hs:=kH6.sl0 hs
    have c1:=kH6.cl c1 (by simp)
    have hms:=kH6.sl0 hms
    refine Zd rfl<|Zd rfl<|Zh ?_
    exact And.intro trivial (Exists.intro _ (And.intro rfl ⟨(m:Int),0,rfl,by unfold PcS;rw [if_pos hvA,if_pos hdm];exact ⟨rfl,m,rfl,Mx.of hmok hdmu.1 hL⟩,hk⟩))
end
end
end Go.Ax

/-
 Pool: Shares (15) (written by program).
-/
namespace Go.Ax
open Go Go.RowKit Go.Proofs

noncomputable section
def Zht (ms:List Mb) (tot:Int) (x:Nat):Int:=-(tot * (ms.getD x Mb.z).b % YL ms)
def shX (ms:List Mb) (tot:Int) (ps:List Nat):List Qt:=(List.range ms.length).map fun i=>⟨(ms.getD i Mb.z).g,(ms.getD i Mb.z).b,tot * (ms.getD i Mb.z).b / YL ms+(if i∈ps then 1 else 0)⟩
theorem qm {ms:List Mb} {tot:Int} {ps:List Nat}:(shX ms tot ps).length=ms.length:=by simp [shX]
structure Pso (key:Nat→Int) (n:Nat) (ps:List Nat):Prop where
 nd:ps.Nodup
 lt:∀ p∈ps,p < n
 bf:∀ p∈ps,∀ q,q < n→q ∉ ps→Lk key p q
theorem Zd2 {n:Nat} {s:Nat→Nat} (p:PRm 0 n (fun i=>i) s) {q:Nat} (h:q < n):∃ i,i < n∧s i=q:=by
 have hid:rg (fun i:Nat=>i) 0 n=List.range n:=by unfold rg;rw [List.range_eq_range'];simp
 have hp:=p.perm
 rw [hid] at hp
 have:=hp.mem_iff.2 (List.mem_range.2 h)
 unfold rg at this
 obtain ⟨i,hi,e⟩:=List.mem_map.1 this
 refine ⟨i,?_,e⟩
 have:=List.mem_range'.1 hi
 omega
theorem Pso.of {key:Nat→Int} {n K:Nat} {s:Nat→Nat} (p:PRm 0 n (fun i=>i) s) (h:So key 0 n s) (hK:K≤n):Pso key n ((List.range K).map s):=by
 refine ⟨zM List.nodup_range fun a ha b hb e=>Zb5 p (by have:=List.mem_range.1 ha;omega) (by have:=List.mem_range.1 hb;omega) e,fun x hx=>?_,fun x hx q hq hn=>?_⟩
 ·obtain ⟨i,hi,rfl⟩:=List.mem_map.1 hx
  exact qP p (by have:=List.mem_range.1 hi;omega)
 ·obtain ⟨i,hi,rfl⟩:=List.mem_map.1 hx
  obtain ⟨j,hj,rfl⟩:=Zd2 p hq
  have hjK:¬ j < K:=fun q=>hn (List.mem_map.2 ⟨j,List.mem_range.2 q,rfl⟩)
  have:=List.mem_range.1 hi
  exact h i j (Nat.zero_le _) (by omega) hj
theorem Pso.sub {key:Nat→Int} {n:Nat} {ps qs:List Nat} (h:Pso key n ps) (k:Pso key n qs) (e:ps.length=qs.length) {i:Nat} (hi:i∈ps):i∈qs:=by
 refine Classical.byContradiction fun hn=>?_
 have:∃ j,j∈qs∧j ∉ ps:=Classical.byContradiction fun q=>by
  have hs:∀ x∈i :: qs,x∈ps:=fun x hx=>by
   rcases List.mem_cons.1 hx with rfl | hx
   ·exact hi
   ·exact Classical.byContradiction fun z=>q ⟨x,hx,z⟩
  have:=XN (List.nodup_cons.2 ⟨hn,k.nd⟩) hs
  simp only [List.length_cons] at this
  omega
 obtain ⟨j,hj,hj2⟩:=this
 have a:=h.bf i hi j (k.lt j hj) hj2
 have b:=k.bf j hj i (h.lt i hi) hn
 unfold Lk at a b
 omega
theorem Pso.shX {ms:List Mb} {tot:Int} {key:Nat→Int} {n:Nat} {ps qs:List Nat} (h:Pso key n ps) (k:Pso key n qs) (e:ps.length=qs.length):shX ms tot ps=shX ms tot qs:=by
 unfold Go.Ax.shX
 refine List.map_congr_left fun i _=>?_
 have:i∈ps↔i∈qs:=⟨h.sub k e,k.sub h e.symm⟩
 simp only [this]
def ShS (cs:List Cp) (g:Gl) (tot:Int) (l:List Qt) (e:Int):Prop:=
 if vA cs g=true then (if inB tot 0 1048576=true then (if YL (mbL g cs)=0 then l=[]∧e=4 else e=0∧∃ ps,Pso (Zht (mbL g cs) tot) (mbL g cs).length ps∧ps.length=(Ql (mbL g cs) tot).toNat∧l=shX (mbL g cs) tot ps) else l=[]∧e=2) else l=[]∧e=1
theorem ShS.uniq {cs:List Cp} {g:Gl} {tot e e':Int} {l l':List Qt} (h:ShS cs g tot l e) (h':ShS cs g tot l' e'):l=l'∧e=e':=by
 unfold ShS at h h'
 split at h<;>rename_i q
 ·rw [if_pos q] at h'
  split at h<;>rename_i q2
  ·rw [if_pos q2] at h'
   split at h<;>rename_i q3
   ·rw [if_pos q3] at h';exact ⟨h.1.trans h'.1.symm,h.2.trans h'.2.symm⟩
   ·rw [if_neg q3] at h'
    obtain ⟨e0,ps,h1,h2,el⟩:=h
    obtain ⟨e0',qs,h1',h2',el'⟩:=h'
    exact ⟨el.trans ((h1.shX h1' (h2.trans h2'.symm)).trans el'.symm),e0.trans e0'.symm⟩
  ·rw [if_neg q2] at h';exact ⟨h.1.trans h'.1.symm,h.2.trans h'.2.symm⟩
 ·rw [if_neg q] at h';exact ⟨h.1.trans h'.1.symm,h.2.trans h'.2.symm⟩
theorem Zfn {ms:List Mb} (h:∀ m∈ms,okM m) (hl:ms.length≤400):0≤YL ms∧YL ms≤439804651110400:=by
 have:=Ub (k:=(ms.map (·.b)).length) (ZbR h)
 rw [yS] at this
 have e:min (ms.map (·.b)).length (ms.map (·.b)).length≤400:=by simp only [List.length_map];omega
 have:=Zbc (B:=1099511627776) (by decide) e
 unfold YL
 omega
theorem Zc4 {ms:List Mb} (h:YL ms≠0):0 < ms.length:=by
 rcases Nat.eq_zero_or_pos ms.length with e | e
 ·have:ms=[]:=List.eq_nil_of_length_eq_zero e
  subst this;exact (h (show YJ (fun x=>x) ([]:List Int)=0 from rfl)).elim
 ·exact e
section
variable {kn:Kn} {lo:Nat} {H:Hp}
set_option maxRecDepth 100000 in
set_option maxHeartbeats 1000000 in
theorem Zcl (s:Snd Try.prog kn) {cs:List Cp} {sa:Option Addr} {n cap:Nat} (hs:Sl H sa n cap (cpc cs)) (hl:cs.length=n) (hn:n≤400) (hlo:lo≤H.next) (hmn:qS n=false) {g:Gl} {tot:Int} :
  FnM Try.prog lo 15 [.slice sa n cap,.agg (Gl.f g).toArray,iv tot] H fun v H'=>∃ u l e,v=.tuple #[u,iv e]∧ShS cs g tot l e∧(∃ a cp,u=.slice a l.length cp∧Sl H' a l.length cp (qtc l))∧Keep H H' []:=by
 refine WZ s Try.func15 B15 N15 Z15 L15 (by simp) ?_
 have hk:=Keep.refl H []
 have fs:=hs.old
 refine Zk<|UJ (v:=.agg (Gl.f g).toArray) rfl ?_
 intro H1 kH1 nH1 c1
 have c1:Cl H1 H.next [iv g.y,iv g.k,iv g.b,iv g.p]:=c1
 have mH1:=kH1.1
 have hk:=hk.trans kH1
 have hs:=kH1.sl0 hs
 refine Zd rfl<|Zd rfl<|Zh<|Zk<|Zd rfl<|XX s rfl (Zb4 hs hl (by omega) (by omega)) ?_
 intro tH2 H2 hH2 kH2
 have mH2:=kH2.1
 have hk:=hk.trans kH2
 have hs:=kH2.sl0 hs
 have c1:=kH2.cl c1 (by simp)
 cases tH2
 ·have qvC:=hH2
  refine Zo (v:=.bool true) rfl rfl<|Zd rfl<|XU rfl<|XU rfl<|XU rfl<|Zo (v:=.bool true) rfl rfl<|Zh<|YN<|Zk<|Zd rfl<|Zd rfl<|Zh ?_
  have hvA:vA cs g=false:=by first | (rw [Um qvC qvG];rfl) | (unfold vA;rw [qvC];rfl)
  exact And.intro trivial (Exists.intro _ (And.intro rfl ⟨.slice none 0 0,[],1,rfl,by unfold ShS;rw [if_neg (by rw [hvA];simp)];exact ⟨rfl,rfl⟩,⟨none,0,rfl,.inl ⟨.inl rfl,rfl,rfl,rfl⟩⟩,hk⟩))
 ·have qvC:=hH2
  refine Zo (v:=.bool false) rfl rfl<|Zd rfl ?_
  refine YH rfl (Y1 (b:=H.next) (o:=0) rfl c1.rd (show row 4 _ _=some [iv g.y,iv g.k,iv g.b,iv g.p] from rfl) ?_)
  refine YH rfl (XX s rfl (ZbP (g:=g) (by omega)) ?_)
  intro tH3 H3 hH3 kH3
  have mH3:=kH3.1
  have hk:=hk.trans kH3
  have hs:=kH3.sl0 hs
  have c1:=kH3.cl c1 (by simp)
  cases tH3
  ·have qvG:=hH3
   refine YH rfl (Zo (v:=.bool true) rfl rfl ?_)
   refine Zo (v:=.bool true) rfl rfl<|Zh<|YN<|Zk<|Zd rfl<|Zd rfl<|Zh ?_
   have hvA:vA cs g=false:=by first | (rw [Um qvC qvG];rfl) | (unfold vA;rw [qvC];rfl)
   exact And.intro trivial (Exists.intro _ (And.intro rfl ⟨.slice none 0 0,[],1,rfl,by unfold ShS;rw [if_neg (by rw [hvA];simp)];exact ⟨rfl,rfl⟩,⟨none,0,rfl,.inl ⟨.inl rfl,rfl,rfl,rfl⟩⟩,hk⟩))
  ·have qvG:=hH3
   refine YH rfl (Zo (v:=.bool false) rfl rfl ?_)
   refine Zo (v:=.bool false) rfl rfl<|Zh<|ZQ ?_
   first | refine ZV ?_ | skip
   refine Zk<|Zd rfl ?_
   have hvA:vA cs g=true:=Um qvC qvG
   have hb:=(zt hvA).1;have hg:=(zt hvA).2;have hsm:=Q5 hmn (by have:=(Zdv qvC).1;omega)
   have hgt:=zf hg;have hmlen:=U3 (g:=g) hb;have hmok:=zB hb hg
   refine XX s rfl (XJ (n:=tot) (m:=1048576)) ?_
   intro tH4 H4 hH4 kH4
   have mH4:=kH4.1
   have hk:=hk.trans kH4
   have hs:=kH4.sl0 hs
   have c1:=kH4.cl c1 (by simp)
   cases tH4
   ·have hdm:=hH4;have hdmu:=Xl hH4
    refine Zo (v:=.bool true) rfl rfl<|Zh<|YN<|Zk<|Zd rfl<|Zd rfl<|Zh ?_
    exact And.intro trivial (Exists.intro _ (And.intro rfl ⟨.slice none 0 0,[],2,rfl,by unfold ShS;rw [if_pos hvA,if_neg (by rw [hdm];simp)];exact ⟨rfl,rfl⟩,⟨none,0,rfl,.inl ⟨.inl rfl,rfl,rfl,rfl⟩⟩,hk⟩))
   ·have hdm:=hH4;have hdmu:=YB hH4
    refine Zo (v:=.bool false) rfl rfl<|Zh<|ZQ ?_
    first | refine ZV ?_ | skip
    refine Zk<|Zd rfl<|Y1 (b:=H.next) (o:=0) rfl c1.rd (show row 4 _ _=some [iv g.y,iv g.k,iv g.b,iv g.p] from rfl)<|YR (t:=.fn (.func 26) #[]) rfl (Ye s.hN (WX (H:=H4) s hs hl hsm hb hg (by omega))) ?_
    rintro _ H5 ⟨kH5,ma,mcap,rfl,hms⟩
    have mH5:=kH5.1
    have hk:=hk.trans kH5
    have hs:=kH5.sl0 hs
    have c1:=kH5.cl c1 (by simp)
    have fm:=hms.old
    refine Zd rfl<|Zh<|Zk<|Zd rfl ?_
    obtain ⟨H6,fH6,kH6⟩:=JC (kn:=kn) (lo:=lo) (H:=H5) hms rfl (by omega) (by omega) hmok
    refine Z6 s (vs:=[.slice ma (mbL g cs).length mcap]) rfl (Zi fH6) ?_
    have mH6:=kH6.1
    have hk:=hk.trans kH6
    have hs:=kH6.sl0 hs
    have c1:=kH6.cl c1 (by simp)
    have hms:=kH6.sl0 hms
    have hab:=Zfn hmok (by omega)
    refine jM (a:=(YL (mbL g cs))) (b:=0) rfl rfl<|Zh ?_
    refine And.intro (fun q1=>?_) (fun q1=>?_)
    ·have q1:(YL (mbL g cs))=0:=by simpa using q1
     refine Zk<|Zd rfl<|Zd rfl<|Zh ?_
     have hze:YL (mbL g cs)=0:=by omega
     exact And.intro trivial (Exists.intro _ (And.intro rfl ⟨.slice none 0 0,[],4,rfl,by unfold ShS;rw [if_pos hvA,if_pos hdm,if_pos hze];exact ⟨rfl,rfl⟩,⟨none,0,rfl,.inl ⟨.inl rfl,rfl,rfl,rfl⟩⟩,hk⟩))
    ·have q1:¬ ((YL (mbL g cs))=0):=by simpa using q1
     first | refine ZV ?_ | skip
     refine Zk<|Zd rfl<|Zd rfl ?_
     have hne:YL (mbL g cs)≠0:=by omega
     have hpos:=Zc4 hne
     have hlen:=hmlen
     obtain ⟨σ,qb,H7,fH7,hpr,hso,hqb,hq,kH7⟩:=jE (kn:=kn) (lo:=lo) (H:=H6) hms rfl (by omega) (by omega) hmok (by omega) hpos hdmu.1 hdmu.2 (by omega) hab.2
     refine Z6 s (vs:=[.slice ma (mbL g cs).length mcap,iv tot]) rfl (Zi fH7) ?_
     have mH7:=kH7.1
     have hk:=hk.trans kH7
     have hs:=kH7.sl0 hs
     have c1:=kH7.cl c1 (by simp)
     have hms:=kH7.sl0 hms
     refine Zd rfl<|Zd rfl<|Zh ?_
     have hmk:=jt (tot:=tot) (show 0 < YL (mbL g cs) by omega)
     have hps:=Pso.of (K:=(Ql (mbL g cs) tot).toNat) hpr hso (by omega)
     exact And.intro trivial (Exists.intro _ (And.intro rfl ⟨_,_,0,rfl,by unfold ShS;rw [if_pos hvA,if_pos hdm,if_neg hne];exact ⟨rfl,_,hps,by rw [List.length_map,List.length_range],rfl⟩,⟨some ⟨qb,0,none⟩,(mbL g cs).length,by rw [qm],by rw [qm];exact .inr ⟨qb,rfl,hq.rd,Nat.le_refl _⟩⟩,hk⟩))
end
end
end Go.Ax

/-
 Pool: the document: Shares (16) (written by program).
-/
namespace Go.Ax
open Go Go.RowKit Go.Proofs

noncomputable section
def Pk (key:Nat→Int) (ps:List Nat) (i:Nat) (x:Int):Prop:=(x = -1∧∀ j,j < i→j∈ps)∨∃ m:Nat,x=m∧m < i∧m ∉ ps∧∀ j,j < i→j ∉ ps→j≠m→Lk key m j
theorem Pk.skip {key:Nat→Int} {ps:List Nat} {i:Nat} {x:Int} (h:Pk key ps i x) (hc:i∈ps∨∃ m:Nat,x=m∧key m≤key i):Pk key ps (i+1) x:=by
 rcases h with ⟨h1,h2⟩ | ⟨m,h1,h2,h3,h4⟩
 ·refine .inl ⟨h1,fun j hj=>?_⟩
  rcases Nat.lt_or_ge j i with q | q
  ·exact h2 j q
  ·have:j=i:=by omega
   subst this
   rcases hc with c | ⟨m,c,_⟩
   ·exact c
   ·omega
 ·refine .inr ⟨m,h1,by omega,h3,fun j hj hn hm=>?_⟩
  rcases Nat.lt_or_ge j i with q | q
  ·exact h4 j q hn hm
  ·have:j=i:=by omega
   subst this
   rcases hc with c | ⟨m',c,d⟩
   ·exact absurd c hn
   ·have:m'=m:=by omega
    subst this
    unfold Lk;omega
theorem Pk.take {key:Nat→Int} {ps:List Nat} {i:Nat} {x:Int} (h:Pk key ps i x) (hi:i ∉ ps) (hc:x < 0∨∃ m:Nat,x=m∧key i < key m):Pk key ps (i+1) i:=by
 refine .inr ⟨i,rfl,by omega,hi,fun j hj hn hji=>?_⟩
 rcases h with ⟨h1,h2⟩ | ⟨m,h1,h2,h3,h4⟩
 ·exact absurd (h2 j (by omega)) hn
 ·rcases hc with c | ⟨m',c,d⟩
  ·omega
  ·have:m'=m:=by omega
   subst this
   by_cases q:j=m'
   ·subst q;exact .inl d
   ·have:=h4 j (by omega) hn q
    unfold Lk at this ⊢;omega
theorem Pk.init {key:Nat→Int} {ps:List Nat}:Pk key ps 0 (-1):=.inl ⟨rfl,fun j h=>absurd h (by omega)⟩
theorem Pk.found {key:Nat→Int} {ps:List Nat} {n:Nat} {x:Int} (h:Pk key ps n x) (hl:ps.length < n) (p:Pso key n ps):∃ m:Nat,x=m∧m < n∧m ∉ ps∧Pso key n (ps ++ [m]):=by
 rcases h with ⟨h1,h2⟩ | ⟨m,h1,h2,h3,h4⟩
 ·exfalso
  have:=XN (D:=List.range n) (L:=ps) List.nodup_range fun x hx=>h2 x (List.mem_range.1 hx)
  rw [List.length_range] at this
  omega
 ·refine ⟨m,h1,h2,h3,List.nodup_append.2 ⟨p.nd,by simp,fun a ha b hb e=>h3 (by simp at hb;rw [← hb,← e];exact ha)⟩,fun q hq=>?_,fun q hq r hr hn=>?_⟩
  ·rcases List.mem_append.1 hq with hq | hq
   ·exact p.lt q hq
   ·simp at hq;omega
  ·have hn1:r ∉ ps:=fun z=>hn (List.mem_append.2 (.inl z))
   have hn2:r≠m:=fun z=>hn (by rw [z];simp)
   rcases List.mem_append.1 hq with hq | hq
   ·exact p.bf q hq r hr hn1
   ·simp at hq;subst hq;exact h4 r hr hn1 hn2
theorem Pso.nil {key:Nat→Int} {n:Nat}:Pso key n []:=⟨List.nodup_nil,(fun p h=>by cases h),(fun p h=>by cases h)⟩
section
variable {kn:Kn} {lo:Nat} {H:Hp}
end
end
end Go.Ax

/-
 Pool: sorting: insertion sort,and in part (written by program).
-/
namespace Go.Ax
open Go Go.RowKit Go.Proofs

noncomputable section
structure zZ (a i j:Nat) (g:Nat→Int):Prop where
 so:∀ p q,a≤p→p≤q→q≤i→p≠j→q≠j→g p≤g q
 lt:∀ q,j < q→q≤i→g j≤g q
 aj:a≤j
 ji:j≤i
theorem zZ.init {a i:Nat} {g:Nat→Int} (h:Sor (fun x:Int=>x) a i g) (ha:a≤i):zZ a i i g:=⟨fun p q h1 h2 h3 h4 h5=>h p q h1 h2 (by omega),fun q h1 h2=>by omega,ha,Nat.le_refl _⟩
theorem zZ.step {a i j:Nat} {g:Nat→Int} (h:zZ a i j g) (hj:a < j) (hl:g j < g (j - 1)):zZ a i (j - 1) (swp g j (j - 1)):=by
 have h0:=h.aj
 have h1:=h.ji
 have hlt:=h.lt
 have hso:=h.so
 refine ⟨fun p q a1 a2 a3 a4 a5=>?_,fun q a1 a2=>?_,by omega,by omega⟩
 ·by_cases e1:p=j
  ·subst e1
   rw [Un]
   by_cases e2:q=p
   ·subst e2;rw [Un];exact Int.le_refl _
   ·rw [Wk (by omega) (by omega)];exact hso (p - 1) q (by omega) (by omega) a3 (by omega) (by omega)
  ·by_cases e2:q=j
   ·subst e2
    rw [Un,Wk (by omega) (by omega)];exact hso p (q - 1) a1 (by omega) (by omega) (by omega) (by omega)
   ·rw [Wk (by omega) (by omega),Wk (by omega) (by omega)];exact hso p q a1 a2 a3 e1 e2
 ·rw [jp]
  by_cases e2:q=j
  ·subst e2;rw [Un];omega
  ·rw [Wk (by omega) (by omega)];exact hlt q (by omega) a2
theorem zZ.done {a i j:Nat} {g:Nat→Int} (h:zZ a i j g) (hd:a < j→¬ g j < g (j - 1)):Sor (fun x:Int=>x) a (i+1) g:=by
 have h0:=h.aj
 have h1:=h.ji
 have hlt:=h.lt
 have hso:=h.so
 intro p q a1 a2 a3
 show g p≤g q
 by_cases e1:p=j
 ·subst e1
  by_cases e2:q=p
  ·subst e2;exact Int.le_refl _
  ·exact hlt q (by omega) (by omega)
 ·by_cases e2:q=j
  ·subst e2
   have c1:=hd (by omega)
   have c2:g p≤g (q - 1):=hso p (q - 1) a1 (by omega) (by omega) e1 (by omega)
   omega
  ·exact hso p q a1 a2 (by omega) e1 e2
theorem Sor.one {a:Nat} {g:Nat→Int}:Sor (fun x:Int=>x) a (a+1) g:=fun p q h1 h2 h3=>by rw [show p=q by omega];exact Int.le_refl _
theorem Sor.next {a i:Nat} {g:Nat→Int} (h:Sor (fun x:Int=>x) a i g) (hi:a < i) (hl:¬ g i < g (i - 1)):Sor (fun x:Int=>x) a (i+1) g:=(zZ.init h (by omega)).done fun _=>hl
theorem Sor.swap {a i j k:Nat} {g:Nat→Int} (h:Sor (fun x:Int=>x) a i g) (hj:i≤j) (hk:i≤k):Sor (fun x:Int=>x) a i (swp g j k):=fun p q h1 h2 h3=>by
 show swp g j k p≤swp g j k q
 rw [Wk (by omega) (by omega),Wk (by omega) (by omega)];exact h p q h1 h2 h3
section
variable {kn:Kn} {lo:Nat} {H:Hp}
theorem ZfC (hlo:lo≤H.next) {bd cap n:Nat} {g:Nat→Int} (hlb:lo≤bd) (hn:n≤1000000) (hc:Cl H bd (cF n g)) {a b:Nat} (hab:a≤b) (hb:b≤n):∃ H' g',FnX Try.prog kn lo 85 [.slice (some ⟨bd,0,none⟩) n cap,iv (a:Int),iv (b:Int)] H (.tuple #[]) H'∧PRm a b g g'∧Sor (fun x:Int=>x) a b g'∧Keep H H' [bd]∧Cl H' bd (cF n g'):=by
 have key:=Zs (kn:=kn) (lo:=lo) (H:=H) (args:=[.slice (some ⟨bd,0,none⟩) n cap,iv (a:Int),iv (b:Int)]) (Q:=fun w H'=>w=.tuple #[]∧∃ g':Nat→Int,PRm a b g g'∧Sor (fun x:Int=>x) a b g'∧Keep H H' [bd]∧Cl H' bd (cF n g')) Try.func85 B85 N85 Z85 L85 (by simp) ?_
 ·obtain ⟨w,H',h,rfl,g',r⟩:=key;exact ⟨H',g',h,r⟩
 have hk:=Keep.refl H [bd]
 refine Zc<|Za rfl<|ZB (a:=(a:Int)) (b:=1) rfl rfl ⟨by omega,by omega⟩<|Za rfl<|Zb ?_
 refine ZA (fn:=Try.f85) ZfV N85 ZfT (fun i:Nat=>[(0,.slice (some ⟨bd,0,none⟩) n cap),(1,iv (a:Int)),(2,iv (b:Int)),(6,iv (i:Int))])
  (fun k i H'=>k=b+1 - i∧a+1≤i∧(i≤b∨i=a+1)∧∃ g':Nat→Int,PRm a b g g'∧Sor (fun x:Int=>x) a i g'∧Keep H H' [bd]∧Cl H' bd (cF n g')) _ (a+1) ⟨rfl,Nat.le_refl _,.inr rfl,g,PRm.refl _ _ _,Sor.one,hk,hc⟩ ⟨rfl,rfl,rfl,ivq (by omega),trivial⟩ ?_
 rintro k i L1 ⟨rfl,hi1,hi2,gx1,hp,hs,hk,hc⟩
 refine Zc<|Za rfl<|Za rfl<|ZM (a:=(i:Int)) (b:=(b:Int)) rfl rfl<|Zb ?_
 refine And.intro (fun q1=>?_) (fun q1=>?_)
 ·have q1:(i:Int) < (b:Int):=of_decide_eq_true q1
  first | refine Zl ?_ | skip
  refine Zc<|Za rfl<|Za rfl<|Zb ?_
  have hib:i < b:=by omega
  refine ZA (fn:=Try.f85) Zin N85 ZhU (fun j:Nat=>[(0,.slice (some ⟨bd,0,none⟩) n cap),(1,iv (a:Int)),(2,iv (b:Int)),(6,iv (i:Int)),(7,iv (j:Int))])
   (fun k j H'=>k=j+1∧∃ g':Nat→Int,PRm a b g g'∧zZ a i j g'∧Keep H H' [bd]∧Cl H' bd (cF n g')) _ i ⟨rfl,gx1,hp,zZ.init hs (by omega),hk,hc⟩ ⟨rfl,rfl,rfl,rfl,rfl,trivial⟩ ?_
  rintro k j L2 ⟨rfl,gx2,hp,hin,hk,hc⟩
  have qaj:=hin.aj;have qji:=hin.ji
  refine Y0<|Ze rfl<|Ze rfl<|VF (a:=(j:Int)) (b:=(a:Int)) rfl rfl ?_
  intro t2 g2;cases t2
  ·have g2:¬ ((j:Int) > (a:Int)):=of_decide_eq_false g2
   refine Ze rfl<|Zz rfl<|Zz rfl<|Zz rfl<|Zz rfl<|Zz rfl<|Zz rfl<|Zz rfl<|Zz rfl<|Zz rfl<|Zz rfl<|ZR (v:=.bool false) rfl rfl ?_
   refine ZJ (by repeat' first | exact True.intro | exact (fun h=>h) | refine And.intro ?_ ?_ | (intro h;have h:(_:Nat)=_:=h;omega)) ?_
   refine ZQ ?_
   first | (refine ZE ?_;show wC _ _ _ _ _ _ _ _ _) | skip
   show Zq _ _ _ _ _ _ _ _
   refine Za rfl<|ZB (a:=(i:Int)) (b:=1) rfl rfl ⟨by omega,by omega⟩<|Za rfl<|Zb ?_
   exact ⟨_,i+1,by omega,⟨rfl,by omega,by omega,gx2,hp,hin.done (fun h=>by omega),hk,hc⟩,rfl,rfl,rfl,ivq (by omega),trivial⟩
  ·have g2:(j:Int) > (a:Int):=of_decide_eq_true g2
   refine Ze rfl ?_
   refine Zr rfl (Ze rfl ?_)
   refine Zr rfl (Ze rfl ?_)
   refine Zr rfl (Zw (b:=bd) (o:=0) (k:=j) (j:=(j:Int)) rfl rfl (by omega) (by omega) ?_)
   refine Zr rfl (ZD (b:=bd) (o:=0+j * 1) (v:=iv (gx2 j)) rfl hc.rd (ZbS (by omega)) ?_)
   refine Zr rfl (Ze rfl ?_)
   refine Zr rfl (Ze rfl ?_)
   refine Zr rfl (Xd (a:=(j:Int)) (b:=1) rfl rfl ⟨by omega,by omega⟩ ?_)
   refine Zr rfl (Zw (b:=bd) (o:=0) (k:=j - 1) (j:=(j:Int) - 1) rfl rfl (by omega) (by omega) ?_)
   refine Zr rfl (ZD (b:=bd) (o:=0+(j - 1) * 1) (v:=iv (gx2 (j - 1))) rfl hc.rd (ZbS (by omega)) ?_)
   obtain ⟨H1,fH1,kH1⟩:=Ze6 (kn:=kn) (lo:=lo) (H:=L2) (gx2 j) (gx2 (j - 1))
   refine Zr rfl (Yy (vs:=[iv (gx2 j),iv (gx2 (j - 1))]) rfl (Zi fH1) ?_)
   have mH1:=kH1.1
   have hc:=kH1.cl hc (by simp)
   have hk:=hk.trans (kH1.mono (by simp))
   refine ZR (v:=.bool (decide (gx2 j < gx2 (j - 1)))) rfl rfl ?_
   refine ZJ (by repeat' first | exact True.intro | exact (fun h=>h) | refine And.intro ?_ ?_ | (intro h;have h:(_:Nat)=_:=h;omega)) ?_
   refine And.intro (fun q3=>?_) (fun q3=>?_)
   ·have q3:gx2 j < gx2 (j - 1):=of_decide_eq_true q3
    first | refine Zl ?_ | skip
    first | refine Yc ?_ | refine WB ?_ | refine VC ?_ | (refine YV ?_;refine Yc ?_)
    refine Ze rfl<|Ze rfl<|Ze rfl<|Ze rfl<|Xd (a:=(j:Int)) (b:=1) rfl rfl ⟨by omega,by omega⟩<|Ze rfl<|Ze rfl<|Xd (a:=(j:Int)) (b:=1) rfl rfl ⟨by omega,by omega⟩<|Zw (b:=bd) (o:=0) (k:=j - 1) (j:=(j:Int) - 1) rfl rfl (by omega) (by omega)<|ZD (b:=bd) (o:=0+(j - 1) * 1) (v:=iv (gx2 (j - 1))) rfl hc.rd (ZbS (by omega))<|Ze rfl<|Ze rfl<|Zw (b:=bd) (o:=0) (k:=j) (j:=(j:Int)) rfl rfl (by omega) (by omega)<|ZD (b:=bd) (o:=0+j * 1) (v:=iv (gx2 j)) rfl hc.rd (ZbS (by omega))<|Zw (b:=bd) (o:=0) (k:=j) (j:=(j:Int)) rfl rfl (by omega) (by omega)<|Zgk (b:=bd) (o:=0+j * 1) rfl rfl hc hlb rfl rfl (by rw [ZdB];omega) ?_
    intro H2 kH2 nH2 sH2
    have mH2:=kH2.1
    have hk:=hk.trans kH2
    rw [ZcU (by omega)] at sH2
    have hc:=sH2
    refine Zw (b:=bd) (o:=0) (k:=j - 1) (j:=(j:Int) - 1) rfl rfl (by omega) (by omega)<|Zgk (b:=bd) (o:=0+(j - 1) * 1) rfl rfl hc hlb rfl rfl (by rw [ZdB];omega) ?_
    intro H3 kH3 nH3 sH3
    have mH3:=kH3.1
    have hk:=hk.trans kH3
    rw [ZcU (by omega)] at sH3
    have hc:=sH3
    have hc:Cl H3 bd (cF n (swp gx2 j (j - 1))):=hc
    refine ZJ (by repeat' first | exact True.intro | exact (fun h=>h) | refine And.intro ?_ ?_ | (intro h;have h:(_:Nat)=_:=h;omega)) ?_
    show Zq _ _ _ _ _ _ _ _
    refine Za rfl<|Z8 (a:=(j:Int)) (b:=1) rfl rfl ⟨by omega,by omega⟩<|Za rfl<|Zb ?_
    exact ⟨_,j - 1,by omega,⟨rfl,_,hp.trans (PRm.swap (by omega) (by omega) (by omega) (by omega)),hin.step (by omega) (by omega),hk,hc⟩,rfl,rfl,rfl,rfl,ivq (by omega),trivial⟩
   ·have q3:¬ (gx2 j < gx2 (j - 1)):=of_decide_eq_false q3
    first | (refine ZE ?_;show wC _ _ _ _ _ _ _ _ _) | skip
    show Zq _ _ _ _ _ _ _ _
    refine Za rfl<|ZB (a:=(i:Int)) (b:=1) rfl rfl ⟨by omega,by omega⟩<|Za rfl<|Zb ?_
    exact ⟨_,i+1,by omega,⟨rfl,by omega,by omega,gx2,hp,hin.done (fun h=>by omega),hk,hc⟩,rfl,rfl,rfl,ivq (by omega),trivial⟩
 ·have q1:¬ ((i:Int) < (b:Int)):=of_decide_eq_false q1
  first | (refine ZE ?_;show wC _ _ _ _ _ _ _ _ _) | skip
  exact And.intro trivial (Exists.intro _ (And.intro rfl ⟨rfl,gx1,hp,fun p q h1 h2 h3=>hs p q h1 h2 (by omega),hk,hc⟩))
end
section
variable {kn:Kn} {lo:Nat} {H:Hp}
end
end
end Go.Ax

/-! Sorting: what pdqsort does to at most twelve. -/
namespace Go.Ax
open Go Go.RowKit Go.Proofs
noncomputable section
section
variable {kn:Kn} {lo:Nat} {H:Hp}
set_option maxRecDepth 100000 in
set_option maxHeartbeats 2000000 in
theorem ZgS {bd cap n:Nat} (hlb:lo≤bd) (hn2:n < 13):∀ (M:Nat) (H:Hp) (A B:Nat) (g:Nat→Int) (l:Nat),lo≤H.next→A≤B→B≤n→B - A < M→l≤64→Cl H bd (cF n g)→Low (fun x:Int=>x) A B g→∃ H' g',FnX Try.prog kn lo 80 [.slice (some ⟨bd,0,none⟩) n cap,iv (A:Int),iv (B:Int),iv (l:Int)] H (.tuple #[]) H'∧PRm A B g g'∧Sor (fun x:Int=>x) A B g'∧Keep H H' [bd]∧Cl H' bd (cF n g'):=by
 intro M H A B g l hlo hAB hBn hM hl hc h0
 have key:=Zs (kn:=kn) (lo:=lo) (H:=H) (args:=[.slice (some ⟨bd,0,none⟩) n cap,iv (A:Int),iv (B:Int),iv (l:Int)]) (Q:=fun w H'=>w=.tuple #[]∧∃ g':Nat→Int,PRm A B g g'∧Sor (fun x:Int=>x) A B g'∧Keep H H' [bd]∧Cl H' bd (cF n g')) Try.func80 B80 N80 Z80 L80 (by simp) ?_
 ·obtain ⟨w,H',h,rfl,g',q⟩:=key;exact ⟨H',g',h,q⟩
 obtain ⟨H1,g1,h1,p1,s1,k1,c1⟩:=ZfC (kn:=kn) (lo:=lo) (H:=H) hlo (cap:=cap) hlb (by omega) hc hAB hBn
 refine Zc (Za rfl (Zb (Zc (Za rfl (Zb (Vn (QX ?_)))))))
 refine ZA Zgm N80 Zgl (fun _:Unit=>[(0,.slice (some ⟨bd,0,none⟩) n cap),(1,iv (A:Int)),(2,iv (B:Int))]) (fun k _ H'=>H'=H) 0 () rfl ⟨rfl,rfl,rfl,True.intro⟩ ?_
 rintro k _ H2 rfl
 refine Vn (Zc (Za rfl (Za rfl (Z8 (a:=(B:Int)) (b:=(A:Int)) rfl rfl ⟨by omega,by omega⟩ (Za rfl (Zb ?_))))))
 refine WA (Zc (Za rfl (Wl (a:=(B:Int) - (A:Int)) (b:=12) rfl rfl (Zb ?_))))
 refine WC (t:=true) (by show some (Value.bool (decide ((B:Int) - (A:Int)≤12)))=_;rw [decide_eq_true (by omega)]) (fun _=>?_) (fun h=>by cases h)
 refine Zc (Za rfl (Za rfl (Za rfl (Zx (vs:=[.slice (some ⟨bd,0,none⟩) n cap,iv (A:Int),iv (B:Int)]) rfl (Zi h1) (Zb ?_)))))
 exact ⟨True.intro,[],rfl,rfl,g1,p1,s1,k1,c1⟩
end
end
end Go.Ax

/-
 Pool: the keys of a map,sorted (72,79,70,71,56,57) (written by program).
-/
namespace Go.Ax
open Go Go.RowKit Go.Proofs

noncomputable section
theorem _root_.Go.Ax.Keep.mqa0 {α:Type} [DecidableEq α] {enc:α→Value} {H H1:Hp} (k:Keep H H1 []) {b:Nat} {L:ML α} {c:Nat} (h:Mqa enc H b L c):Mqa enc H1 b L c:=k.mqa h (by simp)
structure Xf (f:Nat) (W:List Nat) (H H':Hp):Prop where
 le:H.next≤H'.next
 same:∀ b,b < f→b ∉ W→H'.t.get b=H.t.get b
 rox:∀ b cs,b < H'.next→H'.t.get b=some (.ro cs)→b < H.next∧H.t.get b=some (.ro cs)
theorem Xf.trans {f:Nat} {W:List Nat} {H H1 H2:Hp} (h:Xf f W H H1) (k:Xf f W H1 H2):Xf f W H H2:=
 ⟨Nat.le_trans h.1 k.1,fun b hb hw=>(k.2 b hb hw).trans (h.2 b hb hw),fun b cs hb hg=>(k.3 b cs hb hg).elim fun x y=>h.3 b cs x y⟩
theorem Xf.low {f f':Nat} {W:List Nat} {H H1:Hp} (h:Xf f W H H1) (hf:f'≤f):Xf f' W H H1:=⟨h.1,fun b hb hw=>h.2 b (Nat.lt_of_lt_of_le hb hf) hw,h.3⟩
theorem Xf.of {f:Nat} {W l:List Nat} {H H1:Hp} (h:Keep H H1 l) (hf:f≤H.next) (hl:∀ b∈l,b∈W∨f≤b):Xf f W H H1:=
 ⟨h.1,fun b hb hw=>h.2 b (Nat.lt_of_lt_of_le hb hf) fun q=>(hl b q).elim (fun x=>hw x) (fun x=>by omega),h.3⟩
theorem Xf.mqa {α:Type} [DecidableEq α] {enc:α→Value} {f:Nat} {W:List Nat} {H H1:Hp} (k:Xf f W H H1) {b:Nat} {L:ML α} {c:Nat} (h:Mqa enc H b L c) (hb:b < f) (hw:b ∉ W):Mqa enc H1 b L c:=⟨Nat.lt_of_lt_of_le h.1 k.le,by rw [k.same b hb hw];exact h.2⟩
theorem Xf.ita {α:Type} {f:Nat} {W:List Nat} {H H1:Hp} (k:Xf f W H H1) {r m c:Nat} {D:ML α} (h:Ita H r m c D) (hb:r < f) (hw:r ∉ W):Ita H1 r m c D:=⟨Nat.lt_of_lt_of_le h.1 k.le,by rw [k.same r hb hw];exact h.2⟩
section
variable {kn:Kn} {lo:Nat} {H:Hp}
set_option maxRecDepth 100000 in
theorem ZeE (s:Snd Try.prog kn) {W:List Nat} {Y:Nat→ML Int→Hp→Prop} (hlo:lo≤H.next) {bm m c l:Nat} {L:ML Int} (hbm:Rd H bm [.map (some m)]) (hm:Mqa iv H m L c) (hw:WfA L c) (hW:∀ b∈W,b < H.next∧b≠m)
  (h0:∀ H1,Keep H H1 []→H1.next=H.next+1→Y (H.next+1) [] H1)
  (hy:∀ D x H1,H.next+1≤H1.next→D.length < L.length→x∈L→Y (H.next+1) D H1→Wd Try.prog lo (.fn (.yield l) #[]) [iv x.1] H1 fun v H2=>v=.bool true∧Xf (H.next+1) W H1 H2∧Y (H.next+1) (D ++ [x]) H2)
  (hyk:∀ D H1 H2,Y (H.next+1) D H1→Keep H1 H2 [H.next]→H2.next=H1.next→Y (H.next+1) D H2) :
  FnM Try.prog lo 72 [.func (.yield l) #[] #[],.pointer (some ⟨bm,0,none⟩)] H fun v H'=>v=.tuple #[]∧Xf H.next W H H'∧∃ D:ML Int,D.Perm L∧Y (H.next+1) D H':=by
 have hnW:H.next ∉ W:=fun q=>by have:=(hW _ q).1;omega
 have hmW:m ∉ W:=fun q=>(hW _ q).2 rfl
 refine WZ s Try.func72 B72 N72 Z72 L72 (by simp) ?_
 refine Zk (XQ rfl hbm rfl (ZbC rfl hm fun H1 k1 n1 i1=>Zh (zF (K2 ?_))))
 refine XL s ZiH N72 Zjr (fun _:ML Int=>[(0,.func (.yield l) #[] #[]),(5,.pointer (some ⟨H.next,0,none⟩))])
  (fun k D H'=>k=L.length - D.length∧D.Nodup∧(∀ y∈D,y∈L)∧Xf H.next W H H'∧Ita H' H.next m c D∧Mqa iv H' m L c∧Y (H.next+1) D H'∧H.next+1≤H'.next) _ [] ⟨rfl,List.nodup_nil,(fun y h=>by cases h),Xf.of k1 (Nat.le_refl _) (by simp),i1,k1.mqa0 hm,h0 H1 k1 n1,by omega⟩ ⟨rfl,rfl,True.intro⟩ ?_
 rintro k D H2 ⟨rfl,hn,hD,k2,i2,m2,y2,l2⟩
 have hne:m≠H.next:=Nat.ne_of_lt hm.1
 refine Zk (ZbZ rfl i2 m2 hw hD yP.fl hlo (fun hall=>?_) (fun y hyL hny H3 k3 n3 i3=>?_))
 ·refine Zo (v:=.bool false) rfl (by kernel_rfl) (Zh (U1 (Jv (t:=false) rfl (fun h=>by cases h) fun _=>X2 ?_)))
  exact ⟨True.intro,[],rfl,rfl,k2,D,Uj hn hw.nodup fun x=>⟨hD x,hall x⟩,y2⟩
 ·have hsub:∀ x∈D ++ [y],x∈L:=fun x hx=>by
   rcases List.mem_append.1 hx with h | h
   ·exact hD x h
   ·simp at h;rw [h];exact hyL
  have hnd:(D ++ [y]).Nodup:=List.nodup_append.2 ⟨hn,by simp,fun a ha b hb e=>hny (by simp at hb;rw [← hb,← e];exact ha)⟩
  have hlen:(D ++ [y]).length=D.length+1:=by simp
  have hDL:D.length < L.length:=by have:=XN hnd hsub;omega
  have m3:Mqa iv H3 m L c:=k3.mqa m2 (by simpa using hne)
  refine Zo (v:=.bool true) rfl (by kernel_rfl) (Zh (U1 (Jv (t:=true) rfl (fun _=>ZV ?_) fun h=>by cases h)))
  refine zF (Zk (Zbs rfl i3 m3 hw hyL yP.fl (Zo (v:=iv y.1) rfl (by kernel_rfl) (Zd rfl (Zh ?_)))))
  refine Zk (Zd rfl (Zd rfl (YR rfl (hy D y H3 (by omega) hDL hyL (hyk D H2 H3 y2 k3 n3)) ?_)))
  rintro v H4 ⟨rfl,k4,y4⟩
  refine Zo (v:=.bool false) rfl (by kernel_rfl) (Zh (Jv (t:=false) rfl (fun h=>by cases h) fun _=>ZV ?_))
  have k24:Xf H.next W H H4:=k2.trans ((Xf.of k3 (by omega) (by simp)).trans (k4.low (by omega)))
  exact ⟨_,D ++ [y],by rw [hlen];omega,⟨rfl,hnd,hsub,k24,k4.ita i3 (by omega) hnW,k4.mqa m3 (by have:=hm.1;omega) hmW,y4,by have:=k4.le;omega⟩,rfl,rfl,True.intro⟩
theorem ZhD:ZS Try.prog 67=some (3,1):=by kernel_rfl
theorem Zie:Try.prog.underlying 67=some (.slice 3):=by kernel_rfl
def ApY (lo b2 l rr:Nat) (asg body:Code) (S0:Rg) (f:Nat) (D:ML Int) (H:Hp):Prop:=
 Lp Try.prog H l .ready none 13 S0 [7] asg body rr∧l < f∧b2 < l∧f≤H.next∧H.t.get rr=some (.dfr (some []))∧rr < l∧b2≠rr∧∃ v,Cl H b2 [v]∧one v=true∧v.cells.toList=[v]∧Acc lo f 3 H v D.length (D.map fun x=>iv x.1)
theorem YZ.lp {P:Program} {f:Nat} {H H1:Hp} {l:Nat} {st:LoopState} {pe:Option Code} {n:Nat} {S:Rg} {ps:List Tmp} {asg body:Code} {r:Nat} (k:YZ f H H1) (h:Lp P H l st pe n S ps asg body r) (hl:l < f):Lp P H1 l st pe n S ps asg body r:=by
 obtain ⟨fn,T,g,q⟩:=h
 exact ⟨fn,T,by rw [k.same _ hl];exact g,q⟩
set_option maxRecDepth 100000 in
set_option maxHeartbeats 1000000 in
theorem yR (s:Snd Try.prog kn) (hlo:lo≤H.next) {bm m c:Nat} {L:ML Int} (hbm:Rd H bm [.map (some m)]) (hm:Mqa iv H m L c) (hw:WfA L c) (hL:L.length≤12) :
  FnM Try.prog lo 79 [.slice none 0 0,.func (.func 72) #[] #[.pointer (some ⟨bm,0,none⟩)]] H fun v H'=>Keep H H' []∧∃ D:ML Int,D.Perm L∧Acc lo H.next 3 H' v D.length (D.map fun x=>iv x.1):=by
 refine ZcZ s Try.func79 B79 N79 Z79 L79 (by simp) ?_
 refine KP (qn (UJ rfl fun H1 k1 n1 c1=>Zd rfl (Zh ?_)))
 refine KP (KP (qn (Zd rfl (Zh (Zcj (Zcn ?_))))))
 rw [Zir]
 refine YU.range rfl fun H2 k2 n2 g2 l2=>?_
 have hb2:H.next < H1.next:=by omega
 have c2:Cl H2 H.next [.slice none 0 0]:=k2.cl c1 (by simp)
 have hbm2:Rd H2 bm [.map (some m)]:=k2.rd (k1.rd hbm (by simp)) (by simp)
 have hm2:Mqa iv H2 m L c:=k2.mqa0 (k1.mqa0 hm)
 have k12:Keep H H2 []:=k1.new k2 (by simp)
 generalize hasg:at_ Try.f79 [1,0,1,0,0]=asg at l2
 generalize hbody:at_ Try.f79 [1,0,1,0,1]=body at l2
 generalize hS0:(Zy (Zy (Zy (VS [Value.slice none 0 0,Value.func (Fn.func 72) #[] #[Value.pointer (some { block:=bm,off:=0 })]] 0) (some 2) (Value.pointer (some { block:=H.next,off:=0 }))) (some 4) (Value.slice none 0 0)) (some 6) (Value.func (Fn.func 72) #[] #[Value.pointer (some { block:=bm,off:=0 })]))=S0 at l2
 have hf:=ZeE (kn:=kn) (lo:=lo) s (H:=H2) (W:=[H.next,H1.next+1]) (Y:=ApY lo H.next (H1.next+1) H1.next asg body S0) (l:=H1.next+1) (by omega) hbm2 hm2 hw (by
   intro b hb
   have:=hm.1
   simp at hb
   rcases hb with rfl | rfl<;>omega) (fun H3 k3 n3=>?_) (fun D x H3 hn hD hx hY=>?_) (fun D H3 H4 hY k4 n4=>?_)
 ·refine ⟨_,KX s.hN (by simpa using hf),fun v H3 hQ=>?_⟩
  obtain ⟨_,k3,D,hD,l3,hlf,hbl,hfn,hdf,hrl,hbr,v3,c3,h1,h2,a3⟩:=hQ
  refine ⟨.ready,none,S0,l3,by simp,fun H4 hset=>?_⟩
  have k4:=hset.keep
  have c4:Cl H4 H.next [v3]:=k4.cl c3 (by simp;omega)
  subst hS0
  refine KP (qn (XQ rfl c4.rd rfl (Zd rfl (Zh (Zfe ⟨True.intro,.inr ⟨H1.next,rfl,by omega,?_,fun H5 n5 k5=>⟨[v3],rfl,?_,D,hD,?_⟩⟩⟩)))))
  ·rw [k4.same H1.next (by omega) (by simp)];exact hdf
  ·refine ⟨by have:=k12.le;have:=k3.le;have:=k4.le;have:=k5.le;omega,fun b hb _=>?_,fun b cs hb hg=>?_⟩
   ·rw [k5.same b (by have:=k12.le;have:=k3.le;have:=k4.le;omega) (by simp;omega),k4.same b (by have:=k12.le;have:=k3.le;omega) (by simp;omega),k3.same b (by have:=k12.le;omega) (by simp;omega),k12.same b hb (by simp)]
   ·obtain ⟨q1,g1⟩:=k5.rox b cs hb hg
    obtain ⟨q2,g2⟩:=k4.rox b cs q1 g1
    obtain ⟨q3,g3⟩:=k3.rox b cs q2 g2
    exact k12.rox b cs q3 g3
  ·have a4:=a3.keepW k4 (by omega)
   have a5:=a4.keepW k5 (by omega)
   exact a5.imp id fun ⟨b,e1,e2,e3,e4⟩=>⟨b,e1,e2,by have:=k12.le;omega,e4⟩
 ·exact ⟨l2.keep k3 (by omega) (by simp),by omega,by omega,by omega,by rw [k3.same H1.next (by omega) (by simp)];exact g2,by omega,by omega,_,k3.cl c2 (by simp),rfl,rfl,.inl ⟨rfl,rfl,rfl⟩⟩
 ·obtain ⟨l3,hlf,hbl,hfn,hdf,hrl,hbr,v3,c3,h1,h2',a3⟩:=hY
  have hmono:=k12.le
  subst hasg hbody
  have hb:J9 [7] [iv x.1] S0=some ((7,iv x.1) :: S0):=rfl
  refine (Zhg s.hm l3 (by omega) (by decide) hb (Q:=fun b H'=>b=true∧Xf (H2.next+1) [H.next,H1.next+1] H3 H'∧ApY lo H.next (H1.next+1) H1.next (at_ Try.f79 [1,0,1,0,0]) (at_ Try.f79 [1,0,1,0,1]) S0 (H2.next+1) (D ++ [x]) H') ?_).mono fun v H' ⟨b,e,q1,q2,q3⟩=>⟨by rw [e,q1],q2,q3⟩
  have hN:Try.f79.ntmps=13:=N79
  refine Yh (kn:=kn) s _ (by rw [← hN];exact Zid) (ZdN (Zd rfl (Zh ⟨True.intro,l3,fun H4 hset=>?_⟩)))
  have k4:=hset.keep
  have n4:H4.next=H3.next:=hset.1
  have l4:=hset.lp l3
  have c4:Cl H4 H.next [v3]:=k4.cl c3 (by simp;omega)
  have a4:=a3.keepW k4 hlf
  subst hS0
  refine Yh (kn:=kn) s _ (by rw [← hN];exact ZjB) (Zg7 (XQ rfl c4.rd rfl (Zd rfl ?_)))
  refine Xm rfl rfl (Xj (v:=iv x.1) ZhD zo3 rfl rfl rfl (by decide)) (fun q e=>by cases e) ?_
  obtain ⟨k5,n5,c5⟩:=ZO (H:=H4) (cs:=[iv x.1]) (e:=3) (l:=false) rfl
  have hlen:(D.map fun x=>iv x.1).length=D.length * 1:=by simp
  obtain ⟨H6,kd,e6,d6,a6,kb6⟩:=Yu (P:=Try.prog) (lo:=lo) (k:=D.length) (t1:=67) (f:=H2.next+1) ZhD Zie (c5.sl (Nat.le_refl 1)) rfl (by decide) rfl hlen (by omega) (a4.keep k5) (by omega) (by omega)
  refine Xm (k:=kd) rfl (by kernel_rfl) (e6 _ _ _ _ _ _ _ rfl rfl) (fun q e=>by rcases d6 with rfl | ⟨b6,rfl,hb6⟩<;>cases e) ?_
  have c6:Cl H6 H.next [v3]:=kb6.cl (k5.cl c4 (by simp)) (by omega)
  have l6:=kb6.lp (l4.keep k5 (by omega) (by simp)) (by omega)
  have m6:=kb6.le
  have kf6:Xf (H2.next+1) [H.next,H1.next+1] H3 H6:=((Xf.of k4 (by omega) (by simp)).trans (Xf.of k5 (by omega) (by simp))).trans ⟨kb6.le,fun b hb _=>kb6.same b hb,kb6.rox⟩
  refine Zf8 rfl rfl c6 hlo rfl rfl (by simp) fun H7 k7 n7 c7=>Zh ⟨l6.keep k7 (by omega) (by simp;omega),fun H8 hset8=>⟨rfl,?_,?_⟩⟩
  ·exact (kf6.trans (Xf.of k7 (by omega) (by simp))).trans (Xf.of hset8.keep (by omega) (by simp))
  ·have k8:=hset8.keep
   have n8:H8.next=H7.next:=hset8.1
   have kf8:=(kf6.trans (Xf.of k7 (by omega) (by simp))).trans (Xf.of (f:=H2.next+1) (W:=[H.next,H1.next+1]) k8 (by omega) (by simp))
   have a8:=(a6.keepW k7 (by omega)).keepW k8 (by omega)
   refine ⟨hset8.lp (l6.keep k7 (by omega) (by simp;omega)),hlf,hbl,by omega,by rw [kf8.same H1.next (by omega) (by simp;omega)];exact hdf,hrl,hbr,_,k8.cl c7 (by simp;omega),rfl,rfl,?_⟩
   simpa using a8
 ·obtain ⟨l3,hlf,hbl,hfn,hdf,hrl,hbr,v3,c3,h1,h2',a3⟩:=hY
  exact ⟨l3.keep k4 (by omega) (by simp;omega),hlf,hbl,by omega,by rw [k4.same H1.next (by omega) (by simp;omega)];exact hdf,hrl,hbr,v3,k4.cl c3 (by simp;omega),h1,h2',a3.keepW k4 (by omega)⟩
theorem ZaK (s:Snd Try.prog kn) (hlo:lo≤H.next) {bm m c:Nat} {L:ML Int} (hbm:Rd H bm [.map (some m)]) (hm:Mqa iv H m L c) (hw:WfA L c) (hL:L.length≤12) :
  FnM Try.prog lo 70 [.func (.func 72) #[] #[.pointer (some ⟨bm,0,none⟩)]] H fun v H'=>Keep H H' []∧∃ D:ML Int,D.Perm L∧Acc lo H.next 3 H' v D.length (D.map fun x=>iv x.1):=by
 refine WZ s Try.func70 B70 N70 Z70 L70 (by simp) ?_
 refine Zk (Zd rfl (Zh (Zk (Zd rfl (YR (t:=.fn (.func 79) #[]) rfl (Ye s.hN (yR s hlo hbm hm hw hL)) fun v H1 hq=>Zd rfl (Zh (qC ⟨True.intro,[v],rfl,hq⟩)))))))
theorem Zem (m:Nat):∃ H',FnX Try.prog kn lo 57 [.map (some m)] H (.func (.func 72) #[] #[.pointer (some ⟨H.next,0,none⟩)]) H'∧Keep H H' []∧Rd H' H.next [.map (some m)]:=by
 have key:=Zs (kn:=kn) (lo:=lo) (H:=H) (args:=[.map (some m)]) (Q:=fun w H'=>w=.func (.func 72) #[] #[.pointer (some ⟨H.next,0,none⟩)]∧Keep H H' []∧Rd H' H.next [.map (some m)]) Try.func57 B57 N57 Z57 L57 (by simp) ?_
 ·obtain ⟨w,H',h,rfl,q⟩:=key;exact ⟨H',h,q⟩
 refine Zc (Y5 rfl fun H1 k1 n1 c1=>Za rfl (Zb ?_))
 refine Zc (Zg (v:=.func (.func 72) #[] #[.pointer (some ⟨H.next,0,none⟩)]) rfl (by kernel_rfl) (Za rfl (Zb ?_)))
 exact ⟨True.intro,[.func (.func 72) #[] #[.pointer (some ⟨H.next,0,none⟩)]],rfl,rfl,k1,c1.rd⟩
theorem ZfH:∃ H',FnX Try.prog kn lo 85 [.slice none 0 0,iv 0,iv 0] H (.tuple #[]) H'∧Keep H H' []:=by
 have key:=Zs (kn:=kn) (lo:=lo) (H:=H) (args:=[.slice none 0 0,iv 0,iv 0]) (Q:=fun w H'=>w=.tuple #[]∧Keep H H' []) Try.func85 B85 N85 Z85 L85 (by simp) ?_
 ·obtain ⟨w,H',h,rfl,q⟩:=key;exact ⟨H',h,q⟩
 refine Zc (Za rfl (ZB (a:=0) (b:=1) rfl rfl ⟨by omega,by omega⟩ (Za rfl (Zb (Vn (QX ?_))))))
 refine ZA ZfV N85 ZfT (fun _:Unit=>[(2,iv 0),(6,iv 1)]) (fun k _ H'=>H'=H) 0 () rfl ⟨rfl,rfl,True.intro⟩ ?_
 rintro k _ H1 rfl
 refine WA (Zc (Za rfl (Za rfl (ZM (a:=1) (b:=0) rfl rfl (Zb (WC (t:=false) rfl (fun h=>by cases h) fun _=>ZE ?_))))))
 exact ⟨True.intro,[],rfl,rfl,Keep.refl _ _⟩
theorem Zfa {lim:Int}:∃ H',FnX Try.prog kn lo 80 [.slice none 0 0,iv 0,iv 0,iv lim] H (.tuple #[]) H'∧Keep H H' []:=by
 have key:=Zs (kn:=kn) (lo:=lo) (H:=H) (args:=[.slice none 0 0,iv 0,iv 0,iv lim]) (Q:=fun w H'=>w=.tuple #[]∧Keep H H' []) Try.func80 B80 N80 Z80 L80 (by simp) ?_
 ·obtain ⟨w,H',h,rfl,q⟩:=key;exact ⟨H',h,q⟩
 obtain ⟨H1,h1,k1⟩:=ZfH (kn:=kn) (lo:=lo) (H:=H)
 refine Zc (Za rfl (Zb (Zc (Za rfl (Zb (Vn (QX ?_)))))))
 refine ZA Zgm N80 Zgl (fun _:Unit=>[(0,.slice none 0 0),(1,iv 0),(2,iv 0)]) (fun k _ H'=>H'=H) 0 () rfl ⟨rfl,rfl,rfl,True.intro⟩ ?_
 rintro k _ H2 rfl
 refine Vn (Zc (Za rfl (Za rfl (Z8 (a:=0) (b:=0) rfl rfl ⟨by omega,by omega⟩ (Za rfl (Zb ?_))))))
 refine WA (Zc (Za rfl (Wl (a:=0 - 0) (b:=12) rfl rfl (Zb ?_))))
 refine WC (t:=true) rfl (fun _=>?_) (fun h=>by cases h)
 refine Zc (Za rfl (Za rfl (Za rfl (Zx rfl (Zi h1) (Zb ?_)))))
 exact ⟨True.intro,[],rfl,rfl,k1⟩
theorem Zgg (xs:List Int):cF xs.length (fun i=>xs.getD i 0)=xs.map iv:=ZiY

theorem Ze5 (hlo:lo≤H.next) {bd cap:Nat} {xs:List Int} (hlb:lo≤bd) (hn:xs.length < 13) (hc:Cl H bd (cI xs)) :
  ∃ H',FnX Try.prog kn lo 71 [.slice (some ⟨bd,0,none⟩) xs.length cap] H (.tuple #[]) H'∧Keep H H' [bd]∧∃ ys,ys.Perm xs∧ys.Pairwise (·≤·)∧Cl H' bd (cI ys):=by
 have key:=Zs (kn:=kn) (lo:=lo) (H:=H) (args:=[.slice (some ⟨bd,0,none⟩) xs.length cap]) (Q:=fun w H'=>w=.tuple #[]∧Keep H H' [bd]∧∃ ys,ys.Perm xs∧ys.Pairwise (·≤·)∧Cl H' bd (cI ys)) Try.func71 B71 N71 Z71 L71 (by simp) ?_
 ·obtain ⟨w,H',h,rfl,q⟩:=key;exact ⟨H',h,q⟩
 obtain ⟨H1,h1,k1⟩:=Zel (kn:=kn) (lo:=lo) (H:=H) (n:=xs.length) (by omega)
 have hbl:=ZfL (n:=xs.length) (by omega)
 have hc1:Cl H1 bd (cF xs.length (fun i=>xs.getD i 0)):=by rw [Zgg];exact k1.cl hc (by simp)
 obtain ⟨H2,g2,h2,p2,s2,k2,c2⟩:=ZgS (kn:=kn) (lo:=lo) (bd:=bd) (cap:=cap) (n:=xs.length) hlb hn (xs.length+1) H1 0 xs.length (fun i=>xs.getD i 0) (Qr xs.length) (by have:=k1.le;omega) (Nat.zero_le _) (Nat.le_refl _) (by omega) (by omega) hc1 (fun i h0=>by omega)
 refine Zc (Za rfl (Yz rfl (Za rfl (Zb ?_))))
 refine zk (Za rfl (Za rfl (Za rfl (Zg (v:=.int .u64 xs.length) rfl (zv (n:=xs.length) (j:=(xs.length:Int)) (by omega) rfl rfl) (Zx rfl (Zi h1) (Zx (vs:=[.slice (some ⟨bd,0,none⟩) xs.length cap,iv 0,iv (xs.length:Int),iv (Qr xs.length:Int)]) rfl (Zi h2) (Zb ?_)))))))
 refine ⟨True.intro,[],rfl,rfl,(k1.mono (by simp)).trans k2,rg g2 0 xs.length,?_,?_,?_⟩
 ·refine p2.perm.trans ?_
  have:(rg (fun i=>xs.getD i 0) 0 xs.length)=xs:=by
   have e:=Zgq (n:=xs.length) (g:=fun i=>xs.getD i 0)
   rw [Zgg] at e
   exact (List.map_inj_right (f:=iv) (fun a b h=>by cases h;rfl)).1 e.symm
  rw [this]
 ·rw [List.pairwise_iff_getElem]
  intro i j hi hj hij
  simp only [Zau] at hi hj
  have q:=s2 i j (by omega) (by omega) (by omega)
  simpa [rg] using q
 ·show Cl H2 bd ((rg g2 0 xs.length).map iv)
  rw [← Zgq];exact c2
theorem Zey:∃ H',FnX Try.prog kn lo 71 [.slice none 0 0] H (.tuple #[]) H'∧Keep H H' []:=by
 have key:=Zs (kn:=kn) (lo:=lo) (H:=H) (args:=[.slice none 0 0]) (Q:=fun w H'=>w=.tuple #[]∧Keep H H' []) Try.func71 B71 N71 Z71 L71 (by simp) ?_
 ·obtain ⟨w,H',h,rfl,q⟩:=key;exact ⟨H',h,q⟩
 obtain ⟨H1,h1,k1⟩:=Zel (kn:=kn) (lo:=lo) (H:=H) (n:=0) (by omega)
 obtain ⟨H2,h2,k2⟩:=Zfa (kn:=kn) (lo:=lo) (H:=H1) (lim:=(Qr 0:Int))
 refine Zc (Za rfl (Yz (m:=0) rfl (Za rfl (Zb ?_))))
 refine zk (Za rfl (Za rfl (Za rfl (Zg (v:=.int .u64 ((0:Nat):Int)) rfl (zv (n:=0) (j:=((0:Nat):Int)) (by omega) rfl rfl) (Zx rfl (Zi h1) (Zx (vs:=[.slice none 0 0,iv 0,iv 0,iv (Qr 0:Int)]) rfl (Zi h2) (Zb ?_)))))))
 exact ⟨True.intro,[],rfl,rfl,k1.trans k2⟩
theorem Zcv (s:Snd Try.prog kn) (hlo:lo≤H.next) {bm m c:Nat} {L:ML Int} (hbm:Rd H bm [.map (some m)]) (hm:Mqa iv H m L c) (hw:WfA L c) (hL:L.length≤12) :
  FnM Try.prog lo 56 [.func (.func 72) #[] #[.pointer (some ⟨bm,0,none⟩)]] H fun v H'=>Keep H H' []∧∃ a ys cap,v=.slice a ys.length cap∧Sl H' a ys.length cap (cI ys)∧ys.Pairwise (·≤·)∧ys.Perm (L.map (·.1)):=by
 refine WZ s Try.func56 B56 N56 Z56 L56 (by simp) ?_
 refine Zk (Zd rfl (Zh (Zk (Zd rfl (YR (t:=.fn (.func 70) #[]) rfl (Ye s.hN (ZaK s hlo hbm hm hw hL)) ?_)))))
 rintro v H1 ⟨k1,D,hD,ha⟩
 have hDl:=hD.length_eq
 rcases ha with ⟨h0,h01,rfl⟩ | ⟨b,rfl,_,hb,hlb,hbn,hg⟩
 ·obtain ⟨H2,h2,k2⟩:=Zey (kn:=kn) (lo:=lo) (H:=H1)
  have hL0:L=[]:=List.eq_nil_of_length_eq_zero (by omega)
  subst hL0
  refine Zd rfl (Zh (Zk (Zd rfl (Z6 s rfl (Zi h2) (Zh ?_)))))
  refine Zk (Zd rfl (Zd rfl (Zh (qC ⟨True.intro,[.slice none 0 0],rfl,k1.trans k2,none,[],0,rfl,.inl ⟨.inl rfl,rfl,rfl,rfl⟩,List.Pairwise.nil,.refl _⟩))))
 have hc:Cl H1 b (cI (D.map (·.1))):=⟨hbn,3,true,by rw [hg];simp [cI,Function.comp_def]⟩
 have hlen:(D.map (·.1)).length=D.length:=by simp
 obtain ⟨H2,h2,k2,ys,hp,hs,hc2⟩:=Ze5 (kn:=kn) (lo:=lo) (H:=H1) (cap:=D.length) (by have:=k1.le;omega) hlb (by rw [hlen];omega) hc
 rw [hlen] at h2
 have hyl:ys.length=D.length:=by rw [hp.length_eq,hlen]
 refine Zd rfl (Zh (Zk (Zd rfl (Z6 s rfl (Zi h2) (Zh ?_)))))
 refine Zk (Zd rfl (Zd rfl (Zh (qC ⟨True.intro,[.slice (some ⟨b,0,none⟩) D.length D.length],rfl,k1.new k2 (fun x hx=>.inr (by simp at hx;omega)),some ⟨b,0,none⟩,ys,D.length,by rw [hyl];rfl,.inr ⟨b,rfl,hc2.rd,by omega⟩,hs,?_⟩))))
 exact hp.trans (hD.map _)
end
end
end Go.Ax

/-
 Pool: the book: what events do (no program in it),and where it lies (written by program).
-/
namespace Go.Ax
open Go Go.RowKit Go.Proofs

noncomputable section
def fI (al:List Ac) (x:Int):Option Nat:=al.findIdx? fun a=>decide (a.g=x)
theorem KL {al:List Ac} {x:Int} {i:Nat} (h:fI al x=some i):i < al.length∧(al.getD i Ac.z).g=x:=by
 unfold fI at h
 rw [List.findIdx?_eq_some_iff_getElem] at h
 obtain ⟨hi,h1,_⟩:=h
 refine ⟨hi,?_⟩
 rw [List.getD_eq_getElem?_getD,List.getElem?_eq_getElem hi]
 exact of_decide_eq_true h1
def stp (al:List Ac) (v:Ev):List Ac × Int:=
 if okE v=false then (al,1) else
 match fI al v.g with
 | none=>(al,4)
 | some i=>
  if v.k=0 then (al.set i ⟨(al.getD i Ac.z).g,(al.getD i Ac.z).q,(al.getD i Ac.z).u+min v.a ((al.getD i Ac.z).q - (al.getD i Ac.z).u),(al.getD i Ac.z).x+(v.a - min v.a ((al.getD i Ac.z).q - (al.getD i Ac.z).u))⟩,0) else
  match fI al v.t with
  | none=>(al,4)
  | some j=>if i=j then (al,5) else if (al.getD i Ac.z).q - (al.getD i Ac.z).u < v.a then (al,10) else
    ((al.set i ⟨(al.getD i Ac.z).g,(al.getD i Ac.z).q - v.a,(al.getD i Ac.z).u,(al.getD i Ac.z).x⟩).set j ⟨(al.getD j Ac.z).g,(al.getD j Ac.z).q+v.a,(al.getD j Ac.z).u,(al.getD j Ac.z).x⟩,0)
theorem qM {al:List Ac} {v:Ev} (h:okE v=false):stp al v=(al,1):=by unfold stp;rw [if_pos h]
theorem zD {al:List Ac} {v:Ev} (h:okE v=true) (h1:fI al v.g=none):stp al v=(al,4):=by unfold stp;rw [if_neg (by rw [h];simp),h1]
theorem J2 {al:List Ac} {v:Ev} {i:Nat} (h:okE v=true) (h1:fI al v.g=some i) (hk:v.k=0):stp al v=(al.set i ⟨(al.getD i Ac.z).g,(al.getD i Ac.z).q,(al.getD i Ac.z).u+min v.a ((al.getD i Ac.z).q - (al.getD i Ac.z).u),(al.getD i Ac.z).x+(v.a - min v.a ((al.getD i Ac.z).q - (al.getD i Ac.z).u))⟩,0):=by unfold stp;rw [if_neg (by rw [h];simp),h1];simp only [];rw [if_pos hk]
theorem JD {al:List Ac} {v:Ev} {i:Nat} (h:okE v=true) (h1:fI al v.g=some i) (hk:v.k≠0) (h2:fI al v.t=none):stp al v=(al,4):=by unfold stp;rw [if_neg (by rw [h];simp),h1];simp only [];rw [if_neg hk,h2]
theorem JP {al:List Ac} {v:Ev} {i:Nat} (h:okE v=true) (h1:fI al v.g=some i) (hk:v.k≠0) (h2:fI al v.t=some i):stp al v=(al,5):=by unfold stp;rw [if_neg (by rw [h];simp),h1];simp only [];rw [if_neg hk,h2];simp only [if_true]
theorem JK {al:List Ac} {v:Ev} {i j:Nat} (h:okE v=true) (h1:fI al v.g=some i) (hk:v.k≠0) (h2:fI al v.t=some j) (hij:i≠j) (hs:(al.getD i Ac.z).q - (al.getD i Ac.z).u < v.a):stp al v=(al,10):=by unfold stp;rw [if_neg (by rw [h];simp),h1];simp only [];rw [if_neg hk,h2];simp only [];rw [if_neg hij,if_pos hs]
theorem J3 {al:List Ac} {v:Ev} {i j:Nat} (h:okE v=true) (h1:fI al v.g=some i) (hk:v.k≠0) (h2:fI al v.t=some j) (hij:i≠j) (hs:¬ (al.getD i Ac.z).q - (al.getD i Ac.z).u < v.a):stp al v=((al.set i ⟨(al.getD i Ac.z).g,(al.getD i Ac.z).q - v.a,(al.getD i Ac.z).u,(al.getD i Ac.z).x⟩).set j ⟨(al.getD j Ac.z).g,(al.getD j Ac.z).q+v.a,(al.getD j Ac.z).u,(al.getD j Ac.z).x⟩,0):=by unfold stp;rw [if_neg (by rw [h];simp),h1];simp only [];rw [if_neg hk,h2];simp only [];rw [if_neg hij,if_neg hs]
def Ur (B:Int) (a:Ac):Prop:=0≤a.u∧a.u≤a.q∧a.q≤B∧0≤a.x∧a.x≤B
theorem Ur.mono {B C:Int} {a:Ac} (h:Ur B a) (hb:B≤C):Ur C a:=by unfold Ur at *;omega
theorem yU {α:Type} {l:List α} {i:Nat} {v:α} {p:α→Prop} (h:∀ a∈l,p a) (hv:p v):∀ a∈l.set i v,p a:=fun a ha=>by
 rcases List.mem_or_eq_of_mem_set ha with h1 | h1
 ·exact h a h1
 ·rw [h1];exact hv
theorem Zhe {al:List Ac} {v:Ev} {B:Int} (h:∀ a∈al,Ur B a) (hB:0≤B):∀ a∈(stp al v).1,Ur (B+1099511627776) a:=by
 have hm:∀ a∈al,Ur (B+1099511627776) a:=fun a ha=>(h a ha).mono (by omega)
 cases he:okE v with
 | false=>rw [qM he];exact hm
 | true=>
  have ht:=Zgb he
  cases h1:fI al v.g with
  | none=>rw [zD he h1];exact hm
  | some i=>
   have ai:=Xz (z:=Ac.z) h (KL h1).1
   by_cases hk:v.k=0
   ·rw [J2 he h1 hk]
    refine yU hm ?_
    unfold Ur at *
    simp only []
    omega
   ·cases h2:fI al v.t with
    | none=>rw [JD he h1 hk h2];exact hm
    | some j=>
     have aj:=Xz (z:=Ac.z) h (KL h2).1
     by_cases hij:i=j
     ·subst hij;rw [JP he h1 hk h2];exact hm
     ·by_cases hs:(al.getD i Ac.z).q - (al.getD i Ac.z).u < v.a
      ·rw [JK he h1 hk h2 hij hs];exact hm
      ·rw [J3 he h1 hk h2 hij hs]
       refine yU (yU hm ?_) ?_<;>(unfold Ur at *;simp only [];omega)
theorem QM {α β:Type} {f:α→β} {l:List α} {i:Nat} {v z:α} (h:f v=f (l.getD i z)):(l.set i v).map f=l.map f:=by
 refine List.ext_getElem? fun j=>?_
 rw [List.getElem?_map,List.getElem?_map,List.getElem?_set]
 by_cases q:i=j
 ·subst q
  rw [if_pos rfl]
  split
  ·rename_i hl
   rw [List.getElem?_eq_getElem hl,Option.map_some,Option.map_some,h,List.getD_eq_getElem?_getD,List.getElem?_eq_getElem hl];rfl
  ·rename_i hl
   rw [List.getElem?_eq_none (by omega)]
 ·rw [if_neg q]
theorem Vp {α:Type} {l:List α} {i j:Nat} {v z:α} (h:i≠j):(l.set i v).getD j z=l.getD j z:=by
 rw [List.getD_eq_getElem?_getD,List.getD_eq_getElem?_getD,List.getElem?_set_ne h]
theorem J8 {α:Type} {l:List α} {i:Nat} {v z:α} (h:i < l.length):(l.set i v).getD i z=v:=by
 rw [List.getD_eq_getElem?_getD,List.getElem?_set_self h];rfl
theorem ZeS {al:List Ac} {v:Ev}:(stp al v).1.map (·.g)=al.map (·.g):=by
 cases he:okE v with
 | false=>rw [qM he]
 | true=>
  cases h1:fI al v.g with
  | none=>rw [zD he h1]
  | some i=>
   by_cases hk:v.k=0
   ·rw [J2 he h1 hk];exact QM (z:=Ac.z) rfl
   ·cases h2:fI al v.t with
    | none=>rw [JD he h1 hk h2]
    | some j=>
     by_cases hij:i=j
     ·subst hij;rw [JP he h1 hk h2]
     ·by_cases hs:(al.getD i Ac.z).q - (al.getD i Ac.z).u < v.a
      ·rw [JK he h1 hk h2 hij hs]
      ·rw [J3 he h1 hk h2 hij hs]
       refine (QM (f:=fun a:Ac=>a.g) (z:=Ac.z) ?_).trans (QM (f:=fun a:Ac=>a.g) (z:=Ac.z) ?_)
       ·rw [Vp hij]
       ·rfl
def stA (al:List Ac) (vs:List Ev):Nat→List Ac
 | 0=>al
 | k+1=>(stp (stA al vs k) (vs.getD k Ev.z)).1
theorem qA {al:List Ac} {vs:List Ev}:∀ k,(stA al vs k).map (·.g)=al.map (·.g)
 | 0=>rfl
 | k+1=>ZeS.trans (qA k)
theorem Jr {al:List Ac} {vs:List Ev} (k:Nat):(stA al vs k).length=al.length:=by
 have:=congrArg List.length (qA (al:=al) (vs:=vs) k)
 simpa using this
theorem Zd6 {al:List Ac} {vs:List Ev} (h:∀ a∈al,Ur 1099511627776 a):∀ k:Nat,∀ a∈stA al vs k,Ur (1099511627776 * ((k:Int)+1)) a
 | 0=>fun a ha=>(h a ha).mono (by omega)
 | k+1=>fun a ha=>(Zhe (Zd6 h k) (by omega) a ha).mono (by omega)
def Ply (al:List Ac) (vs:List Ev) (n:Nat) (e:Int):Prop:=
 n≤vs.length∧(∀ j,j < n→(stp (stA al vs j) (vs.getD j Ev.z)).2=0)∧((n=vs.length∧e=0)∨(n < vs.length∧e=(stp (stA al vs n) (vs.getD n Ev.z)).2∧e≠0))
theorem Ply.uniq {al:List Ac} {vs:List Ev} {n n':Nat} {e e':Int} (h:Ply al vs n e) (h':Ply al vs n' e'):n=n'∧e=e':=by
 have key:∀ {n n':Nat} {e e':Int},Ply al vs n e→Ply al vs n' e'→¬ n < n':=by
  intro n n' e e' h h' q
  have h1:=h'.2.1 n q
  rcases h.2.2 with ⟨a,_⟩ | ⟨a,b,c⟩
  ·have:=h'.1;omega
  ·exact c (b.trans h1)
 have e1:n=n':=by have:=key h h';have:=key h' h;omega
 subst e1
 refine ⟨rfl,?_⟩
 rcases h.2.2 with ⟨a,b⟩ | ⟨a,b,c⟩<;>rcases h'.2.2 with ⟨a',b'⟩ | ⟨a',b',c'⟩
 ·rw [b,b']
 ·omega
 ·omega
 ·rw [b,b']
structure Bok (lo f mb:Nat) (L:ML Int) (c:Nat) (P:Nat→Nat) (al:List Ac) (H:Hp):Prop where
 mq:Mqa iv H mb L c
 wf:WfA L c
 val:∀ i,i < al.length→Yg (al.getD i Ac.z).g L=some (.pointer (some ⟨P i,0,none⟩))
 no:∀ x,(∀ i,i < al.length→(al.getD i Ac.z).g≠x)→Yg x L=none
 cl:∀ i,i < al.length→Sc H (P i) (Ac.f (al.getD i Ac.z))
 inj:∀ i j,i < al.length→j < al.length→P i=P j→i=j
 lw:∀ i,i < al.length→lo≤P i∧f≤P i∧P i≠mb
 lm:lo≤mb∧f≤mb
theorem Bok.keep {lo f mb:Nat} {L:ML Int} {c:Nat} {P:Nat→Nat} {al:List Ac} {H H1:Hp} (h:Bok lo f mb L c P al H) (k:Keep H H1 []):Bok lo f mb L c P al H1:=
 ⟨k.mqa0 h.mq,h.wf,h.val,h.no,fun i hi=>k.sc (h.cl i hi) (by simp),h.inj,h.lw,h.lm⟩
theorem Bok.keepW {lo f mb b:Nat} {L:ML Int} {c:Nat} {P:Nat→Nat} {al:List Ac} {H H1:Hp} (h:Bok lo f mb L c P al H) (k:Keep H H1 [b]) (h1:mb≠b) (h2:∀ i,i < al.length→P i≠b):Bok lo f mb L c P al H1:=
 ⟨k.mqa h.mq (by simpa using h1),h.wf,h.val,h.no,fun i hi=>k.sc (h.cl i hi) (by simpa using h2 i hi),h.inj,h.lw,h.lm⟩
theorem Bok.set {lo f mb i:Nat} {L:ML Int} {c:Nat} {P:Nat→Nat} {al:List Ac} {H H1:Hp} {a:Ac} (h:Bok lo f mb L c P al H) (hi:i < al.length) (k:Keep H H1 [P i]) (hc:Sc H1 (P i) (Ac.f a)) (hg:a.g=(al.getD i Ac.z).g):Bok lo f mb L c P (al.set i a) H1:=by
 have hat:∀ j,((al.set i a).getD j Ac.z).g=(al.getD j Ac.z).g:=fun j=>by
  by_cases q:i=j
  ·subst q;rw [J8 hi,hg]
  ·rw [Vp q]
 refine ⟨k.mqa h.mq (by simpa using ((h.lw i hi).2.2).symm),h.wf,fun j hj=>?_,fun x hx=>h.no x fun j hj=>?_,fun j hj=>?_,fun j j' hj hj'=>?_,fun j hj=>?_,h.lm⟩<;>(try rw [List.length_set] at hj)
 ·rw [hat];exact h.val j hj
 ·have:=hx j (by rw [List.length_set];exact hj);rw [hat] at this;exact this
 ·by_cases q:i=j
  ·subst q;rw [J8 hi];exact hc
  ·rw [Vp q];exact k.sc (h.cl j hj) (by simp;exact fun e=>q (h.inj i j hi hj e.symm))
 ·rw [List.length_set] at hj';exact h.inj j j' hj hj'
 ·exact h.lw j hj
theorem Zbm {P:Program} {kn:Kn} {lo n:Nat} {masks:List Nat} {r:List RO} {ks:List Kd} {S:Rg} {H:Hp} {K:Rg→Hp→Prop} {d:Option Nat} {x y:Operand} {b o:Nat} {cs:List Value} {v:Value} (hx:evS S x=some (.pointer (some ⟨b,o,none⟩))) (hy:evS S y=some v) (hc:Sc H b cs) (hl:lo≤b) (hv:v.cells.toList=[v]) (h1:one v=true) (ho:o < cs.length)
  (h:∀ H1,Keep H H1 [b]→H1.next=H.next→Sc H1 b (cs.set o v)→Zu P kn lo n masks r (.store b :: ks) (Zy S d undef) H1 K):Zu P kn lo n masks (⟨d,none,.st x y⟩ :: r) ks S H K:=by
 simp only [Zu,wRO,wRI,hx,hy]
 obtain ⟨_,e,g⟩:=id hc
 exact ⟨cs,e,false,g,hl,hv,h1,ho,fun H1 hH1=>by obtain ⟨a,b,c⟩:=Zgp hc hH1;exact h H1 a b c⟩
end
end Go.Ax

/-
 Pool: an account,what is left of it (77,78);a load brought (68) (written by program).
-/
namespace Go.Ax
open Go Go.RowKit Go.Proofs

noncomputable section
noncomputable def Ul:Code→Array Oper
 | .region _ ops _=>ops
 | _=>#[]
section
variable {P:Program} {kn:Kn} {lo n:Nat} {rd:Bool} {r:List RP} {S:Rg} {H:Hp} {D:List Deferred} {d:Option Nat} {x y:Operand} {K:Exit→Rg→Hp→List Deferred→Prop}
theorem ZgY {v:Value} (hx:evS S x=some v) (h:Vv P kn lo n rd r (Zy S d v) H D K):Vv P kn lo n rd (.ro ⟨d,none,.mov x⟩ :: r) S H D K:=.inl (by simp only [wRO,wRI,hx];exact h)
theorem ZgU {o:Oper} {v:Value} (hd:Vl S o.op.operands.toList=true) (hv:Zn P (frS n S) o=some v) (h:Vv P kn lo n rd r (Zy S d v) H D K):Vv P kn lo n rd (.ro ⟨d,none,.pur o⟩ :: r) S H D K:=.inl ⟨hd,v,hv,h⟩
end
section
variable {P:Program} {kn:Kn} {lo n:Nat} {masks:List Nat} {r:List RO} {ks:List Kd} {S:Rg} {H:Hp} {d:Option Nat} {x y:Operand} {K:Value→Hp→Prop}
end
theorem ZdR:Try.prog.underlying 69=some (.map 3 91):=by kernel_rfl
theorem Zd9:ZH Try.prog (zeroValue 91)=some (.pointer none):=by kernel_rfl
section
variable {kn:Kn} {lo:Nat} {H:Hp}
theorem ZdC {mb c:Nat} {L:ML Int} (hq:Mqa iv H mb L c) {x:Int} {p:Nat} (hg:Yg x L=some (.pointer (some ⟨p,0,none⟩))):∃ H',FnX Try.prog kn lo 77 [.map (some mb),iv x] H (.pointer (some ⟨p,0,none⟩)) H'∧Keep H H' []:=by
 have key:=Zs (kn:=kn) (lo:=lo) (H:=H) (args:=[.map (some mb),iv x]) (Q:=fun w H'=>w=.pointer (some ⟨p,0,none⟩)∧Keep H H' []) Try.func77 B77 N77 Z77 L77 (by simp) ?_
 ·obtain ⟨w,H',h,rfl,q⟩:=key;exact ⟨H',h,q⟩
 have hk:=Keep.refl H []
 refine Zc<|Za rfl<|Zb<|Zc<|Za rfl<|Za rfl<|X0 (v:=.tuple #[.pointer (some ⟨p,0,none⟩),.bool true]) (H':=H) (k:=.read mb) (yd rfl rfl) rfl ((QC yP ZdR Zd9 rfl rfl rfl hq true).trans (by rw [hg];rfl)) (fun q e=>by cases e;exact hq.1)<|Za rfl<|Zg (v:=pt p) rfl (by kernel_rfl)<|Zg (v:=.bool true) rfl (by kernel_rfl)<|Za rfl<|Za rfl<|Zb<|Zc<|Za rfl<|Zg (v:=.bool false) rfl rfl<|Zb<|ZQ ?_
 first | refine Zl ?_ | skip
 refine Zc<|Za rfl<|Za rfl<|Zb ?_
 exact And.intro trivial (Exists.intro _ (And.intro rfl ⟨rfl,hk⟩))
theorem Zbo {p:Nat} {a:Ac} (ca:Cl H p [iv a.g,iv a.q,iv a.u,iv a.x]) {Bd:Int} (ha:Ur Bd a) (hB:Bd≤329853488332800):∃ H',FnX Try.prog kn lo 78 [.pointer (some ⟨p,0,none⟩)] H (iv (a.q - a.u)) H'∧Keep H H' []:=by
 have key:=Zs (kn:=kn) (lo:=lo) (H:=H) (args:=[.pointer (some ⟨p,0,none⟩)]) (Q:=fun w H'=>w=iv (a.q - a.u)∧Keep H H' []) Try.func78 B78 N78 Z78 L78 (by simp) ?_
 ·obtain ⟨w,H',h,rfl,q⟩:=key;exact ⟨H',h,q⟩
 have hk:=Keep.refl H []
 obtain ⟨ha1,ha2,ha3,ha4,ha5⟩:=ha
 refine Zc<|Za rfl<|Zb<|Y0<|Ze rfl<|Vw (a:=⟨p,0,none⟩) rfl<|ZC (b:=p) (o:=0) rfl<|ZD (b:=p) (o:=1) (v:=iv a.q) rfl ca.rd rfl<|Ze rfl<|Vw (a:=⟨p,0,none⟩) rfl<|ZC (b:=p) (o:=0) rfl<|ZD (b:=p) (o:=2) (v:=iv a.u) rfl ca.rd rfl<|Xd (a:=a.q) (b:=a.u) rfl rfl ⟨by omega,by omega⟩<|Ze rfl ?_
 refine ZJ (by repeat' first | exact True.intro | exact (fun h=>h) | refine And.intro ?_ ?_ | (intro h;have h:(_:Nat)=_:=h;omega)) ?_
 exact And.intro trivial (Exists.intro _ (And.intro rfl ⟨rfl,hk⟩))
set_option maxRecDepth 100000 in
theorem Zee {f mb c:Nat} {L:ML Int} {Pp:Nat→Nat} {al:List Ac} (hB:Bok lo f mb L c Pp al H) {v:Ev} {i:Nat} (hi:i < al.length) (hx:(al.getD i Ac.z).g=v.g) {Bd:Int} (hac:Ur Bd (al.getD i Ac.z)) (hBd:Bd≤329853488332800) (hv1:1≤v.a) (hv2:v.a≤1099511627776) (hlo:lo≤H.next):∃ H',FnX Try.prog kn lo 68 [.map (some mb),.agg (Ev.f v).toArray] H (.tuple #[]) H'∧Bok lo f mb L c Pp (al.set i ⟨(al.getD i Ac.z).g,(al.getD i Ac.z).q,(al.getD i Ac.z).u+min v.a ((al.getD i Ac.z).q - (al.getD i Ac.z).u),(al.getD i Ac.z).x+(v.a - min v.a ((al.getD i Ac.z).q - (al.getD i Ac.z).u))⟩) H'∧Keep H H' [Pp i]:=by
 have key:=Zs (kn:=kn) (lo:=lo) (H:=H) (args:=[.map (some mb),.agg (Ev.f v).toArray]) (Q:=fun w H'=>w=.tuple #[]∧Bok lo f mb L c Pp (al.set i ⟨(al.getD i Ac.z).g,(al.getD i Ac.z).q,(al.getD i Ac.z).u+min v.a ((al.getD i Ac.z).q - (al.getD i Ac.z).u),(al.getD i Ac.z).x+(v.a - min v.a ((al.getD i Ac.z).q - (al.getD i Ac.z).u))⟩) H'∧Keep H H' [Pp i]) Try.func68 B68 N68 Z68 L68 (by simp) ?_
 ·obtain ⟨w,H',h,rfl,q⟩:=key;exact ⟨H',h,q⟩
 obtain ⟨a,ea⟩:∃ a,a=al.getD i Ac.z:=⟨_,rfl⟩
 obtain ⟨pi,epi⟩:∃ pi,pi=Pp i:=⟨_,rfl⟩
 have hval:=hB.val i hi
 rw [hx,← epi] at hval
 have spi:Sc H pi [iv a.g,iv a.q,iv a.u,iv a.x]:=by rw [epi,ea];exact hB.cl i hi
 have ca:=spi.cl
 have hlw:=hB.lw i hi
 rw [← epi] at hlw
 have hmq:=hB.mq
 have lmb:=hmq.1
 have lpi:=ca.1
 rw [← ea] at hac
 obtain ⟨ha1,ha2,ha3,ha4,ha5⟩:=id hac
 have hk:=Keep.refl H [pi]
 refine Zc<|Y5 (v:=.agg (Ev.f v).toArray) rfl ?_
 intro H1 kH1 nH1 c1
 have c1:Cl H1 H.next [iv v.k,iv v.g,iv v.t,iv v.a]:=c1
 have mH1:=kH1.1
 have hk:=(show Keep H H1 [pi] from hk.trans (kH1.mono (by simp)))
 have hmq:=kH1.mqa hmq (by simp)
 have spi:=kH1.sc spi (by simp)
 have ca:=kH1.cl ca (by simp)
 refine Zb<|Zc<|Za rfl<|ZI (b:=H.next) (o:=0) rfl<|Yi (b:=H.next) (o:=1) (v:=iv v.g) rfl c1.rd rfl ?_
 obtain ⟨H2,fH2,kH2⟩:=ZdC (kn:=kn) (lo:=lo) (H:=H1) hmq hval
 refine Zx (vs:=[.map (some mb),iv v.g]) rfl (Zi fH2) ?_
 have mH2:=kH2.1
 have hk:=(show Keep H H2 [pi] from hk.trans (kH2.mono (by simp)))
 have hmq:=kH2.mqa hmq (by simp)
 have spi:=kH2.sc spi (by simp)
 have ca:=kH2.cl ca (by simp)
 have c1:=kH2.cl c1 (by simp)
 refine Za rfl<|Zb<|Y0<|ZC (b:=H.next) (o:=0) rfl<|ZD (b:=H.next) (o:=3) (v:=iv v.a) rfl c1.rd rfl<|Ze rfl ?_
 obtain ⟨H3,fH3,kH3⟩:=Zbo (kn:=kn) (lo:=H2.next) (H:=H2) ca hac hBd
 refine WO (vs:=[.pointer (some ⟨pi,0,none⟩)]) rfl rfl (Zi fH3) ?_
 have mH3:=kH3.1
 have hk:=(show Keep H H3 [pi] from hk.trans (kH3.mono (by simp)))
 have hmq:=kH3.mqa hmq (by simp)
 have spi:=kH3.sc spi (by simp)
 have ca:=kH3.cl ca (by simp)
 have c1:=kH3.cl c1 (by simp)
 refine Zi6 (a:=v.a) (b:=(a.q - a.u)) rfl rfl<|Ze rfl ?_
 refine ZJ (by repeat' first | exact True.intro | exact (fun h=>h) | refine And.intro ?_ ?_ | (intro h;have h:(_:Nat)=_:=h;omega)) ?_
 refine Zc<|Za rfl<|Zb0 (a:=⟨pi,0,none⟩) rfl<|ZI (b:=pi) (o:=0) rfl<|Yi (b:=pi) (o:=2) (v:=iv a.u) rfl ca.rd rfl<|Za rfl<|ZB (a:=a.u) (b:=min v.a (a.q - a.u)) rfl rfl ⟨by omega,by omega⟩<|Zb0 (a:=⟨pi,0,none⟩) rfl<|ZI (b:=pi) (o:=0) rfl<|ZgZ (b:=pi) (o:=2) rfl rfl spi (by omega) rfl rfl (by simp) ?_
 intro H4 kH4 nH4 sH4
 have mH4:=kH4.1
 have hk:=(show Keep H H4 [pi] from by first | exact hk.trans kH4 | exact hk.trans (kH4.mono (by simp)) | exact hk.new kH4 (fun b hb=>by simp at hb ⊢;omega))
 have hmq:=kH4.mqa hmq (by simp;omega)
 have c1:=kH4.cl c1 (by first | (simp;done) | (simp;omega))
 have spi:Sc H4 pi [iv a.g,iv a.q,iv (a.u+(min v.a (a.q - a.u))),iv a.x]:=sH4
 have ca:=spi.cl
 refine Zb ?_
 first | refine Yc ?_ | (refine YV ?_;refine Yc ?_)
 refine Ze rfl<|Vw (a:=⟨pi,0,none⟩) rfl<|ZC (b:=pi) (o:=0) rfl<|ZD (b:=pi) (o:=3) (v:=iv a.x) rfl ca.rd rfl<|ZC (b:=H.next) (o:=0) rfl<|ZD (b:=H.next) (o:=3) (v:=iv v.a) rfl c1.rd rfl<|Ze rfl<|Xd (a:=v.a) (b:=min v.a (a.q - a.u)) rfl rfl ⟨by omega,by omega⟩<|X5 (a:=a.x) (b:=v.a - (min v.a (a.q - a.u))) rfl rfl ⟨by omega,by omega⟩<|Vw (a:=⟨pi,0,none⟩) rfl<|ZC (b:=pi) (o:=0) rfl<|Zbm (b:=pi) (o:=3) rfl rfl spi (by omega) rfl rfl (by simp) ?_
 intro H5 kH5 nH5 sH5
 have mH5:=kH5.1
 have hk:=(show Keep H H5 [pi] from by first | exact hk.trans kH5 | exact hk.trans (kH5.mono (by simp)) | exact hk.new kH5 (fun b hb=>by simp at hb ⊢;omega))
 have hmq:=kH5.mqa hmq (by simp;omega)
 have c1:=kH5.cl c1 (by first | (simp;done) | (simp;omega))
 have spi:Sc H5 pi [iv a.g,iv a.q,iv (a.u+(min v.a (a.q - a.u))),iv (a.x+(v.a - (min v.a (a.q - a.u))))]:=sH5
 have ca:=spi.cl
 refine ZJ (by repeat' first | exact True.intro | exact (fun h=>h) | refine And.intro ?_ ?_ | (intro h;have h:(_:Nat)=_:=h;omega)) ?_
 have hset:=hB.set hi (epi ▸ hk) (a:=⟨a.g,a.q,a.u+(min v.a (a.q - a.u)),a.x+(v.a - (min v.a (a.q - a.u)))⟩) (by rw [← epi];exact spi) (by rw [← ea])
 exact And.intro trivial (Exists.intro _ (And.intro rfl ⟨rfl,by rw [← ea];exact hset,epi ▸ hk⟩))
end
end
end Go.Ax

/-
 Pool: a quota leased (69) (written by program).
-/
namespace Go.Ax
open Go Go.RowKit Go.Proofs

noncomputable section
theorem Zgt:Try.prog.underlying 91=some (.pointer 47):=by kernel_rfl
theorem Zeh {lo n:Nat} {H:Hp} {S:Rg} {x y:Operand} {d:Option Tmp} {ty:TypeId} {s:String} {p q:Nat} {cs ds:List Value} (hx:evS S x=some (.pointer (some ⟨p,0,none⟩))) (hy:evS S y=some (.pointer (some ⟨q,0,none⟩))) (hp:Sc H p cs) (hq:Sc H q ds) :
  Zv Try.prog lo (frS n S) H ⟨d,.binOp .eql 91 x y 91,ty,s,#[],none⟩=some (.val (.bool (Nat.beq p q)) H,.heavy):=by
 obtain ⟨_,e1,g1⟩:=hp
 obtain ⟨_,e2,g2⟩:=hq
 obtain ⟨i,hi,hs⟩:=ZjT
 have hz:Nat.beq i.size 0=false:=by rw [hs];rfl
 have key:zK Try.prog H 91 (.pointer (some ⟨p,0,none⟩)) (.pointer (some ⟨q,0,none⟩))=some (Nat.beq p q):=by
  unfold zK
  simp only [Zgt,hi,g1,g2,hz,cond_false]
 unfold Zv
 simp only [Yo,hx,hy,key]
theorem Zc9 {n:Nat} {S:Rg} {x y:Operand} {d:Option Tmp} {ty:TypeId} {s:String} {p q:Nat} (hx:evS S x=some (.pointer (some ⟨p,0,none⟩))) (hy:evS S y=some (.pointer (some ⟨q,0,none⟩))):Zn Try.prog (frS n S) ⟨d,.binOp .eql 91 x y 91,ty,s,#[],none⟩=none:=by
 have hd:VD Try.prog 91 (.pointer (some ⟨p,0,none⟩)) (.pointer (some ⟨q,0,none⟩))=false:=by
  unfold VD
  simp only [Zgt]
 unfold Zn
 simp only [Yo,hx,hy,show Z0 (.pointer (some ⟨p,0,none⟩))=false from rfl,Bool.false_and,cond_false,hd]
section
variable {kn:Kn} {lo:Nat} {H:Hp}
set_option maxRecDepth 100000 in
theorem ZdV {f mb c:Nat} {L:ML Int} {Pp:Nat→Nat} {al:List Ac} (hB:Bok lo f mb L c Pp al H) {v:Ev} {i:Nat} (hi:i < al.length) (hx:(al.getD i Ac.z).g=v.g) {Bd:Int} (hac:Ur Bd (al.getD i Ac.z)) (hBd:Bd≤329853488332800) (hv1:1≤v.a) (hv2:v.a≤1099511627776) (hlo:lo≤H.next) (hs:¬ (al.getD i Ac.z).q - (al.getD i Ac.z).u < v.a) {j:Nat} (hj:j < al.length) (hy:(al.getD j Ac.z).g=v.t) (hbc:Ur Bd (al.getD j Ac.z)) (hij:i≠j):∃ H',FnX Try.prog kn lo 69 [.map (some mb),.agg (Ev.f v).toArray] H (.tuple #[]) H'∧Bok lo f mb L c Pp ((al.set i ⟨(al.getD i Ac.z).g,(al.getD i Ac.z).q - v.a,(al.getD i Ac.z).u,(al.getD i Ac.z).x⟩).set j ⟨(al.getD j Ac.z).g,(al.getD j Ac.z).q+v.a,(al.getD j Ac.z).u,(al.getD j Ac.z).x⟩) H'∧Keep H H' [Pp i,Pp j]:=by
 have key:=Zs (kn:=kn) (lo:=lo) (H:=H) (args:=[.map (some mb),.agg (Ev.f v).toArray]) (Q:=fun w H'=>w=.tuple #[]∧Bok lo f mb L c Pp ((al.set i ⟨(al.getD i Ac.z).g,(al.getD i Ac.z).q - v.a,(al.getD i Ac.z).u,(al.getD i Ac.z).x⟩).set j ⟨(al.getD j Ac.z).g,(al.getD j Ac.z).q+v.a,(al.getD j Ac.z).u,(al.getD j Ac.z).x⟩) H'∧Keep H H' [Pp i,Pp j]) Try.func69 B69 N69 Z69 L69 (by simp) ?_
 ·obtain ⟨w,H',h,rfl,q⟩:=key;exact ⟨H',h,q⟩
 obtain ⟨a,ea⟩:∃ a,a=al.getD i Ac.z:=⟨_,rfl⟩
 obtain ⟨pi,epi⟩:∃ pi,pi=Pp i:=⟨_,rfl⟩
 have hval:=hB.val i hi
 rw [hx,← epi] at hval
 have spi:Sc H pi [iv a.g,iv a.q,iv a.u,iv a.x]:=by rw [epi,ea];exact hB.cl i hi
 have ca:=spi.cl
 have hlw:=hB.lw i hi
 rw [← epi] at hlw
 have hmq:=hB.mq
 have lmb:=hmq.1
 have lpi:=ca.1
 rw [← ea] at hac
 obtain ⟨ha1,ha2,ha3,ha4,ha5⟩:=id hac
 obtain ⟨b,eb⟩:∃ b,b=al.getD j Ac.z:=⟨_,rfl⟩
 obtain ⟨pj,epj⟩:∃ pj,pj=Pp j:=⟨_,rfl⟩
 have hval2:=hB.val j hj
 rw [hy,← epj] at hval2
 have spj:Sc H pj [iv b.g,iv b.q,iv b.u,iv b.x]:=by rw [epj,eb];exact hB.cl j hj
 have cb:=spj.cl
 have hlw2:=hB.lw j hj
 rw [← epj] at hlw2
 have lpj:=cb.1
 rw [← eb] at hbc
 obtain ⟨hb1,hb2,hb3,hb4,hb5⟩:=id hbc
 have hpq:pi≠pj:=fun z=>hij (hB.inj i j hi hj (by rw [← epi,← epj];exact z))
 have hbq:Nat.beq pi pj=false:=by
  cases hb:Nat.beq pi pj with
  | false=>rfl
  | true=>exact absurd (Nat.eq_of_beq_eq_true hb) hpq
 rw [← ea] at hs
 have hk:=Keep.refl H [pi,pj]
 have kb:=Keep.refl H []
 refine Zc<|Y5 (v:=.agg (Ev.f v).toArray) rfl ?_
 intro H1 kH1 nH1 c1
 have c1:Cl H1 H.next [iv v.k,iv v.g,iv v.t,iv v.a]:=c1
 have mH1:=kH1.1
 have hk:=(show Keep H H1 [pi,pj] from hk.trans (kH1.mono (by simp)))
 have hmq:=kH1.mqa hmq (by simp)
 have spi:=kH1.sc spi (by simp)
 have ca:=kH1.cl ca (by simp)
 have spj:=kH1.sc spj (by simp)
 have cb:=kH1.cl cb (by simp)
 have kb:=kb.trans kH1
 refine Zb<|Y0<|Ze rfl<|ZC (b:=H.next) (o:=0) rfl<|ZD (b:=H.next) (o:=1) (v:=iv v.g) rfl c1.rd rfl ?_
 obtain ⟨H2,fH2,kH2⟩:=ZdC (kn:=kn) (lo:=H1.next) (H:=H1) hmq hval
 refine WO (vs:=[.map (some mb),iv v.g]) rfl rfl (Zi fH2) ?_
 have mH2:=kH2.1
 have hk:=(show Keep H H2 [pi,pj] from hk.trans (kH2.mono (by simp)))
 have hmq:=kH2.mqa hmq (by simp)
 have spi:=kH2.sc spi (by simp)
 have ca:=kH2.cl ca (by simp)
 have spj:=kH2.sc spj (by simp)
 have cb:=kH2.cl cb (by simp)
 have kb:=kb.trans kH2
 have c1:=kH2.cl c1 (by simp)
 refine Ze rfl<|ZC (b:=H.next) (o:=0) rfl<|ZD (b:=H.next) (o:=2) (v:=iv v.t) rfl c1.rd rfl ?_
 obtain ⟨H3,fH3,kH3⟩:=ZdC (kn:=kn) (lo:=lo) (H:=H2) hmq hval2
 refine Yy (vs:=[.map (some mb),iv v.t]) rfl (Zi fH3) ?_
 have mH3:=kH3.1
 have hk:=(show Keep H H3 [pi,pj] from hk.trans (kH3.mono (by simp)))
 have hmq:=kH3.mqa hmq (by simp)
 have spi:=kH3.sc spi (by simp)
 have ca:=kH3.cl ca (by simp)
 have spj:=kH3.sc spj (by simp)
 have cb:=kH3.cl cb (by simp)
 have kb:=kb.trans kH3
 have c1:=kH3.cl c1 (by simp)
 refine Ze rfl<|Ze rfl ?_
 refine ZJ (by repeat' first | exact True.intro | exact (fun h=>h) | refine And.intro ?_ ?_ | (intro h;have h:(_:Nat)=_:=h;omega)) ?_
 refine Zc<|Za rfl<|Za rfl<|X0 (v:=.bool (Nat.beq pi pj)) (H':=H3) (k:=.heavy) (yd rfl rfl) (Zc9 rfl rfl) (Zeh rfl rfl spi spj) (fun q e=>by cases e) ?_
 rw [show Nat.beq pi pj=false from hbq]
 refine Zb<|ZQ ?_
 first | refine Zl ?_ | skip
 refine Y0<|Ze rfl ?_
 obtain ⟨H4,fH4,kH4⟩:=Zbo (kn:=kn) (lo:=H3.next) (H:=H3) ca hac hBd
 refine WO (vs:=[.pointer (some ⟨pi,0,none⟩)]) rfl rfl (Zi fH4) ?_
 have mH4:=kH4.1
 have hk:=(show Keep H H4 [pi,pj] from hk.trans (kH4.mono (by simp)))
 have hmq:=kH4.mqa hmq (by simp)
 have spi:=kH4.sc spi (by simp)
 have ca:=kH4.cl ca (by simp)
 have spj:=kH4.sc spj (by simp)
 have cb:=kH4.cl cb (by simp)
 have kb:=kb.trans kH4
 have c1:=kH4.cl c1 (by simp)
 refine ZC (b:=H.next) (o:=0) rfl<|ZD (b:=H.next) (o:=3) (v:=iv v.a) rfl c1.rd rfl<|W8 (a:=(a.q - a.u)) (b:=v.a) rfl rfl ?_
 refine ZJ (by repeat' first | exact True.intro | exact (fun h=>h) | refine And.intro ?_ ?_ | (intro h;have h:(_:Nat)=_:=h;omega)) ?_
 refine And.intro (fun q1=>?_) (fun q1=>?_)
 ·have q1:(a.q - a.u) < v.a:=of_decide_eq_true q1
  exfalso;omega
 ·have q1:¬ ((a.q - a.u) < v.a):=of_decide_eq_false q1
  first | refine Zl ?_ | skip
  refine Y0<|Ze rfl<|Vw (a:=⟨pi,0,none⟩) rfl<|ZC (b:=pi) (o:=0) rfl<|ZD (b:=pi) (o:=1) (v:=iv a.q) rfl ca.rd rfl<|ZC (b:=H.next) (o:=0) rfl<|ZD (b:=H.next) (o:=3) (v:=iv v.a) rfl c1.rd rfl<|Xd (a:=a.q) (b:=v.a) rfl rfl ⟨by omega,by omega⟩<|Vw (a:=⟨pi,0,none⟩) rfl<|ZC (b:=pi) (o:=0) rfl ?_
  have hBk:=hB.keep kb
  refine Zbm (b:=pi) (o:=1) rfl rfl spi (by omega) rfl rfl (by simp) ?_
  intro H5 kH5 nH5 sH5
  have mH5:=kH5.1
  have hk:=(show Keep H H5 [pi,pj] from by first | exact hk.trans kH5 | exact hk.trans (kH5.mono (by simp)) | exact hk.new kH5 (fun b hb=>by simp at hb ⊢;omega))
  have hmq:=kH5.mqa hmq (by simp;omega)
  have spj:=kH5.sc spj (by simp;omega)
  have cb:=kH5.cl cb (by first | (simp;done) | (simp;omega))
  have c1:=kH5.cl c1 (by first | (simp;done) | (simp;omega))
  have spi:Sc H5 pi [iv a.g,iv (a.q - v.a),iv a.u,iv a.x]:=sH5
  have ca:=spi.cl
  have hB1:=hBk.set hi (epi ▸ kH5) (a:=⟨a.g,a.q - v.a,a.u,a.x⟩) (by rw [← epi];exact spi) (by rw [← ea])
  have kx:=Keep.refl H5 []
  refine ZJ (by repeat' first | exact True.intro | exact (fun h=>h) | refine And.intro ?_ ?_ | (intro h;have h:(_:Nat)=_:=h;omega)) ?_
  first | refine Yc ?_ | (refine YV ?_;refine Yc ?_)
  refine Ze rfl<|Vw (a:=⟨pj,0,none⟩) rfl<|ZC (b:=pj) (o:=0) rfl<|ZD (b:=pj) (o:=1) (v:=iv b.q) rfl cb.rd rfl<|ZC (b:=H.next) (o:=0) rfl<|ZD (b:=H.next) (o:=3) (v:=iv v.a) rfl c1.rd rfl<|X5 (a:=b.q) (b:=v.a) rfl rfl ⟨by omega,by omega⟩<|Vw (a:=⟨pj,0,none⟩) rfl<|ZC (b:=pj) (o:=0) rfl<|Zbm (b:=pj) (o:=1) rfl rfl spj (by omega) rfl rfl (by simp) ?_
  intro H6 kH6 nH6 sH6
  have mH6:=kH6.1
  have hk:=(show Keep H H6 [pi,pj] from by first | exact hk.trans kH6 | exact hk.trans (kH6.mono (by simp)) | exact hk.new kH6 (fun b hb=>by simp at hb ⊢;omega))
  have hmq:=kH6.mqa hmq (by simp;omega)
  have c1:=kH6.cl c1 (by first | (simp;done) | (simp;omega))
  have spi:=kH6.sc spi (by simp;omega)
  have ca:=kH6.cl ca (by first | (simp;done) | (simp;omega))
  have spj:Sc H6 pj [iv b.g,iv (b.q+v.a),iv b.u,iv b.x]:=sH6
  have cb:=spj.cl
  have hfin:=(hB1.keep kx).set (by rw [List.length_set];exact hj) (epj ▸ kH6) (a:=⟨b.g,b.q+v.a,b.u,b.x⟩) (by rw [← epj];exact spj) (by rw [Vp hij,← eb])
  rw [ea,eb] at hfin
  refine ZJ (by repeat' first | exact True.intro | exact (fun h=>h) | refine And.intro ?_ ?_ | (intro h;have h:(_:Nat)=_:=h;omega)) ?_
  exact And.intro trivial (Exists.intro _ (And.intro rfl ⟨rfl,hfin,epi ▸ epj ▸ hk⟩))
end
end
end Go.Ax

/-
 Pool: what happens (55) (written by program).
-/
namespace Go.Ax
open Go Go.RowKit Go.Proofs

noncomputable section
def YT (Pp:Nat→Nat) (n:Nat) (H H':Hp):Prop:=∃ l,Keep H H' l∧∀ b∈l,∃ i,i < n∧b=Pp i
theorem YT.of {Pp:Nat→Nat} {n:Nat} {H H':Hp} (k:Keep H H' []):YT Pp n H H':=⟨[],k,fun b h=>by cases h⟩
theorem YT.trans {Pp:Nat→Nat} {n:Nat} {H H1 H2:Hp} (h:YT Pp n H H1) (k:YT Pp n H1 H2):YT Pp n H H2:=by
 obtain ⟨l,h1,h2⟩:=h
 obtain ⟨m,k1,k2⟩:=k
 refine ⟨l ++ m,(h1.mono (fun x hx=>by simp [hx])).trans (k1.mono (fun x hx=>by simp [hx])),fun b hb=>?_⟩
 rcases List.mem_append.1 hb with q | q
 ·exact h2 b q
 ·exact k2 b q
theorem YT.cl {Pp:Nat→Nat} {n:Nat} {H H1:Hp} (h:YT Pp n H H1) {b:Nat} {cs:List Value} (c:Cl H b cs) (hb:∀ i,i < n→Pp i≠b):Cl H1 b cs:=by
 obtain ⟨l,h1,h2⟩:=h
 exact h1.cl c fun q=>by obtain ⟨i,hi,e⟩:=h2 b q;exact hb i hi e.symm
theorem YT.le {Pp:Nat→Nat} {n:Nat} {H H1:Hp} (h:YT Pp n H H1):H.next≤H1.next:=by obtain ⟨l,h1,_⟩:=h;exact h1.1
theorem YT.sl {Pp:Nat→Nat} {n:Nat} {H H1:Hp} (h:YT Pp n H H1) {a:Option Addr} {m cap:Nat} {cs:List Value} (c:Sl H a m cap cs) (hb:∀ b,a=some ⟨b,0,none⟩→∀ i,i < n→Pp i≠b):Sl H1 a m cap cs:=by
 obtain ⟨l,h1,h2⟩:=h
 exact h1.sl c fun b e q=>by obtain ⟨i,hi,e2⟩:=h2 b q;exact hb b e i hi e2.symm
theorem YT.keep {Pp:Nat→Nat} {n:Nat} {H0 H H1:Hp} (h:YT Pp n H H1) (k:Keep H0 H []) (hb:∀ i,i < n→H0.next≤Pp i):Keep H0 H1 []:=by
 obtain ⟨l,h1,h2⟩:=h
 exact k.new h1 fun b q=>by obtain ⟨i,hi,e⟩:=h2 b q;have:=hb i hi;right;omega
section
variable {kn:Kn} {lo:Nat} {H:Hp}
set_option maxRecDepth 100000 in
theorem Zfq {f mb c:Nat} {L:ML Int} {Pp:Nat→Nat} {al':List Ac} {v:Ev} (hok:okE v=true) (hvk:v.k=((0:Nat):Int)) (hlo:lo≤H.next) {m:Nat}
  (hcall:∀ H1,Keep H H1 []→∃ H2,FnX Try.prog kn lo 68 [.map (some mb),.agg (Ev.f v).toArray] H1 (.tuple #[]) H2∧Bok lo f mb L c Pp al' H2∧YT Pp m H1 H2) :
  ∃ H',FnX Try.prog kn lo 55 [.map (some mb),.agg (Ev.f v).toArray] H (.tuple #[]) H'∧Bok lo f mb L c Pp al' H'∧YT Pp m H H':=by
 have key:=Zs (kn:=kn) (lo:=lo) (H:=H) (args:=[.map (some mb),.agg (Ev.f v).toArray]) (Q:=fun w H'=>w=.tuple #[]∧Bok lo f mb L c Pp al' H'∧YT Pp m H H') Try.func55 B55 N55 Z55 L55 (by simp) ?_
 ·obtain ⟨w,H',h,rfl,q⟩:=key;exact ⟨H',h,q⟩
 have hk:=Keep.refl H []
 refine Zc<|Y5 (v:=.agg (Ev.f v).toArray) rfl ?_
 intro H1 kH1 nH1 c1
 have c1:Cl H1 H.next [iv v.k,iv v.g,iv v.t,iv v.a]:=c1
 have mH1:=kH1.1
 have hk:=hk.trans kH1
 refine Zb<|Zc<|Wo (b:=H.next) (o:=0) rfl c1.rd (show row 4 _ _=some [iv v.k,iv v.g,iv v.t,iv v.a] from rfl) ?_
 obtain ⟨H2,fH2,kH2⟩:=Zb3 (kn:=kn) (lo:=lo) (H:=H1) (e:=v) (by omega)
 rw [hok] at fH2
 refine Zx (v:=.bool false) (vs:=[.agg (Ev.f v).toArray]) rfl (Zi fH2) ?_
 have mH2:=kH2.1
 have hk:=hk.trans kH2
 have c1:=kH2.cl c1 (by simp)
 refine Zb<|ZQ ?_
 first | refine Zl ?_ | skip
 refine Zc<|Za rfl<|Zg (v:=.func (.func 68) #[.map (some mb)] #[]) rfl (by kernel_rfl)<|Za rfl<|Zg (v:=.func (.func 69) #[.map (some mb)] #[]) rfl (by kernel_rfl)<|Zg (v:=.agg #[.func (.func 68) #[.map (some mb)] #[],.func (.func 69) #[.map (some mb)] #[]]) rfl (by kernel_rfl)<|WQ ?_
 intro H3 kH3 nH3 c3
 have c3:Cl H3 H2.next [.nilFunc,.nilFunc]:=c3
 have mH3:=kH3.1
 have hk:=hk.trans kH3
 have c1:=kH3.cl c1 (by simp)
 refine Vc (b:=H2.next) (o:=0) rfl rfl c3 (by omega) rfl rfl (by simp) ?_
 intro H4 kH4 nH4 sH4
 have mH4:=kH4.1
 have hk:=hk.new kH4 (fun b hb=>by simp at hb ⊢;omega)
 have c1:=kH4.cl c1 (by first | (simp;done) | (simp;omega))
 have c3:Cl H4 H2.next [.func (.func 68) #[.map (some mb)] #[],.func (.func 69) #[.map (some mb)] #[]]:=sH4
 refine Zb ?_
 first | refine Yc ?_ | (refine YV ?_;refine Yc ?_)
 refine ZC (b:=H.next) (o:=0) rfl<|ZD (b:=H.next) (o:=0) (v:=iv v.k) rfl c1.rd rfl<|ZbT (b:=H2.next) (o:=0) (k:=0) (j:=v.k) rfl rfl hvk (by decide)<|ZD (b:=H2.next) (o:=0) (v:=.func (.func 68) #[.map (some mb)] #[]) rfl c3.rd rfl<|YF (b:=H.next) (o:=0) rfl c1.rd (show row 4 _ _=some [iv v.k,iv v.g,iv v.t,iv v.a] from rfl) ?_
 obtain ⟨H5,fH5,hb2,kp2⟩:=hcall H4 hk
 refine Yy (vs:=[.map (some mb),.agg (Ev.f v).toArray]) rfl (Zi fH5) ?_
 have mx:=kp2.le
 refine ZJ (by repeat' first | exact True.intro | exact (fun h=>h) | refine And.intro ?_ ?_ | (intro h;have h:(_:Nat)=_:=h;omega)) ?_
 exact And.intro trivial (Exists.intro _ (And.intro rfl ⟨rfl,hb2,(YT.of hk).trans kp2⟩))
set_option maxRecDepth 100000 in
theorem ZfJ {f mb c:Nat} {L:ML Int} {Pp:Nat→Nat} {al':List Ac} {v:Ev} (hok:okE v=true) (hvk:v.k=((1:Nat):Int)) (hlo:lo≤H.next) {m:Nat}
  (hcall:∀ H1,Keep H H1 []→∃ H2,FnX Try.prog kn lo 69 [.map (some mb),.agg (Ev.f v).toArray] H1 (.tuple #[]) H2∧Bok lo f mb L c Pp al' H2∧YT Pp m H1 H2) :
  ∃ H',FnX Try.prog kn lo 55 [.map (some mb),.agg (Ev.f v).toArray] H (.tuple #[]) H'∧Bok lo f mb L c Pp al' H'∧YT Pp m H H':=by
 have key:=Zs (kn:=kn) (lo:=lo) (H:=H) (args:=[.map (some mb),.agg (Ev.f v).toArray]) (Q:=fun w H'=>w=.tuple #[]∧Bok lo f mb L c Pp al' H'∧YT Pp m H H') Try.func55 B55 N55 Z55 L55 (by simp) ?_
 ·obtain ⟨w,H',h,rfl,q⟩:=key;exact ⟨H',h,q⟩
 have hk:=Keep.refl H []
 refine Zc<|Y5 (v:=.agg (Ev.f v).toArray) rfl ?_
 intro H1 kH1 nH1 c1
 have c1:Cl H1 H.next [iv v.k,iv v.g,iv v.t,iv v.a]:=c1
 have mH1:=kH1.1
 have hk:=hk.trans kH1
 refine Zb<|Zc<|Wo (b:=H.next) (o:=0) rfl c1.rd (show row 4 _ _=some [iv v.k,iv v.g,iv v.t,iv v.a] from rfl) ?_
 obtain ⟨H2,fH2,kH2⟩:=Zb3 (kn:=kn) (lo:=lo) (H:=H1) (e:=v) (by omega)
 rw [hok] at fH2
 refine Zx (v:=.bool false) (vs:=[.agg (Ev.f v).toArray]) rfl (Zi fH2) ?_
 have mH2:=kH2.1
 have hk:=hk.trans kH2
 have c1:=kH2.cl c1 (by simp)
 refine Zb<|ZQ ?_
 first | refine Zl ?_ | skip
 refine Zc<|Za rfl<|Zg (v:=.func (.func 68) #[.map (some mb)] #[]) rfl (by kernel_rfl)<|Za rfl<|Zg (v:=.func (.func 69) #[.map (some mb)] #[]) rfl (by kernel_rfl)<|Zg (v:=.agg #[.func (.func 68) #[.map (some mb)] #[],.func (.func 69) #[.map (some mb)] #[]]) rfl (by kernel_rfl)<|WQ ?_
 intro H3 kH3 nH3 c3
 have c3:Cl H3 H2.next [.nilFunc,.nilFunc]:=c3
 have mH3:=kH3.1
 have hk:=hk.trans kH3
 have c1:=kH3.cl c1 (by simp)
 refine Vc (b:=H2.next) (o:=0) rfl rfl c3 (by omega) rfl rfl (by simp) ?_
 intro H4 kH4 nH4 sH4
 have mH4:=kH4.1
 have hk:=hk.new kH4 (fun b hb=>by simp at hb ⊢;omega)
 have c1:=kH4.cl c1 (by first | (simp;done) | (simp;omega))
 have c3:Cl H4 H2.next [.func (.func 68) #[.map (some mb)] #[],.func (.func 69) #[.map (some mb)] #[]]:=sH4
 refine Zb ?_
 first | refine Yc ?_ | (refine YV ?_;refine Yc ?_)
 refine ZC (b:=H.next) (o:=0) rfl<|ZD (b:=H.next) (o:=0) (v:=iv v.k) rfl c1.rd rfl<|ZbT (b:=H2.next) (o:=0) (k:=1) (j:=v.k) rfl rfl hvk (by decide)<|ZD (b:=H2.next) (o:=1) (v:=.func (.func 69) #[.map (some mb)] #[]) rfl c3.rd rfl<|YF (b:=H.next) (o:=0) rfl c1.rd (show row 4 _ _=some [iv v.k,iv v.g,iv v.t,iv v.a] from rfl) ?_
 obtain ⟨H5,fH5,hb2,kp2⟩:=hcall H4 hk
 refine Yy (vs:=[.map (some mb),.agg (Ev.f v).toArray]) rfl (Zi fH5) ?_
 have mx:=kp2.le
 refine ZJ (by repeat' first | exact True.intro | exact (fun h=>h) | refine And.intro ?_ ?_ | (intro h;have h:(_:Nat)=_:=h;omega)) ?_
 exact And.intro trivial (Exists.intro _ (And.intro rfl ⟨rfl,hb2,(YT.of hk).trans kp2⟩))
theorem Zcr {f mb c:Nat} {L:ML Int} {Pp:Nat→Nat} {al:List Ac} (hB:Bok lo f mb L c Pp al H) {v:Ev} {Bd:Int} (hac:∀ a∈al,Ur Bd a) (hBd:Bd≤329853488332800) (hlo:lo≤H.next) (h0:(stp al v).2=0) :
  ∃ H',FnX Try.prog kn lo 55 [.map (some mb),.agg (Ev.f v).toArray] H (.tuple #[]) H'∧Bok lo f mb L c Pp (stp al v).1 H'∧YT Pp al.length H H':=by
 cases he:okE v with
 | false=>rw [qM he] at h0;cases h0
 | true=>
  have ht:=Zgb he
  cases h1:fI al v.g with
  | none=>rw [zD he h1] at h0;cases h0
  | some i=>
   obtain ⟨hi,hx⟩:=KL h1
   have ai:=Xz (z:=Ac.z) hac hi
   by_cases hk0:v.k=0
   ·rw [J2 he h1 hk0]
    refine Zfq he hk0 hlo fun H1 k1=>?_
    obtain ⟨H2,f2,b2,k2⟩:=Zee (kn:=kn) (lo:=lo) (H:=H1) (hB.keep k1) hi hx ai hBd ht.2.2.2.1 ht.2.2.2.2 (by have:=k1.1;omega)
    exact ⟨H2,f2,b2,[Pp i],k2,fun b hb=>⟨i,hi,by simpa using hb⟩⟩
   ·cases h2:fI al v.t with
    | none=>rw [JD he h1 hk0 h2] at h0;cases h0
    | some j=>
     obtain ⟨hj,hy⟩:=KL h2
     have aj:=Xz (z:=Ac.z) hac hj
     by_cases hij:i=j
     ·subst hij;rw [JP he h1 hk0 h2] at h0;cases h0
     ·by_cases hs:(al.getD i Ac.z).q - (al.getD i Ac.z).u < v.a
      ·rw [JK he h1 hk0 h2 hij hs] at h0;cases h0
      ·rw [J3 he h1 hk0 h2 hij hs]
       have hk1:v.k=((1:Nat):Int):=by rcases ht.1 with z | z;exact absurd z hk0;exact z.1
       refine ZfJ he hk1 hlo fun H1 k1=>?_
       obtain ⟨H2,f2,b2,k2⟩:=ZdV (kn:=kn) (lo:=lo) (H:=H1) (hB.keep k1) hi hx ai hBd ht.2.2.2.1 ht.2.2.2.2 (by have:=k1.1;omega) hs hj hy aj hij
       exact ⟨H2,f2,b2,[Pp i,Pp j],k2,fun b hb=>by
        simp at hb
        rcases hb with e | e
        ·exact ⟨i,hi,e⟩
        ·exact ⟨j,hj,e⟩⟩
end
end
end Go.Ax

/-
 Pool: events are played (34,54) (written by program).
-/
namespace Go.Ax
open Go Go.RowKit Go.Proofs

noncomputable section
theorem N34:Try.f34.ntmps=22:=by kernel_rfl
theorem Z34:Try.f34.results.toList=((List.toArray [(.tmp 4),(.cell 5 28)]):Array ResultVar).toList:=by kernel_rfl
theorem B34:Try.f34.body=some (at_ Try.f34 []):=by kernel_rfl
def R34x1:RC:=(.seq (.seq (.reg [oM 9 1,oW 10 9,oN 11 0])
 (.block 0 (.other (at_ Try.f34 [1,1,0,1,0]))))
 (.seq (.reg [oM 21 4,oM 4 21,⟨none,none,(.st (.tmp 5) (.const (.int .i64 0)))⟩])
 .ret))
theorem Zjz:low Try.prog 22 (at_ Try.f34 [1,1])=some R34x1:=by kernel_rfl
theorem ZhP:at_ Try.f34 [1,1,0,1,0]=.loop (at_ Try.f34 [1,1,0,1,0,0]):=by kernel_rfl
def R34x2:RC:=(.seq (.reg [⟨some 12,none,(.cmp .lss (.tmp 11) (.tmp 10))⟩])
 (.seq (.cond (.tmp 12) .skip
 (.exit 0))
 (.seq (.block 1 (.seq (.reg [oI 13 9 11 4,oD 14 13 4,⟨some 7,none,(.alc 49 [(.int .i64 0),(.int .i64 0),(.int .i64 0),(.int .i64 0)])⟩,⟨none,none,(.sta (.tmp 7) (.tmp 14) 4)⟩])
 (.seq (.reg [oM 15 0,oD 16 7 4,oC 17 55 #[(.tmp 15),(.tmp 16)] #[69,49]])
 (.reg [oM 18 4,oR 19 .add 18 1,oM 4 19]))))
 (.reg [oR 20 .add 11 1,oM 11 20]))))
theorem ZiT:low Try.prog Try.f34.ntmps (at_ Try.f34 [1,1,0,1,0,0])=some R34x2:=by kernel_rfl
theorem Zkv:at_ Try.f34 []=.seq (at_ Try.f34 [0]) (at_ Try.f34 [1]):=by kernel_rfl
theorem Zkb:at_ Try.f34 [1]=.seq (at_ Try.f34 [1,0]) (at_ Try.f34 [1,1]):=by kernel_rfl
theorem ZjV:at_ Try.f34 [0]=.region 0 (Ul (at_ Try.f34 [0])) false:=by kernel_rfl
theorem Zj5:QA Try.prog 22 (Ul (at_ Try.f34 [0])).toList (Ul (at_ Try.f34 [0])).toList=some [(.ro ⟨(some 4),none,(.mov (.const (.int .i64 0)))⟩),(.ro ⟨(some 5),none,(.alc 28 [(.int .i64 0)])⟩)]:=by kernel_rfl
theorem Zku:at_ Try.f34 [1,0]=.region 1 (Ul (at_ Try.f34 [1,0])) false:=by kernel_rfl
theorem Zj7 : QA Try.prog 22 (Ul (at_ Try.f34 [1, 0])).toList (Ul (at_ Try.f34 [1, 0])).toList = some [(.ro ⟨(some 8), none, (.pur ⟨(some 8), (.makeFunc (.func 54) (List.toArray []) (List.toArray [(.tmp 5)])), 1, "", (List.toArray []), none⟩)⟩), (.dfr none ⟨(.value (.tmp 8)), (List.toArray []), (List.toArray [])⟩)] := by kernel_rfl
theorem ZjR:at_ Try.f54 []=.seq (at_ Try.f54 [0]) (at_ Try.f54 [1]):=by kernel_rfl
theorem Zkt:at_ Try.f54 [1]=.seq (at_ Try.f54 [1,0]) (at_ Try.f54 [1,1]):=by kernel_rfl
theorem C54:at_ Try.f54 [1,1]=.cond (.tmp 8) (at_ Try.f54 [1,1,0]) (at_ Try.f54 [1,1,1]):=by kernel_rfl
theorem K54:at_ Try.f54 [1,1,1]=.skip:=by kernel_rfl
theorem Zkl:at_ Try.f54 [0]=.region 0 (Ul (at_ Try.f54 [0])) false:=by kernel_rfl
theorem Zkd : Qq Try.prog 10 (Ul (at_ Try.f54 [0])).toList (Ul (at_ Try.f54 [0])).toList = some [(.rcv (some 4)), (.ro ⟨(some 5), none, (.pur ⟨(some 5), (.typeAssert (.tmp 4) 20 28 true), 92, "", (List.toArray []), none⟩)⟩), (.ro ⟨(some 3), none, (.mov (.tmp 5))⟩), (.ro ⟨(some 6), none, (.pur ⟨(some 6), (.extract (.tmp 3) 0), 28, "", (List.toArray []), none⟩)⟩), (.ro ⟨(some 7), none, (.pur ⟨(some 7), (.extract (.tmp 3) 1), 4, "", (List.toArray []), none⟩)⟩), (.ro ⟨(some 1), none, (.mov (.tmp 6))⟩), (.ro ⟨(some 2), none, (.mov (.tmp 7))⟩)] := by kernel_rfl
theorem ZkA:at_ Try.f54 [1,0]=.region 1 (Ul (at_ Try.f54 [1,0])) false:=by kernel_rfl
theorem ZjY:Qq Try.prog 10 (Ul (at_ Try.f54 [1,0])).toList (Ul (at_ Try.f54 [1,0])).toList=some [(.ro ⟨(some 8),none,(.mov (.tmp 2))⟩)]:=by kernel_rfl
theorem a28:Wj Try.prog 28=some false:=by kernel_rfl
theorem Zhq {P:Program} {S:Rg} {H:Hp} {a b y:Nat} {u:TypeId} {w v:Value} (ha:lk S a=some w) (hb:lk S b=some (.pointer (some ⟨y,0,none⟩))) (h2:Wj P u=some false) (h':Cl H y [v]) :
  Wt P S H [.tmp a,.cell b u]=some [w,v]:=by
 simp only [Wt,ha,hb,ZcO h2 h'.rd]
theorem ZgH {P:Program} {kn:Kn} {lo n:Nat} {rd:Bool} {r:List RP} {S:Rg} {H:Hp} {D:List Deferred} {d:Option Nat} {K:Exit→Rg→Hp→List Deferred→Prop} {e:TypeId} {z:List Value} (h:∀ H1,Keep H H1 []→H1.next=H.next+1→Cl H1 H.next z→Vv P kn lo n rd r (Zy S d (.pointer (some ⟨H.next,0,none⟩))) H1 D K):Vv P kn lo n rd (.ro ⟨d,none,.alc e z⟩ :: r) S H D K:=.inl (by
 simp only [wRO,wRI]
 intro H1 hH1
 obtain ⟨k1,n1,c1⟩:=ZO hH1
 exact h H1 k1 n1 c1)
theorem YT.new {Pp:Nat→Nat} {n b:Nat} {H H1 H2:Hp} (h:YT Pp n H H1) (k:Keep H1 H2 [b]) (hb:H.next≤b):YT Pp n H H2:=by
 obtain ⟨l,h1,h2⟩:=h
 exact ⟨l,h1.new k (fun x hx=>.inr (by simp at hx;omega)),h2⟩
section
variable {kn:Kn} {lo:Nat} {H:Hp}
theorem ZaT {b:Nat}:ZdE Try.prog kn lo 54 [.pointer (some ⟨b,0,none⟩)] H none none H:=by
 have key:∃ H',ZdE Try.prog kn lo 54 [.pointer (some ⟨b,0,none⟩)] H none none H'∧H'=H:=?_
 ·obtain ⟨H',h,rfl⟩:=key;exact h
 refine Zfj (P:=Try.prog) (kn:=kn) (lo:=lo) (args:=[.pointer (some ⟨b,0,none⟩)]) (H:=H) (p:=none) (p':=none) (Q:=fun H'=>H'=H) Try.func54 B54 (by rw [N54];simp) (by rw [Z54]) ?_
 rw [N54]
 refine Ue.seq ZjR (Ue.reg Zkl Zkd ?_)
 refine And.intro rfl (Exists.intro (.tuple #[iv 0,.bool false]) (And.intro (by kernel_rfl) ?_))
 refine And.intro rfl (Exists.intro (iv 0) (And.intro (by kernel_rfl) ?_))
 refine And.intro rfl (Exists.intro (.bool false) (And.intro (by kernel_rfl) ?_))
 refine Ue.seq Zkt (Ue.reg ZkA ZjY ?_)
 refine Ue.cond C54 (t:=false) rfl (fun e=>by cases e) (fun _=>Ue.skip K54 ?_)
 exact ⟨.inl rfl,rfl,rfl⟩
set_option maxRecDepth 100000 in
set_option maxHeartbeats 1000000 in
theorem ZfG {f mb c:Nat} {L:ML Int} {Pp:Nat→Nat} {al:List Ac} (hB:Bok lo f mb L c Pp al H) {vs:List Ev} {ea:Option Addr} {m ecap:Nat} (hs:Sl H ea m ecap (evc vs)) (hm:vs.length=m) (hm2:m≤256) (hal:∀ a∈al,Ur 1099511627776 a) (hok:∀ j,j < m→(stp (stA al vs j) (vs.getD j Ev.z)).2=0) {H0:Hp} (hF:H0.next≤H.next) (hP0':∀ i,i < al.length→H0.next≤Pp i) (hold:∀ b,ea=some ⟨b,0,none⟩→b < H0.next) (hlo:lo≤H0.next):∃ H',FnX Try.prog kn lo 34 [.map (some mb),.slice ea m ecap] H (.tuple #[iv m,iv 0]) H'∧Bok lo f mb L c Pp (stA al vs m) H'∧YT Pp al.length H H':=by
 have key:=Zaj (P:=Try.prog) (kn:=kn) (lo:=lo) (args:=[.map (some mb),.slice ea m ecap]) (H:=H) (Q:=fun w H'=>w=.tuple #[iv m,iv 0]∧Bok lo f mb L c Pp (stA al vs m) H'∧YT Pp al.length H H') Try.func34 B34 (by rw [N34];simp) ?_
 ·obtain ⟨w,H',h,rfl,q⟩:=key;exact ⟨H',h,q⟩
 rw [N34,Z34]
 have hup:∀ i,i < al.length→Pp i < H.next:=fun i hi=>(hB.cl i hi).1
 have hmb:=hB.mq.1
 have hlow:∀ i,i < al.length→H0.next≤Pp i:=hP0'
 have fs:∀ b,ea=some ⟨b,0,none⟩→b < H0.next:=hold
 refine V4.seqRR Zkv (jf ZjV Zj5 ?_)
 refine ZgY rfl (ZgH fun H1 k1 n1 c1=>?_)
 refine V4.seqRR Zkb (jf Zku Zj7 ?_)
 refine ZgU (v:=.func (.func 54) #[] #[.pointer (some ⟨H.next,0,none⟩)]) rfl (by kernel_rfl) ?_
 refine And.intro rfl ?_
 have hB:=hB.keep k1
 have hs:=k1.sl0 hs
 have ce:Cl H1 H.next [iv 0]:=c1
 have m1:=k1.1
 refine V4.of (Xh _ _ Zjz ?_)
 refine Zc<|Za rfl<|Yz (m:=m) rfl<|Za rfl<|Zb ?_
 refine ZA (fn:=Try.f34) ZhP N34 ZiT (fun i:Nat=>[(0,.map (some mb)),(4,iv (i:Int)),(5,pt H.next),(9,.slice ea m ecap),(10,iv (m:Int)),(11,iv (i:Int))])
  (fun k i H'=>i+k=m∧YT Pp al.length H1 H'∧Bok lo f mb L c Pp (stA al vs i) H'∧Cl H' H.next [iv 0]∧Sl H' ea m ecap (evc vs)) m 0 ⟨by omega,YT.of (Keep.refl _ _),hB,ce,hs⟩ ⟨rfl,rfl,rfl,rfl,rfl,rfl,trivial⟩ ?_
 rintro k i L1 ⟨hik,kp,hB,ce,hs⟩
 have mL:=kp.le;have kacc:=Keep.refl L1 []
 refine Zc<|ZM (a:=(i:Int)) (b:=(m:Int)) rfl rfl<|Zb ?_
 refine And.intro (fun q1=>?_) (fun q1=>?_)
 ·have q1:(i:Int) < (m:Int):=of_decide_eq_true q1
  have hi:i < m:=by omega
  rcases id hs with ⟨_,h0s,_⟩ | ⟨sb,es,rs,_⟩
  ·omega
  have ls:=rs.1
  have lsb2:=fs sb es
  first | refine Zl ?_ | skip
  refine Zc<|WP (b:=sb) (o:=0) (k:=i) (j:=(i:Int)) (by rw [← es];rfl) rfl rfl hi<|Wo (b:=sb) (o:=0+i * 4) rfl rs (Zdj (by omega))<|WQ ?_
  intro H2 kH2 nH2 c2
  have c2:Cl H2 L1.next [iv 0,iv 0,iv 0,iv 0]:=c2
  have mH2:=kH2.1
  have kacc:=kacc.trans kH2
  have ce:=kH2.cl ce (by simp)
  have hs:=kH2.sl0 hs
  have hB:=hB.keep kH2
  have rs:=kH2.rd rs (by simp)
  refine Vc (b:=L1.next) (o:=0) rfl rfl c2 (by omega) rfl rfl (by simp) ?_
  intro H3 kH3 nH3 sH3
  have mH3:=kH3.1
  have kacc:=kacc.new kH3 (fun b hb=>by simp at hb ⊢;omega)
  have ce:=kH3.cl ce (by first | (simp;done) | (simp;omega))
  have hs:=kH3.sl hs (fun b e=>by have:=fs b e;first | (simp;done) | (simp;omega))
  have hB:=hB.keepW kH3 (by omega) (fun j hj=>by have:=hup j (by rw [Jr] at hj;exact hj);omega)
  have rs:=kH3.rd rs (by first | (simp;done) | (simp;omega))
  have c2:Cl H3 L1.next [iv ((vs.getD i Ev.z).k),iv ((vs.getD i Ev.z).g),iv ((vs.getD i Ev.z).t),iv ((vs.getD i Ev.z).a)]:=sH3
  refine Zb<|Zc<|Za rfl<|Wo (b:=L1.next) (o:=0) rfl c2.rd (show row 4 _ _=some [iv ((vs.getD i Ev.z).k),iv ((vs.getD i Ev.z).g),iv ((vs.getD i Ev.z).t),iv ((vs.getD i Ev.z).a)] from rfl) ?_
  have hac:=Zd6 (vs:=vs) hal i
  obtain ⟨H4,fH4,hB2,kq⟩:=Zcr (kn:=kn) (lo:=lo) (H:=H3) hB hac (by omega) (by omega) (hok i hi)
  refine Zx (vs:=[.map (some mb),.agg (Ev.f (vs.getD i Ev.z)).toArray]) rfl (Zi fH4) ?_
  rw [Jr] at kq
  have kp2:=(kp.trans (YT.of kacc)).trans kq
  have mH4:=kq.le
  have ce:=kq.cl ce (fun j hj=>by have:=hup j hj;omega)
  have hs:=kq.sl hs (fun b e j hj=>by have:=fs b e;have:=hlow j hj;omega)
  refine Zb ?_
  show Zq _ _ _ _ _ _ _ _
  refine Za rfl<|ZB (a:=(i:Int)) (b:=1) rfl rfl ⟨by omega,by omega⟩<|Za rfl<|Zb ?_
  show Zq _ _ _ _ _ _ _ _
  refine ZB (a:=(i:Int)) (b:=1) rfl rfl ⟨by omega,by omega⟩<|Za rfl<|Zb ?_
  exact ⟨k - 1,i+1,by omega,⟨by omega,kp2,hB2,ce,hs⟩,rfl,rfl,rfl,rfl,rfl,rfl,trivial⟩
 ·have q1:¬ ((i:Int) < (m:Int)):=of_decide_eq_false q1
  have kfin:=(YT.of k1).trans kp
  first | (refine ZE ?_;show wC _ _ _ _ _ _ _ _ _) | skip
  refine Zc<|Za rfl<|Za rfl<|ZdU (b:=H.next) (o:=0) rfl rfl ce (by omega) rfl rfl (by simp) ?_
  intro H5 kH5 nH5 sH5
  have mH5:=kH5.1
  have hs:=kH5.sl hs (fun b e=>by have:=fs b e;first | (simp;done) | (simp;omega))
  have hB:=hB.keepW kH5 (by omega) (fun j hj=>by have:=hup j (by rw [Jr] at hj;exact hj);omega)
  have kfin:=kfin.new kH5 (by omega)
  have ce:Cl H5 H.next [iv 0]:=sH5
  refine Zb ?_
  have eim:i=m:=by omega
  subst eim
  exact ⟨54,#[.pointer (some ⟨H.next,0,none⟩)],rfl,Or.inl ⟨Or.inr rfl,H5,ZaT,_,Zhq rfl rfl a28 ce,rfl,hB,kfin⟩⟩
end
end
end Go.Ax

/-
 Pool: the book opened;all accounts (33,35) (written by program).
-/
namespace Go.Ax
open Go Go.RowKit Go.Proofs

noncomputable section
theorem ZfA {P:Program} {kn:Kn} {lo n:Nat} {r:List RO} {S:Rg} {H:Hp} {K:Rg→Hp→Prop} {d:Option Nat} {x:Operand} {e:TypeId} {v:Value} (hx:evS S x=some v) (h:∀ H1,Keep H H1 []→H1.next=H.next+1→Sc H1 H.next v.cells.toList→Zm P kn lo n r (Zy S d (.pointer (some ⟨H.next,0,none⟩))) H1 K):Zm P kn lo n (⟨d,none,.box e x⟩ :: r) S H K:=by
 simp only [Zm,Xx,Xw,wRI,hx]
 intro H1 hH1
 obtain ⟨k1,n1,_⟩:=ZO hH1
 exact h H1 k1 n1 (ZgQ hH1)
def acQ (q:Qt):Ac:=⟨q.g,q.a,0,0⟩
def acs (l:List Qt):List Ac:=l.map acQ
theorem KQ {l:List Qt}:(acs l).length=l.length:=by simp [acs]
theorem Zdb {l:List Qt} {i:Nat} (h:i < l.length):(acs l).getD i Ac.z=acQ (l.getD i Qt.z):=by
 unfold acs
 rw [List.getD_eq_getElem?_getD,List.getElem?_map,List.getD_eq_getElem?_getD,List.getElem?_eq_getElem h];rfl
theorem Zcq {α:Type} {l:List α} {i j:Nat} {z:α} (h:j < i):(l.take i).getD j z=l.getD j z:=by
 rw [List.getD_eq_getElem?_getD,List.getD_eq_getElem?_getD,List.getElem?_take,if_pos h]
theorem UH {α:Type} {l:List α} {i:Nat} {a z:α} (h:i < l.length):(l ++ [a]).getD i z=l.getD i z:=by
 rw [List.getD_eq_getElem?_getD,List.getD_eq_getElem?_getD,List.getElem?_append_left h]
theorem UR {α:Type} {l:List α} {a z:α}:(l ++ [a]).getD l.length z=a:=by
 rw [List.getD_eq_getElem?_getD,List.getElem?_append_right (Nat.le_refl _)];simp
theorem Bok.nil {lo f mb:Nat} {P:Nat→Nat} {H:Hp} (h:Mqa iv H mb ([]:ML Int) 0) (h1:lo≤mb) (h2:f≤mb):Bok lo f mb [] 0 P [] H:=
 ⟨h,WfA.nil,(fun i h=>by cases h),(fun x _=>rfl),(fun i h=>by cases h),(fun i j h=>by cases h),(fun i h=>by cases h),h1,h2⟩
theorem Bok.add {lo f mb b:Nat} {L:ML Int} {c:Nat} {P:Nat→Nat} {al:List Ac} {H H1 H2:Hp} {a:Ac} (h:Bok lo f mb L c P al H) (k1:Keep H H1 []) (hs:Sc H1 b (Ac.f a)) (hb:H.next≤b) (hlb:lo≤b) (hf:f≤b) (hno:∀ i,i < al.length→(al.getD i Ac.z).g≠a.g)
  (k2:Keep H1 H2 [mb]) (hm:Mqa iv H2 mb (Xo a.g (.pointer (some ⟨b,0,none⟩)) c L) (Y8 a.g c L)):Bok lo f mb (Xo a.g (.pointer (some ⟨b,0,none⟩)) c L) (Y8 a.g c L) (fun j=>if j=al.length then b else P j) (al ++ [a]) H2:=by
 have hmb:=h.mq.1
 have hP:∀ i,i < al.length→P i < H.next:=fun i hi=>(h.cl i hi).1
 refine ⟨hm,h.wf.put _ _,fun j hj=>?_,fun x hx=>?_,fun j hj=>?_,fun i j hi hj e=>?_,fun j hj=>?_,h.lm⟩<;>(try rw [List.length_append,List.length_singleton] at hj)
 ·by_cases q:j=al.length
  ·subst q;rw [UR,V8,if_pos rfl];simp
  ·have hj2:j < al.length:=by omega
   rw [UH hj2,V8,if_neg (hno j hj2),h.val j hj2]
   simp [q]
 ·have h1:=hx al.length (by simp)
  rw [UR] at h1
  rw [V8,if_neg (fun e=>h1 e.symm)]
  exact h.no x fun i hi=>by have:=hx i (by simp;omega);rw [UH hi] at this;exact this
 ·by_cases q:j=al.length
  ·subst q;rw [UR,if_pos rfl];exact k2.sc hs (by simp;omega)
  ·have hj2:j < al.length:=by omega
   rw [UH hj2,if_neg q]
   exact k2.sc (k1.sc (h.cl j hj2) (by simp)) (by have:=(h.lw j hj2).2.2;simpa using this)
 ·rw [List.length_append,List.length_singleton] at hi
  by_cases q:i=al.length<;>by_cases q2:j=al.length
  ·omega
  ·rw [if_pos q,if_neg q2] at e;have:=hP j (by omega);omega
  ·rw [if_neg q,if_pos q2] at e;have:=hP i (by omega);omega
  ·rw [if_neg q,if_neg q2] at e;exact h.inj i j (by omega) (by omega) e
 ·by_cases q:j=al.length
  ·rw [if_pos q];exact ⟨hlb,hf,by omega⟩
  ·rw [if_neg q];exact h.lw j (by omega)
theorem Bok.keys {lo f mb:Nat} {L:ML Int} {c:Nat} {P:Nat→Nat} {al:List Ac} {H:Hp} (h:Bok lo f mb L c P al H) (hr:(al.map (·.g)).Pairwise (· < ·)) {ys:List Int} (hp:ys.Perm (L.map (·.1))) (hs:ys.Pairwise (·≤·)):ys=al.map (·.g):=by
 have hn:(al.map (·.g)).Nodup:=hr.imp fun q e=>by omega
 have hmem:∀ x,x∈L.map (·.1)↔x∈al.map (·.g):=fun x=>by
  rw [← UB]
  constructor
  ·intro q
   refine Classical.byContradiction fun z=>?_
   rw [h.no x fun i hi e=>z (List.mem_map.2 ⟨al.getD i Ac.z,by rw [List.getD_eq_getElem?_getD,List.getElem?_eq_getElem hi];exact List.getElem_mem hi,e⟩)] at q
   cases q
  ·intro q
   obtain ⟨a,ha,e⟩:=List.mem_map.1 q
   obtain ⟨i,hi,e2⟩:=List.mem_iff_getElem.1 ha
   have:=h.val i hi
   rw [List.getD_eq_getElem?_getD,List.getElem?_eq_getElem hi] at this
   have e3:((some al[i]).getD Ac.z).g=x:=by rw [e2];exact e
   rw [e3] at this
   rw [this];rfl
 have hp2:ys.Perm (al.map (·.g)):=hp.trans (Uj h.wf.keys hn hmem)
 exact List.Perm.eq_of_pairwise (le:=fun x y:Int=>x≤y) (fun x y _ _ h1 h2=>by omega) hs (hr.imp fun q=>by omega) hp2
theorem Bok.len {lo f mb:Nat} {L:ML Int} {c:Nat} {P:Nat→Nat} {al:List Ac} {H:Hp} (h:Bok lo f mb L c P al H):L.length≤al.length:=by
 have:=XN (D:=L.map (·.1)) (L:=al.map (·.g)) h.wf.keys fun x hx=>by
  refine Classical.byContradiction fun z=>?_
  have q:=UB.2 hx
  rw [h.no x fun i hi e=>z (List.mem_map.2 ⟨al.getD i Ac.z,by rw [List.getD_eq_getElem?_getD,List.getElem?_eq_getElem hi];exact List.getElem_mem hi,e⟩)] at q
  cases q
 simpa using this
theorem Zjn:ZS Try.prog 37=some (47,4):=by kernel_rfl
theorem Zkp:Yt Try.prog 47=some (.agg #[iv 0,iv 0,iv 0,iv 0]):=by kernel_rfl
theorem Zkh:Try.prog.underlying 37=some (.slice 47):=by kernel_rfl
section
variable {kn:Kn} {lo:Nat} {H:Hp}
set_option maxRecDepth 100000 in
set_option maxHeartbeats 1000000 in
theorem Zff (s:Snd Try.prog kn) {qs:List Qt} {sa:Option Addr} {n cap:Nat} (hs:Sl H sa n cap (qtc qs)) (hl:qs.length=n) (hn:n≤260) (hd:∀ i j,i < j→j < n→(qs.getD i Qt.z).g≠(qs.getD j Qt.z).g) (hlo:lo≤H.next) :
  FnM Try.prog lo 33 [.slice sa n cap] H fun v H'=>∃ mb L c Pp,v=.map (some mb)∧Bok lo H.next mb L c Pp (acs qs) H'∧Keep H H' []:=by
 refine WZ s Try.func33 B33 N33 Z33 L33 (by simp) ?_
 have hk:=Keep.refl H []
 have fs:=hs.old
 refine Zk<|Zd rfl<|Zh<|Zk<|jZ (enc:=iv) ?_
 intro H1 kH1 nH1 hmq
 have mH1:=kH1.1
 have hk:=hk.trans kH1
 have hs:=kH1.sl0 hs
 refine Zd rfl<|Zh<|Zk<|Zd rfl<|XR (m:=n) rfl<|Zd rfl<|Zh ?_
 refine XL s (fn:=Try.f33) Zjh N33 Zjk (fun i:Nat=>[(3,.map (some H.next)),(7,.slice sa n cap),(8,iv (n:Int)),(9,iv (i:Int))])
  (fun k i H'=>i+k=n∧Keep H H' []∧H1.next≤H'.next∧Sl H' sa n cap (qtc qs)∧∃ L c Pp,Bok lo H.next H.next L c Pp ((acs qs).take i) H') n 0 ⟨by omega,hk,Nat.le_refl _,hs,[],0,(fun _=>0),Bok.nil hmq hlo (Nat.le_refl _)⟩ ⟨rfl,rfl,rfl,rfl,trivial⟩ ?_
 rintro k i L1 ⟨hik,hk,hnx,hs,L,c,Pp,hB⟩
 have mk:=hk.1;have kacc:=Keep.refl L1 []
 refine Zk<|Vf (a:=(i:Int)) (b:=(n:Int)) rfl rfl<|Zh ?_
 refine And.intro (fun q1=>?_) (fun q1=>?_)
 ·have q1:(i:Int) < (n:Int):=of_decide_eq_true q1
  have hi:i < n:=by omega
  rcases id hs with ⟨_,h0s,_⟩ | ⟨sb,es,rs,_⟩
  ·omega
  have ls:=rs.1
  have lsb2:=fs sb es
  first | refine ZV ?_ | skip
  refine Zk<|Qx (b:=sb) (o:=0) (k:=i) (j:=(i:Int)) (by rw [← es];rfl) rfl rfl hi<|Y1 (b:=sb) (o:=0+i * 3) rfl rs (Ve (by omega))<|qx ?_
  intro H2 kH2 nH2 c2
  have c2:Cl H2 L1.next [iv 0,iv 0,iv 0]:=c2
  have mH2:=kH2.1
  have hk:=hk.trans kH2
  have hs:=kH2.sl0 hs
  have kacc:=kacc.trans kH2
  have rs:=kH2.rd rs (by simp)
  refine qU (b:=L1.next) (o:=0) rfl rfl c2 (by omega) rfl rfl (by simp) ?_
  intro H3 kH3 nH3 sH3
  have mH3:=kH3.1
  have hk:=hk.new kH3 (fun b hb=>by simp at hb ⊢;omega)
  have hs:=kH3.sl hs (fun b e=>by have:=fs b e;first | (simp;done) | (simp;omega))
  have kacc:=kacc.new kH3 (fun b hb=>by simp at hb ⊢;omega)
  have rs:=kH3.rd rs (by first | (simp;done) | (simp;omega))
  have c2:Cl H3 L1.next [iv ((qs.getD i Qt.z).g),iv ((qs.getD i Qt.z).b),iv ((qs.getD i Qt.z).a)]:=sH3
  refine Zh ?_
  show Zm _ _ _ _ _ _ _ _
  refine Zd rfl<|YS (b:=L1.next) (o:=0) rfl<|XQ (b:=L1.next) (o:=0) (v:=iv ((qs.getD i Qt.z).g)) rfl c2.rd rfl<|YS (b:=L1.next) (o:=0) rfl<|XQ (b:=L1.next) (o:=0) (v:=iv ((qs.getD i Qt.z).g)) rfl c2.rd rfl<|YS (b:=L1.next) (o:=0) rfl<|XQ (b:=L1.next) (o:=2) (v:=iv ((qs.getD i Qt.z).a)) rfl c2.rd rfl<|Zo (v:=.agg #[iv ((qs.getD i Qt.z).g),iv ((qs.getD i Qt.z).a),iv 0,iv 0]) rfl (by kernel_rfl)<|ZfA rfl ?_
  intro H4 kH4 nH4 sb2
  have mH4:=kH4.1
  have hk:=hk.trans kH4
  have hs:=kH4.sl0 hs
  have kacc:=kacc.trans kH4
  have rs:=kH4.rd rs (by simp)
  have c2:=kH4.cl c2 (by simp)
  have hmq1:=(hB.keep kacc).mq
  refine Zfc (enc:=iv) yP ZdR (a:=(qs.getD i Qt.z).g) rfl rfl rfl hmq1 (by omega) ?_
  intro H5 kH5 nH5 mq2
  have mH5:=kH5.1
  have htl:((acs qs).take i).length=i:=by rw [List.length_take,KQ];omega
  have hB2:=hB.add (b:=H3.next) (a:=acQ (qs.getD i Qt.z)) kacc (by exact sb2) (by omega) (by omega) (by omega) (fun j hj=>by rw [htl] at hj;rw [Zcq hj,Zdb (by omega)];exact hd j i hj (by omega)) kH5 mq2
  have htk:(acs qs).take (i+1)=(acs qs).take i ++ [acQ (qs.getD i Qt.z)]:=by rw [Xu (z:=Ac.z) (by rw [KQ];omega),Zdb (by omega)]
  rw [← htk] at hB2
  have hk:=hk.new kH5 (fun b hb=>by simp at hb ⊢;omega)
  have hs:=kH5.sl hs (fun b e=>by have:=fs b e;first | (simp;done) | (simp;omega))
  have rs:=kH5.rd rs (by first | (simp;done) | (simp;omega))
  have c2:=kH5.cl c2 (by first | (simp;done) | (simp;omega))
  refine Zh ?_
  show Zm _ _ _ _ _ _ _ _
  refine YY (a:=(i:Int)) (b:=1) rfl rfl ⟨by omega,by omega⟩<|Zd rfl<|Zh ?_
  exact ⟨k - 1,i+1,by omega,⟨by omega,hk,by omega,hs,_,_,_,hB2⟩,rfl,rfl,rfl,rfl,trivial⟩
 ·have q1:¬ ((i:Int) < (n:Int)):=of_decide_eq_false q1
  first | (refine X2 ?_;show wCM _ _ _ _ _ _ _ _ _) | skip
  refine Zk<|Zd rfl<|Zd rfl<|Zh ?_
  have e:i=n:=by omega
  rw [e,List.take_of_length_le (by rw [KQ];omega)] at hB
  exact And.intro trivial (Exists.intro _ (And.intro rfl ⟨H.next,L,c,Pp,rfl,hB,hk⟩))
theorem Bok.keepB {lo f f2 mb:Nat} {L:ML Int} {c:Nat} {P:Nat→Nat} {al:List Ac} {H H1:Hp} (h:Bok lo f mb L c P al H) (k:YZ f2 H H1) (h1:mb < f2) (h2:∀ i,i < al.length→P i < f2):Bok lo f mb L c P al H1:=
 ⟨k.mqa h.mq h1,h.wf,h.val,h.no,fun i hi=>k.sc (h.cl i hi) (h2 i hi),h.inj,h.lw,h.lm⟩
set_option maxRecDepth 100000 in
set_option maxHeartbeats 1000000 in
theorem Zad (s:Snd Try.prog kn) {f mb c:Nat} {L:ML Int} {Pp:Nat→Nat} {al:List Ac} (hB:Bok lo f mb L c Pp al H) (hr:(al.map (·.g)).Pairwise (· < ·)) (hal:al.length≤12) (hlo:lo≤H.next) :
  FnM Try.prog lo 35 [.map (some mb)] H fun v H'=>Acc lo H.next 47 H' v al.length (acc al)∧Keep H H' []:=by
 refine WZ s Try.func35 B35 N35 Z35 L35 (by simp) ?_
 have hk:=Keep.refl H []
 have hB0:=hB
 refine Zk<|Zd rfl<|Zh<|Zk<|Zd rfl<|Zh<|Zk<|Zd rfl ?_
 obtain ⟨H1,fH1,kH1,kb⟩:=Zem (kn:=kn) (lo:=lo) (H:=H) mb
 refine Z6 s (vs:=[.map (some mb)]) rfl (Zi fH1) ?_
 have mH1:=kH1.1
 have hk:=hk.trans kH1
 have hB:=hB.keep kH1
 have hLl:=hB.len
 refine YR (t:=.fn (.func 56) #[]) rfl (Ye s.hN (Zcv (H:=H1) s (by omega) kb hB.mq hB.wf (by omega))) ?_
 rintro _ H2 ⟨kH2,ya,ys,ycap,rfl,hy,hsrt,hperm⟩
 have mH2:=kH2.1
 have hk:=hk.trans kH2
 have hB:=hB.keep kH2
 have hys:=hB.keys hr hperm hsrt
 have fy:=hy.old
 have hyl:ys.length=al.length:=by rw [hys,List.length_map]
 rw [hyl] at hy ⊢
 have hyi:∀ i,i < al.length→ys.getD i 0=(al.getD i Ac.z).g:=fun i hi=>by rw [hys];exact zp (z:=Ac.z) hi
 obtain ⟨N,eN⟩:∃ N,N=al.length:=⟨_,rfl⟩
 rw [← eN] at hy ⊢
 refine XR (m:=N) rfl<|Zd rfl<|Zh ?_
 refine XL s (fn:=Try.f35) Zh4 N35 Zjo (fun z:Nat × Value=>[(0,.map (some mb)),(3,z.2),(8,.slice ya N ycap),(9,iv (N:Int)),(10,iv (z.1:Int))])
  (fun k z H'=>z.1+k=N∧Keep H H' []∧H2.next≤H'.next∧Sl H' ya N ycap (cI ys)∧Bok lo f mb L c Pp al H'∧Acc lo H2.next 47 H' z.2 z.1 (acc (al.take z.1))) N (0,.slice none 0 0) ⟨by simp,hk,Nat.le_refl _,hy,hB,.inl ⟨rfl,rfl,rfl⟩⟩ ⟨rfl,rfl,rfl,rfl,rfl,trivial⟩ ?_
 rintro k ⟨i,wv⟩ L1 ⟨hik,hk,hnx,hy,hB,hacc⟩
 have mk:=hk.1;have kacc:=Keep.refl L1 []
 simp only [] at hik hacc
 refine Zk<|Vf (a:=(i:Int)) (b:=(N:Int)) rfl rfl<|Zh ?_
 refine And.intro (fun q1=>?_) (fun q1=>?_)
 ·have q1:(i:Int) < (N:Int):=of_decide_eq_true q1
  have hi:i < N:=by omega
  rcases id hy with ⟨_,h0s,_⟩ | ⟨sb,es,rs,_⟩
  ·omega
  have ls:=rs.1
  have lsb2:=fy sb es
  have hval:=hB.val i (by omega)
  have hPi:=(hB.cl i (by omega)).1;have hPx:=hB0.cl i (by omega)
  have hPl:=hPx.1
  first | refine ZV ?_ | skip
  refine Zk<|Qx (b:=sb) (o:=0) (k:=i) (j:=(i:Int)) (by rw [← es];rfl) rfl rfl hi<|XQ (b:=sb) (o:=0+i * 1) (v:=iv ((al.getD i Ac.z).g)) rfl rs (by rw [← hyi i (by omega)];exact Zaw (by omega))<|Zd rfl<|Zh ?_
  show Zm _ _ _ _ _ _ _ _
  refine Zd rfl<|Zd rfl<|Zd rfl ?_
  obtain ⟨pi,epi⟩:∃ pi,pi=Pp i:=⟨_,rfl⟩
  rw [← epi] at hval hPl
  have ca:Cl L1 pi (Ac.f (al.getD i Ac.z)):=by rw [epi];exact (hB.cl i (by omega)).cl
  refine Xm (v:=.pointer (some ⟨pi,0,none⟩)) (H':=L1) (k:=.read mb) (yd rfl rfl) rfl ((QC yP ZdR Zd9 rfl rfl rfl hB.mq false).trans (by rw [hval];rfl)) (fun q e=>by cases e;exact hB.mq.1)<|ZfO (a:=⟨pi,0,none⟩) rfl<|Y1 (b:=pi) (o:=0) rfl ca.rd (show row 4 _ _=some [iv ((al.getD i Ac.z).g),iv ((al.getD i Ac.z).q),iv ((al.getD i Ac.z).u),iv ((al.getD i Ac.z).x)] from rfl) ?_
  obtain ⟨H3,hH3⟩:∃ H3,L1.new (.cells [iv ((al.getD i Ac.z).g),iv ((al.getD i Ac.z).q),iv ((al.getD i Ac.z).u),iv ((al.getD i Ac.z).x)] 47 false)=H3:=⟨_,rfl⟩
  refine Xm (H':=H3) (k:=.heavy) rfl (by kernel_rfl) ((Xj (v:=.agg (Ac.f (al.getD i Ac.z)).toArray) Zjn Zkp rfl rfl rfl (by decide)).trans (by rw [← hH3];rfl)) (fun b e=>by cases e) ?_
  obtain ⟨kH3,nH3,c3⟩:=ZO hH3;clear hH3
  have c3:Cl H3 L1.next [iv ((al.getD i Ac.z).g),iv ((al.getD i Ac.z).q),iv ((al.getD i Ac.z).u),iv ((al.getD i Ac.z).x)]:=c3
  have mH3:=kH3.1
  have hk:=hk.trans kH3
  have kacc:=kacc.trans kH3
  have hy:=kH3.sl0 hy
  have hB:=hB.keep kH3
  have rs:=kH3.rd rs (by simp)
  have ca:=kH3.cl ca (by simp)
  have kB:=kacc
  obtain ⟨H4,kdH4,eH4,dH4,aH4,kbH4⟩:=Yu (P:=Try.prog) (lo:=lo) (k:=i) (t1:=37) Zjn Zkh (c3.sl (Nat.le_refl 1)) rfl (by decide) rfl (by rw [Ze7,List.length_take];omega) (by omega) (hacc.keep kacc) (by omega) (by omega)
  refine Xm (k:=kdH4) rfl (by cases wv<;>kernel_rfl) (eH4 _ _ _ _ _ _ _ rfl rfl) (Qs dH4 _) ?_
  have hk:=kbH4.keep hk (by omega)
  have hy:=kbH4.sl hy (fun b e=>by have:=fy b e;omega)
  have mH4:=kbH4.1
  have hB:=hB.keepB kbH4 (by have:=hB0.mq.1;omega) (fun j hj=>by have:=(hB0.cl j hj).1;omega)
  refine Zd rfl<|Zh ?_
  show Zm _ _ _ _ _ _ _ _
  refine YY (a:=(i:Int)) (b:=1) rfl rfl ⟨by omega,by omega⟩<|Zd rfl<|Zh ?_
  have hU:al.take (i+1)=al.take i ++ [al.getD i Ac.z]:=Xu (by omega)
  have hacc2:Acc lo H2.next 47 H4 (.slice (some ⟨H3.next,0,none⟩) (i+1) (i+1)) (i+1) (acc (al.take (i+1))):=by rw [hU];unfold acc;rw [List.flatMap_append];exact aH4
  exact ⟨k - 1,(i+1,_),by omega,⟨by simp only [];omega,hk,by omega,hy,hB,hacc2⟩,rfl,rfl,rfl,rfl,rfl,trivial⟩
 ·have q1:¬ ((i:Int) < (N:Int)):=of_decide_eq_false q1
  first | (refine X2 ?_;show wCM _ _ _ _ _ _ _ _ _) | skip
  refine Zk<|Zd rfl<|Zd rfl<|Zh ?_
  have e:i=N:=by omega
  have ht:al.take N=al:=by rw [eN,List.take_length]
  rw [e,ht] at hacc
  exact And.intro trivial (Exists.intro _ (And.intro rfl ⟨hacc.low (by omega),hk⟩))
end
end
end Go.Ax

/-
 Pool: Play,where all events can be (18) (written by program).
-/
namespace Go.Ax
open Go Go.RowKit Go.Proofs

noncomputable section
noncomputable def R18D:RC:=(.dreg [oM 21 0,oD 22 4 4,⟨some 23,none,(.call ⟨(.value (.func 26)),#[(.tmp 21),(.tmp 22)],#[22,24]⟩ false)⟩,oJ 24 4 3,oL 25 24 1,oC 26 25 #[(.tmp 23),(.tmp 25)] #[60,3],oC 27 33 #[(.tmp 26)] #[27],oM 9 27] [127,63,31,8,0,3,0,0])
theorem ZjQ:low Try.prog 41 (at_ Try.f18 [1,1,1,0])=some R18D:=by kernel_rfl
noncomputable def R18v:RC:=(.seq (.reg [oK 4 24 1,⟨some 6,none,(.mov (.const (.slice none 0 0)))⟩,oN 7 0,oN 8 0])
 (.seq (.seq (.reg [oM 10 0,oC 11 23 #[(.tmp 10)] #[22],oU 12 11,oM 13 12,⟨some 14,(some (13,false)),(.lda (.tmp 4) 4)⟩,oH 15 13 false 24 #[(.tmp 14)] #[24],oV 16 13 false 15,oO 17 13 16])
 (.cond (.tmp 17) (.seq (.reg [⟨some 6,none,(.mov (.const (.slice none 0 0)))⟩,oN 7 0,oN 8 1])
 .ret)
 .skip))
 (.seq (.seq (.reg [oM 18 2,oW 19 18,oQ 20 .gtr 19 256])
 (.cond (.tmp 20) (.seq (.reg [⟨some 6,none,(.mov (.const (.slice none 0 0)))⟩,oN 7 0,oN 8 3])
 .ret)
 .skip))
 (.seq (.other (at_ Try.f18 [1,1,1,0]))
 (.seq (.reg [oM 29 9,oM 30 2,oC 31 34 #[(.tmp 29),(.tmp 30)] #[69,36],oM 28 31,oE 32 28 0 3,oE 33 28 1 28,oM 7 32,oM 8 33])
 (.seq (.seq (.reg [oM 34 8,oQ 35 .neq 34 0])
 (.cond (.tmp 35) (.seq (.reg [oM 36 7,oM 37 8,⟨some 6,none,(.mov (.const (.slice none 0 0)))⟩,oM 7 36,oM 8 37])
 .ret)
 .skip))
 (.seq (.reg [oM 38 9,oC 39 35 #[(.tmp 38)] #[69],oM 40 7,oM 6 39,oM 7 40,oN 8 0])
 .ret)))))))
theorem V18:LV Try.prog 41 (at_ Try.f18 []) R18v:=by
 have e:at_ Try.f18 []=(.seq (at_ Try.f18 [0]) (.seq (at_ Try.f18 [1,0]) (.seq (at_ Try.f18 [1,1,0]) (.seq (at_ Try.f18 [1,1,1,0]) (at_ Try.f18 [1,1,1,1]))))):=by kernel_rfl
 rw [e]
 exact (.seq (.low (by kernel_rfl)) (.seq (.low (by kernel_rfl)) (.seq (.low (by kernel_rfl)) (.seq (.other _) (.low (by kernel_rfl))))))
theorem Zhh {ms:List Mb} {p:Int} (h:∀ m∈ms,okM m) (h0:0≤p) (h1:p≤1000):∀ a∈acs (qtL p ms),Ur 1099511627776 a:=by
 intro a ha
 obtain ⟨q,hq,e⟩:=List.mem_map.1 ha
 obtain ⟨m,hm,e2⟩:=List.mem_map.1 hq
 have k:=h m hm
 have m1:0≤m.b * p:=Int.mul_nonneg k.2.2.1 h0
 have m2:m.b * p≤m.b * 1000:=Int.mul_le_mul_of_nonneg_left h1 k.2.2.1
 have m3:m.b * p / 1000≤m.b:=Int.ediv_le_of_le_mul (by decide) m2
 have m4:0≤m.b * p / 1000:=Int.ediv_nonneg m1 (by decide)
 rw [← e,← e2]
 have:=k.2.2.2
 refine ⟨Int.le_refl _,m4,?_,Int.le_refl _,?_⟩
 ·show m.b * p / 1000≤_;omega
 ·show (0:Int)≤_;omega
theorem Zio {p:Int} {ms:List Mb}:(acs (qtL p ms)).map (·.g)=ms.map (·.g):=by
 unfold acs qtL
 rw [List.map_map,List.map_map]
 exact List.map_congr_left fun m _=>rfl
theorem ZdD {ms:List Mb} (h:ms.Pairwise fun a b=>a.g < b.g):(ms.map (·.g)).Pairwise (· < ·):=List.pairwise_map.2 h
theorem Zfi {p:Int} {ms:List Mb} (h:ms.Pairwise fun a b=>a.g < b.g):∀ i j,i < j→j < ms.length→((qtL p ms).getD i Qt.z).g≠((qtL p ms).getD j Qt.z).g:=by
 intro i j hij hj e
 rw [Xg (by omega),Xg hj] at e
 have:=(List.pairwise_iff_getElem.1 h) i j (by omega) hj hij
 have e2:(ms.getD i Mb.z).g=(ms.getD j Mb.z).g:=e
 rw [List.getD_eq_getElem?_getD,List.getD_eq_getElem?_getD,List.getElem?_eq_getElem (by omega),List.getElem?_eq_getElem hj] at e2
 have e3:ms[i].g=ms[j].g:=e2
 omega
section
variable {kn:Kn} {lo:Nat} {H:Hp}
set_option maxRecDepth 100000 in
set_option maxHeartbeats 1000000 in
theorem Zeo (s:Snd Try.prog kn) {cs:List Cp} {sa:Option Addr} {n cap:Nat} (hs:Sl H sa n cap (cpc cs)) (hl:cs.length=n) (hn:n≤400) (hlo:lo≤H.next) (hmn:qS n=false) {g:Gl} (hvA0:vA cs g=true) (h12:(mbL g cs).length≤12) {vs:List Ev} {ea:Option Addr} {m ecap:Nat} (he:Sl H ea m ecap (evc vs)) (hm:vs.length=m) (hm2:m≤256) (hok:∀ j,j < m→(stp (stA (acs (qtL g.p (mbL g cs))) vs j) (vs.getD j Ev.z)).2=0) :
  FnM Try.prog lo 18 [.slice sa n cap,.agg (Gl.f g).toArray,.slice ea m ecap] H fun v H'=>∃ u,v=.tuple #[u,iv m,iv 0]∧Acc lo H.next 47 H' u (acs (qtL g.p (mbL g cs))).length (acc (stA (acs (qtL g.p (mbL g cs))) vs m))∧Keep H H' []:=by
 refine Zdu s Try.func18 B18 N18 Z18 V18 (by simp) ?_
 have hk:=Keep.refl H []
 have fs:=hs.old
 have fe:=he.old
 refine Zk<|UJ (v:=.agg (Gl.f g).toArray) rfl ?_
 intro H1 kH1 nH1 c1
 have c1:Cl H1 H.next [iv g.y,iv g.k,iv g.b,iv g.p]:=c1
 have mH1:=kH1.1
 have hk:=hk.trans kH1
 have hs:=kH1.sl0 hs
 have he:=kH1.sl0 he
 refine Zd rfl<|Zd rfl<|Zd rfl<|Zh<|Zk<|Zd rfl<|XX s rfl (Zb4 hs hl (by omega) (by omega)) ?_
 intro tH2 H2 hH2 kH2
 have mH2:=kH2.1
 have hk:=hk.trans kH2
 have hs:=kH2.sl0 hs
 have he:=kH2.sl0 he
 have c1:=kH2.cl c1 (by simp)
 cases tH2
 ·have qvC:=hH2
  refine Zo (v:=.bool true) rfl rfl<|Zd rfl<|XU rfl<|XU rfl<|XU rfl<|Zo (v:=.bool true) rfl rfl<|Zh ?_
  exact absurd hvA0 (by first | (rw [Um qvC qvG];simp) | (unfold vA;rw [qvC];simp))
 ·have qvC:=hH2
  refine Zo (v:=.bool false) rfl rfl<|Zd rfl ?_
  refine YH rfl (Y1 (b:=H.next) (o:=0) rfl c1.rd (show row 4 _ _=some [iv g.y,iv g.k,iv g.b,iv g.p] from rfl) ?_)
  refine YH rfl (XX s rfl (ZbP (g:=g) (by omega)) ?_)
  intro tH3 H3 hH3 kH3
  have mH3:=kH3.1
  have hk:=hk.trans kH3
  have hs:=kH3.sl0 hs
  have he:=kH3.sl0 he
  have c1:=kH3.cl c1 (by simp)
  cases tH3
  ·have qvG:=hH3
   refine YH rfl (Zo (v:=.bool true) rfl rfl ?_)
   refine Zo (v:=.bool true) rfl rfl<|Zh ?_
   exact absurd hvA0 (by first | (rw [Um qvC qvG];simp) | (unfold vA;rw [qvC];simp))
  ·have qvG:=hH3
   refine YH rfl (Zo (v:=.bool false) rfl rfl ?_)
   refine Zo (v:=.bool false) rfl rfl<|Zh<|ZQ ?_
   first | refine ZV ?_ | skip
   refine Zk<|Zd rfl<|XR (m:=m) rfl<|jm (a:=(m:Int)) (b:=256) rfl rfl<|Zh ?_
   refine And.intro (fun q1=>?_) (fun q1=>?_)
   ·have q1:(m:Int) > 256:=of_decide_eq_true q1
    exfalso;omega
   ·have q1:¬ ((m:Int) > 256):=of_decide_eq_false q1
    first | refine ZV ?_ | skip
    have hvA:vA cs g=true:=Um qvC qvG
    have hb:=(zt hvA).1;have hg:=(zt hvA).2;have hsm:=Q5 hmn (by have:=(Zdv qvC).1;omega)
    have hgt:=zf hg;have hmlen:=U3 (g:=g) hb;have hmok:=zB hb hg
    refine U1 (K2 ?_)
    have hxl:lo≤H3.next:=by omega
    refine yq s ZjQ (S0:=[(0,.slice sa n cap),(2,.slice ea m ecap),(4,.pointer (some ⟨H.next,0,none⟩))]) ⟨rfl,rfl,rfl,trivial⟩ (fun done V H'=>Keep H3 H' []∧(done 0=true→V 0=.slice sa n cap)∧(done 1=true→V 1=.agg (Gl.f g).toArray)∧(done 2=true→∃ a cp,V 2=.slice a (mbL g cs).length cp∧Sl H' a (mbL g cs).length cp (mbc (mbL g cs)))∧(done 3=true→V 3=.pointer (some ⟨H.next,0+3,none⟩))∧(done 4=true→V 4=iv g.p)∧(done 5=true→Acc lo H3.next 44 H' (V 5) (qtL g.p (mbL g cs)).length (qtc (qtL g.p (mbL g cs))))∧(done 6=true→∃ mb L c Pp f,V 6=.map (some mb)∧H3.next≤f∧Bok lo f mb L c Pp (acs (qtL g.p (mbL g cs))) H')∧(done 7=true→∃ mb L c Pp f,V 7=.map (some mb)∧H3.next≤f∧Bok lo f mb L c Pp (acs (qtL g.p (mbL g cs))) H')) (fun _=>iv 0) (by decide) ⟨Keep.refl _ _,(fun h=>by cases h),(fun h=>by cases h),(fun h=>by cases h),(fun h=>by cases h),(fun h=>by cases h),(fun h=>by cases h),(fun h=>by cases h),(fun h=>by cases h)⟩ ⟨?_,?_,?_,?_,?_,?_,?_,?_,True.intro⟩ (fun done V H9 hd hp=>?_)
    ·rintro done V S' H' hd hm ⟨k,p0,p1,p2,p3,p4,p5,p6,p7⟩ kd
     exact Xa (Zd (kd.old rfl rfl) (Zh ⟨_,rfl,k,fun _=>rfl,p1,p2,p3,p4,p5,p6,p7⟩))
    ·rintro done V S' H' hd hm ⟨k,p0,p1,p2,p3,p4,p5,p6,p7⟩ kd
     exact Xa (Y1 (b:=H.next) (o:=0) (kd.old rfl rfl) (k.rd c1.rd (by simp)) rfl (Zh ⟨_,rfl,k,p0,fun _=>rfl,p2,p3,p4,p5,p6,p7⟩))
    ·rintro done V S' H' hd hm ⟨k,p0,p1,p2,p3,p4,p5,p6,p7⟩ kd
     have mk:=k.1
     have h14:lk S' 21=some (.slice sa n cap):=kd.own 0 rfl (hm 0 (by decide)) (p0 (hm 0 (by decide)))
     have h15:lk S' 22=some (.agg (Gl.f g).toArray):=kd.own 1 rfl (hm 1 (by decide)) (p1 (hm 1 (by decide)))
     refine Xa (YR (t:=.fn (.func 26) #[]) (vs:=[.slice sa n cap,.agg (Gl.f g).toArray]) (by simp only [YO,zj,evS,h14,h15];rfl) (Ye s.hN (WX (H:=H') s (k.sl0 hs) hl hsm hb hg (by omega))) ?_)
     rintro _ H2 ⟨k2,a,cp,rfl,hs2⟩
     exact Zh ⟨_,rfl,k.trans k2,p0,p1,fun _=>⟨a,cp,rfl,hs2⟩,p3,p4,fun h=>(p5 h).keep k2,fun h=>(by obtain ⟨mb,L,c,Pp,f,e,hf,hb⟩:=p6 h;exact ⟨mb,L,c,Pp,f,e,hf,hb.keep k2⟩),fun h=>(by obtain ⟨mb,L,c,Pp,f,e,hf,hb⟩:=p7 h;exact ⟨mb,L,c,Pp,f,e,hf,hb.keep k2⟩)⟩
    ·rintro done V S' H' hd hm ⟨k,p0,p1,p2,p3,p4,p5,p6,p7⟩ kd
     exact Xa (YS (b:=H.next) (o:=0) (kd.old rfl rfl) (Zh ⟨_,rfl,k,p0,p1,p2,fun _=>rfl,p4,p5,p6,p7⟩))
    ·rintro done V S' H' hd hm ⟨k,p0,p1,p2,p3,p4,p5,p6,p7⟩ kd
     exact Xa (XQ (b:=H.next) (o:=0+3) (v:=iv g.p) (kd.own 3 rfl (hm 3 (by decide)) (p3 (hm 3 (by decide)))) (k.rd c1.rd (by simp)) rfl (Zh ⟨_,rfl,k,p0,p1,p2,p3,fun _=>rfl,p5,p6,p7⟩))
    ·rintro done V S' H' hd hm ⟨k,p0,p1,p2,p3,p4,p5,p6,p7⟩ kd
     have mk:=k.1
     obtain ⟨a,cp,e2,s2⟩:=p2 (hm 2 (by decide))
     have h16:lk S' 23=some (.slice a (mbL g cs).length cp):=kd.own 2 rfl (hm 2 (by decide)) e2
     have h18:lk S' 25=some (iv g.p):=kd.own 4 rfl (hm 4 (by decide)) (p4 (hm 4 (by decide)))
     obtain ⟨v,H2,f2,a2,k2⟩:=UC (kn:=kn) (lo:=lo) (H:=H') s2 rfl (by omega) (by omega) hmok (p:=g.p) (by omega) (by omega)
     exact Xa (Z6 s (t:=.fn (.func 25) #[]) (vs:=[.slice a (mbL g cs).length cp,iv g.p]) (by simp only [YO,zj,evS,h16,h18];rfl) (Zi f2) (Zh ⟨v,rfl,k.trans k2,p0,p1,fun h=>(by obtain ⟨a,cp,e,q⟩:=p2 h;exact ⟨a,cp,e,k2.sl0 q⟩),p3,p4,fun _=>a2.low (by omega),fun h=>(by obtain ⟨mb,L,c,Pp,f,e,hf,hb⟩:=p6 h;exact ⟨mb,L,c,Pp,f,e,hf,hb.keep k2⟩),fun h=>(by obtain ⟨mb,L,c,Pp,f,e,hf,hb⟩:=p7 h;exact ⟨mb,L,c,Pp,f,e,hf,hb.keep k2⟩)⟩))
    ·rintro done V S' H' hd hm ⟨k,p0,p1,p2,p3,p4,p5,p6,p7⟩ kd
     have mk:=k.1
     have h26:lk S' 26=some (V 5):=kd.own 5 rfl (hm 5 (by decide)) rfl
     obtain ⟨qa,qcap,e5,hqs,_⟩:=(p5 (hm 5 (by decide))).sl
     rw [Yb] at e5 hqs
     rw [e5] at h26
     refine Xa (YR (t:=.fn (.func 33) #[]) (vs:=[.slice qa (mbL g cs).length qcap]) (by simp only [YO,zj,evS,h26];rfl) (Ye s.hN (Zff (H:=H') s hqs Yb (by omega) (Zfi UW) (by omega))) ?_)
     rintro _ H2 ⟨mb,L,c,Pp,rfl,hb2,k2⟩
     exact Zh ⟨_,rfl,k.trans k2,p0,p1,fun h=>(by obtain ⟨a,cp,e,q⟩:=p2 h;exact ⟨a,cp,e,k2.sl0 q⟩),p3,p4,fun h=>(p5 h).keep k2,fun _=>⟨mb,L,c,Pp,H'.next,rfl,mk,hb2⟩,fun h=>(by obtain ⟨mb,L,c,Pp,f,e,hf,hb⟩:=p7 h;exact ⟨mb,L,c,Pp,f,e,hf,hb.keep k2⟩)⟩
    ·rintro done V S' H' hd hm ⟨k,p0,p1,p2,p3,p4,p5,p6,p7⟩ kd
     exact Xa (Zd (kd.own 6 rfl (hm 6 (by decide)) rfl) (Zh ⟨V 6,rfl,k,p0,p1,p2,p3,p4,p5,p6,fun _=>p6 (hm 6 (by decide))⟩))
    obtain ⟨k9,_,_,_,_,_,_,_,p7⟩:=hp
    obtain ⟨mb,L,c,Pp,f,e7,hf,hB⟩:=p7 (hd 7 (by decide))
    have m9:=k9.1
    have hPx:∀ i,i < (acs (qtL g.p (mbL g cs))).length→H3.next≤Pp i:=fun i hi=>Nat.le_trans hf (hB.lw i hi).2.1
    have hal:=Zhh hmok (p:=g.p) (by omega) (by omega)
    have hk0:=hk
    have he:=k9.sl0 he
    have halen:(acs (qtL g.p (mbL g cs))).length=(mbL g cs).length:=by rw [KQ,Yb]
    show wCM _ _ _ _ _ _ _ _ _
    refine Zk<|Zd rfl<|Zd rfl ?_
    obtain ⟨H4,fH4,hB2,kp2⟩:=ZfG (kn:=kn) (lo:=lo) (H:=H9) hB he hm hm2 hal hok (H0:=H3) m9 hPx (fun b e=>by have:=fe b e;omega) hxl
    rw [← e7] at fH4
    refine Z6 s (vs:=[V 7,.slice ea m ecap]) rfl (Zi fH4) ?_
    have hkx:=kp2.keep k9 hPx
    have mH4:=kp2.le
    refine Zd rfl<|Zo (v:=iv (m:Int)) rfl (by kernel_rfl)<|Zo (v:=iv 0) rfl (by kernel_rfl)<|Zd rfl<|Zd rfl<|Zh<|Zk<|Zd rfl<|zx (a:=0) (b:=0) rfl rfl<|Zh<|ZQ ?_
    first | refine ZV ?_ | skip
    refine Zk<|Zd rfl ?_
    have hrise:((stA (acs (qtL g.p (mbL g cs))) vs m).map (·.g)).Pairwise (· < ·):=by rw [qA,Zio];exact ZdD UW
    refine YR (t:=.fn (.func 35) #[]) (vs:=[V 7]) rfl (Ye s.hN (by rw [e7];exact Zad (H:=H4) s hB2 hrise (by rw [Jr];omega) (by omega))) ?_
    rintro av H5 ⟨hav,kH5⟩
    have mH5:=kH5.1
    refine Zd rfl<|Zd rfl<|Zd rfl<|Zd rfl<|Zh ?_
    rw [Jr] at hav
    exact And.intro trivial (Exists.intro _ (And.intro rfl ⟨av,rfl,hav.low (by omega),hk0.trans (hkx.trans kH5)⟩))
end
end
end Go.Ax

/-
 Pool: lists compared (17,20);the example of the document (22) (written by program).
-/
namespace Go.Ax
open Go Go.RowKit Go.Proofs

noncomputable section
theorem ZgK:Try.prog.underlying 44=some (.struct (QK Try.prog 44)):=by kernel_rfl
theorem Zkm : (QK Try.prog 44).toList.map (fun f => (f.type, f.offset, f.name == "_")) = [(3, 0, false), (3, 1, false), (3, 2, false)] := by kernel_rfl
theorem ZjK:Program.stoodInHeld Try.prog 44=false:=by kernel_rfl
set_option maxRecDepth 100000 in
theorem ZkB {d:Nat} (a0 a1 a2:Int):ZH Try.prog (Op.equalIn (d+2) 44 (.agg #[iv a0,iv a1,iv a2]) (.agg #[iv a0,iv a1,iv a2]))=some true:=by
 have h:=JF (d:=d+1) (xs:=#[iv a0,iv a1,iv a2]) (ys:=#[iv a0,iv a1,iv a2]) (Wh ZgK) ZjK (fun _=>true) (by
   intro q hq
   have h : (q.type, q.offset, q.name == "_") ∈ [(3, 0, false), (3, 1, false), (3, 2, false)] := by rw [← Zkm]; exact List.mem_map.mpr ⟨q, hq, rfl⟩
   simp only [List.mem_cons,List.not_mem_nil,or_false,Prod.mk.injEq] at h
   have one:∀ x:Int,ZH Try.prog (Op.equalIn (d+1) 3 (iv x) (iv x))=some true:=fun x=>by rw [yO];simp
   rcases h with ⟨h1,h2,h3⟩ | ⟨h1,h2,h3⟩ | ⟨h1,h2,h3⟩<;>(refine ⟨by intro e;rw [e] at h3;simp at h3,?_⟩;rw [h1,h2])
   ·exact ⟨iv a0,iv a0,by kernel_rfl,by kernel_rfl,one a0⟩
   ·exact ⟨iv a1,iv a1,by kernel_rfl,by kernel_rfl,one a1⟩
   ·exact ⟨iv a2,iv a2,by kernel_rfl,by kernel_rfl,one a2⟩)
 rw [show d+2=d+1+1 from rfl,h]
 simp
set_option maxRecDepth 100000 in
theorem Zgs {n:Nat} {S:Rg} {d:Option Tmp} {x y:Operand} {p:String} {ty:TypeId} {a0 a1 a2:Int} (hx:evS S x=some (.agg #[iv a0,iv a1,iv a2])) (hy:evS S y=some (.agg #[iv a0,iv a1,iv a2])):Zn Try.prog (frS n S) ⟨d,.binOp .neq 44 x y 44,ty,p,#[],none⟩=some (.bool false):=by
 have key:ZH Try.prog (do eqGuard .neq 44 x y (.agg #[iv a0,iv a1,iv a2]) (.agg #[iv a0,iv a1,iv a2]);binOp .neq 44 (.agg #[iv a0,iv a1,iv a2]) (.agg #[iv a0,iv a1,iv a2]))=some (.bool false):=by
  rw [YC,show ZH Try.prog (eqGuard .neq 44 x y (.agg #[iv a0,iv a1,iv a2]) (.agg #[iv a0,iv a1,iv a2]))=some () from by kernel_rfl,Option.bind_some]
  show ZH Try.prog (do pure (Value.bool (!(← Op.equalIn (9998+2) 44 (.agg #[iv a0,iv a1,iv a2]) (.agg #[iv a0,iv a1,iv a2])))))=_
  rw [YC,ZkB];rfl
 unfold Zn
 simp only [Yo,hx,hy,show Z0 (.agg #[iv a0,iv a1,iv a2])=true from rfl,Bool.and_self,cond_true,key]
 rfl
theorem ZgT:Try.prog.underlying 47=some (.struct (QK Try.prog 47)):=by kernel_rfl
theorem Zko : (QK Try.prog 47).toList.map (fun f => (f.type, f.offset, f.name == "_")) = [(3, 0, false), (3, 1, false), (3, 2, false), (3, 3, false)] := by kernel_rfl
theorem Zj0:Program.stoodInHeld Try.prog 47=false:=by kernel_rfl
set_option maxRecDepth 100000 in
theorem Zj3 {d:Nat} (a0 a1 a2 a3:Int):ZH Try.prog (Op.equalIn (d+2) 47 (.agg #[iv a0,iv a1,iv a2,iv a3]) (.agg #[iv a0,iv a1,iv a2,iv a3]))=some true:=by
 have h:=JF (d:=d+1) (xs:=#[iv a0,iv a1,iv a2,iv a3]) (ys:=#[iv a0,iv a1,iv a2,iv a3]) (Wh ZgT) Zj0 (fun _=>true) (by
   intro q hq
   have h : (q.type, q.offset, q.name == "_") ∈ [(3, 0, false), (3, 1, false), (3, 2, false), (3, 3, false)] := by rw [← Zko]; exact List.mem_map.mpr ⟨q, hq, rfl⟩
   simp only [List.mem_cons,List.not_mem_nil,or_false,Prod.mk.injEq] at h
   have one:∀ x:Int,ZH Try.prog (Op.equalIn (d+1) 3 (iv x) (iv x))=some true:=fun x=>by rw [yO];simp
   rcases h with ⟨h1,h2,h3⟩ | ⟨h1,h2,h3⟩ | ⟨h1,h2,h3⟩ | ⟨h1,h2,h3⟩<;>(refine ⟨by intro e;rw [e] at h3;simp at h3,?_⟩;rw [h1,h2])
   ·exact ⟨iv a0,iv a0,by kernel_rfl,by kernel_rfl,one a0⟩
   ·exact ⟨iv a1,iv a1,by kernel_rfl,by kernel_rfl,one a1⟩
   ·exact ⟨iv a2,iv a2,by kernel_rfl,by kernel_rfl,one a2⟩
   ·exact ⟨iv a3,iv a3,by kernel_rfl,by kernel_rfl,one a3⟩)
 rw [show d+2=d+1+1 from rfl,h]
 simp
set_option maxRecDepth 100000 in
theorem Zjq {n:Nat} {S:Rg} {d:Option Tmp} {x y:Operand} {p:String} {ty:TypeId} {a0 a1 a2 a3:Int} (hx:evS S x=some (.agg #[iv a0,iv a1,iv a2,iv a3])) (hy:evS S y=some (.agg #[iv a0,iv a1,iv a2,iv a3])):Zn Try.prog (frS n S) ⟨d,.binOp .neq 47 x y 47,ty,p,#[],none⟩=some (.bool false):=by
 have key:ZH Try.prog (do eqGuard .neq 47 x y (.agg #[iv a0,iv a1,iv a2,iv a3]) (.agg #[iv a0,iv a1,iv a2,iv a3]);binOp .neq 47 (.agg #[iv a0,iv a1,iv a2,iv a3]) (.agg #[iv a0,iv a1,iv a2,iv a3]))=some (.bool false):=by
  rw [YC,show ZH Try.prog (eqGuard .neq 47 x y (.agg #[iv a0,iv a1,iv a2,iv a3]) (.agg #[iv a0,iv a1,iv a2,iv a3]))=some () from by kernel_rfl,Option.bind_some]
  show ZH Try.prog (do pure (Value.bool (!(← Op.equalIn (9998+2) 47 (.agg #[iv a0,iv a1,iv a2,iv a3]) (.agg #[iv a0,iv a1,iv a2,iv a3])))))=_
  rw [YC,Zj3];rfl
 unfold Zn
 simp only [Yo,hx,hy,show Z0 (.agg #[iv a0,iv a1,iv a2,iv a3])=true from rfl,Bool.and_self,cond_true,key]
 rfl
theorem Zg4 {P:Program} {S:Rg} {H:Hp} {a b x n:Nat} {t:TypeId} {cs:List Value} {v:Value} (ha:lk S a=some v) (hb:lk S b=some (.pointer (some ⟨x,0,none⟩))) (h1:Wj P t=some true) (hi:∃ i,P.info? t=some i∧i.size=n) (hl:cs.length=n) (h:Cl H x cs):Wt P S H [.tmp a,.cell b t]=some [v,.agg cs.toArray]:=by
 simp only [Wt,ha,hb,Zen h1 hi h.rd hl]
def cs0:List Cp:=[⟨3,2022,1000⟩,⟨3,2023,1400⟩,⟨3,2024,900⟩,⟨3,2025,1301⟩,⟨8,2024,500⟩,⟨8,2021,9999⟩,⟨5,2020,700⟩]
def g0:Gl:=⟨2026,4,2,850⟩
section
variable {kn:Kn} {lo:Nat} {H:Hp}
set_option maxRecDepth 100000 in
theorem K4 {l:List Qt} {pa pb:Option Addr} {cap1 cap2:Nat} (ha:Sl H pa l.length cap1 (qtc l)) (hb:Sl H pb l.length cap2 (qtc l)) (hlen:l.length≤1000000):∃ H',FnX Try.prog kn lo 17 [.slice pa l.length cap1,.slice pb l.length cap2] H (.bool true) H'∧Keep H H' []:=by
 have key:=Zs (kn:=kn) (lo:=lo) (H:=H) (args:=[.slice pa l.length cap1,.slice pb l.length cap2]) (Q:=fun w H'=>w=.bool true∧Keep H H' []) Try.func17 B17 N17 Z17 L17 (by simp) ?_
 ·obtain ⟨w,H',h,rfl,q⟩:=key;exact ⟨H',h,q⟩
 have hk:=Keep.refl H []
 have fa:=ha.old
 have fb:=hb.old
 refine Zc<|Za rfl<|Zb<|Zc<|Za rfl<|Yz (m:=l.length) rfl<|Za rfl<|Yz (m:=l.length) rfl<|UO (a:=(l.length:Int)) (b:=(l.length:Int)) rfl rfl ?_
 rw [show ((l.length:Int) != (l.length:Int))=false by simp]
 refine Zb<|ZQ ?_
 first | refine Zl ?_ | skip
 refine Zc<|Za rfl<|Zb ?_
 refine ZA (fn:=Try.f17) ZiU N17 ZiS (fun i:Nat=>[(0,.slice pa l.length cap1),(1,.slice pb l.length cap2),(5,iv (i:Int))])
  (fun k i H'=>i+k=l.length∧Keep H H' []∧Sl H' pa l.length cap1 (qtc l)∧Sl H' pb l.length cap2 (qtc l)) l.length 0 ⟨by omega,hk,ha,hb⟩ ⟨rfl,rfl,rfl,trivial⟩ ?_
 rintro k i L1 ⟨hik,hk,ha,hb⟩
 have mk:=hk.1
 refine Zc<|Za rfl<|Za rfl<|Yz (m:=l.length) rfl<|ZM (a:=(i:Int)) (b:=(l.length:Int)) rfl rfl<|Zb ?_
 refine And.intro (fun q1=>?_) (fun q1=>?_)
 ·have q1:(i:Int) < (l.length:Int):=of_decide_eq_true q1
  have hi:i < l.length:=by omega
  rcases id ha with ⟨_,h0s,_⟩ | ⟨sb,es,rs,_⟩
  ·omega
  have ls:=rs.1
  rcases id hb with ⟨_,h0t,_⟩ | ⟨tb,et,rt,_⟩
  ·omega
  have lt:=rt.1
  first | refine Zl ?_ | skip
  refine Y0<|Ze rfl<|Ze rfl<|Zw (b:=sb) (o:=0) (k:=i) (j:=(i:Int)) (by rw [← es];rfl) rfl rfl hi<|YF (b:=sb) (o:=0+i * 3) rfl rs (Ve (by omega))<|Ze rfl<|Ze rfl<|Zw (b:=tb) (o:=0) (k:=i) (j:=(i:Int)) (by rw [← et];rfl) rfl rfl hi<|YF (b:=tb) (o:=0+i * 3) rfl rt (Ve (by omega))<|ZR (v:=.bool false) rfl (Zgs (a0:=(l.getD i Qt.z).g) (a1:=(l.getD i Qt.z).b) (a2:=(l.getD i Qt.z).a) rfl rfl) ?_
  refine ZJ (by repeat' first | exact True.intro | exact (fun h=>h) | refine And.intro ?_ ?_ | (intro h;have h:(_:Nat)=_:=h;omega)) ?_
  refine ZQ ?_
  first | refine Zl ?_ | skip
  show Zq _ _ _ _ _ _ _ _
  refine Za rfl<|ZB (a:=(i:Int)) (b:=1) rfl rfl ⟨by omega,by omega⟩<|Za rfl<|Zb ?_
  exact ⟨k - 1,i+1,by omega,⟨by omega,hk,ha,hb⟩,rfl,rfl,rfl,trivial⟩
 ·have q1:¬ ((i:Int) < (l.length:Int)):=of_decide_eq_false q1
  refine Zc<|Za rfl<|Zb ?_
  exact And.intro trivial (Exists.intro _ (And.intro rfl ⟨rfl,hk⟩))
set_option maxRecDepth 100000 in
theorem Zet {l:List Ac} {pa pb:Option Addr} {cap1 cap2:Nat} (ha:Sl H pa l.length cap1 (acc l)) (hb:Sl H pb l.length cap2 (acc l)) (hlen:l.length≤1000000):∃ H',FnX Try.prog kn lo 20 [.slice pa l.length cap1,.slice pb l.length cap2] H (.bool true) H'∧Keep H H' []:=by
 have key:=Zs (kn:=kn) (lo:=lo) (H:=H) (args:=[.slice pa l.length cap1,.slice pb l.length cap2]) (Q:=fun w H'=>w=.bool true∧Keep H H' []) Try.func20 B20 N20 Z20 L20 (by simp) ?_
 ·obtain ⟨w,H',h,rfl,q⟩:=key;exact ⟨H',h,q⟩
 have hk:=Keep.refl H []
 have fa:=ha.old
 have fb:=hb.old
 refine Zc<|Za rfl<|Zb<|Zc<|Za rfl<|Yz (m:=l.length) rfl<|Za rfl<|Yz (m:=l.length) rfl<|UO (a:=(l.length:Int)) (b:=(l.length:Int)) rfl rfl ?_
 rw [show ((l.length:Int) != (l.length:Int))=false by simp]
 refine Zb<|ZQ ?_
 first | refine Zl ?_ | skip
 refine Zc<|Za rfl<|Zb ?_
 refine ZA (fn:=Try.f20) ZiZ N20 Zi2 (fun i:Nat=>[(0,.slice pa l.length cap1),(1,.slice pb l.length cap2),(5,iv (i:Int))])
  (fun k i H'=>i+k=l.length∧Keep H H' []∧Sl H' pa l.length cap1 (acc l)∧Sl H' pb l.length cap2 (acc l)) l.length 0 ⟨by omega,hk,ha,hb⟩ ⟨rfl,rfl,rfl,trivial⟩ ?_
 rintro k i L1 ⟨hik,hk,ha,hb⟩
 have mk:=hk.1
 refine Zc<|Za rfl<|Za rfl<|Yz (m:=l.length) rfl<|ZM (a:=(i:Int)) (b:=(l.length:Int)) rfl rfl<|Zb ?_
 refine And.intro (fun q1=>?_) (fun q1=>?_)
 ·have q1:(i:Int) < (l.length:Int):=of_decide_eq_true q1
  have hi:i < l.length:=by omega
  rcases id ha with ⟨_,h0s,_⟩ | ⟨sb,es,rs,_⟩
  ·omega
  have ls:=rs.1
  rcases id hb with ⟨_,h0t,_⟩ | ⟨tb,et,rt,_⟩
  ·omega
  have lt:=rt.1
  first | refine Zl ?_ | skip
  refine Y0<|Ze rfl<|Ze rfl<|Zw (b:=sb) (o:=0) (k:=i) (j:=(i:Int)) (by rw [← es];rfl) rfl rfl hi<|YF (b:=sb) (o:=0+i * 4) rfl rs (Zae (by omega))<|Ze rfl<|Ze rfl<|Zw (b:=tb) (o:=0) (k:=i) (j:=(i:Int)) (by rw [← et];rfl) rfl rfl hi<|YF (b:=tb) (o:=0+i * 4) rfl rt (Zae (by omega))<|ZR (v:=.bool false) rfl (Zjq (a0:=(l.getD i Ac.z).g) (a1:=(l.getD i Ac.z).q) (a2:=(l.getD i Ac.z).u) (a3:=(l.getD i Ac.z).x) rfl rfl) ?_
  refine ZJ (by repeat' first | exact True.intro | exact (fun h=>h) | refine And.intro ?_ ?_ | (intro h;have h:(_:Nat)=_:=h;omega)) ?_
  refine ZQ ?_
  first | refine Zl ?_ | skip
  show Zq _ _ _ _ _ _ _ _
  refine Za rfl<|ZB (a:=(i:Int)) (b:=1) rfl rfl ⟨by omega,by omega⟩<|Za rfl<|Zb ?_
  exact ⟨k - 1,i+1,by omega,⟨by omega,hk,ha,hb⟩,rfl,rfl,rfl,trivial⟩
 ·have q1:¬ ((i:Int) < (l.length:Int)):=of_decide_eq_false q1
  refine Zc<|Za rfl<|Zb ?_
  exact And.intro trivial (Exists.intro _ (And.intro rfl ⟨rfl,hk⟩))
set_option maxRecDepth 100000 in
theorem Zcb (hlo:lo≤H.next):∃ sa H',FnX Try.prog kn lo 22 [] H (.tuple #[.slice sa 7 7,.agg (Gl.f g0).toArray]) H'∧Sl H' sa 7 7 (cpc cs0)∧Keep H H' []:=by
 have key:=Zs (kn:=kn) (lo:=lo) (H:=H) (args:=[]) (Q:=fun w H'=>∃ sa,w=.tuple #[.slice sa 7 7,.agg (Gl.f g0).toArray]∧Sl H' sa 7 7 (cpc cs0)∧Keep H H' []) Try.func22 B22 N22 Z22 L22 (by simp) ?_
 ·obtain ⟨w,H',h,sa,rfl,r⟩:=key;exact ⟨sa,H',h,r⟩
 have hk:=Keep.refl H []
 refine Zc<|Za rfl<|WQ ?_
 intro H1 kH1 nH1 c1
 have c1:Cl H1 H.next [iv 0,iv 0,iv 0,iv 0]:=c1
 have mH1:=kH1.1
 have hk:=hk.trans kH1
 refine Zb<|Zc<|Zg (v:=.agg #[iv 3,iv 2022,iv 1000]) rfl (by kernel_rfl)<|Zg (v:=.agg #[iv 3,iv 2023,iv 1400]) rfl (by kernel_rfl)<|Zg (v:=.agg #[iv 3,iv 2024,iv 900]) rfl (by kernel_rfl)<|Zg (v:=.agg #[iv 3,iv 2025,iv 1301]) rfl (by kernel_rfl)<|Zg (v:=.agg #[iv 8,iv 2024,iv 500]) rfl (by kernel_rfl)<|Zg (v:=.agg #[iv 8,iv 2021,iv 9999]) rfl (by kernel_rfl)<|Zg (v:=.agg #[iv 5,iv 2020,iv 700]) rfl (by kernel_rfl) ?_
 obtain ⟨H2,hH2⟩:∃ H2,H1.new (.cells [iv 3,iv 2022,iv 1000,iv 3,iv 2023,iv 1400,iv 3,iv 2024,iv 900,iv 3,iv 2025,iv 1301,iv 8,iv 2024,iv 500,iv 8,iv 2021,iv 9999,iv 5,iv 2020,iv 700] 52 false)=H2:=⟨_,rfl⟩
 refine X0 (v:=.slice (some ⟨H1.next,0,none⟩) 7 7) (H':=H2) (k:=.heavy) rfl (by kernel_rfl) (Eq.trans (by kernel_rfl:_=some (Rs.val (.slice (some ⟨H1.next,0,none⟩) 7 7) (H1.new (.cells [iv 3,iv 2022,iv 1000,iv 3,iv 2023,iv 1400,iv 3,iv 2024,iv 900,iv 3,iv 2025,iv 1301,iv 8,iv 2024,iv 500,iv 8,iv 2021,iv 9999,iv 5,iv 2020,iv 700] 52 false)),Kd.heavy)) (by rw [hH2])) (fun b e=>by cases e) ?_
 obtain ⟨kH2,nH2,cU⟩:=ZO hH2;clear hH2
 have mH2:=kH2.1
 have hk:=hk.trans kH2
 have c1:=kH2.cl c1 (by simp)
 refine Za rfl<|Zb<|Zc<|Za rfl<|Zg (v:=.agg #[iv 2026,iv 4,iv 2,iv 850]) rfl (by kernel_rfl)<|Za rfl<|Vc (b:=H.next) (o:=0) rfl rfl c1 (by omega) rfl rfl (by simp) ?_
 intro H3 kH3 nH3 sH3
 have mH3:=kH3.1
 have hk:=hk.new kH3 (fun b hb=>by simp at hb ⊢;omega)
 have cU:=kH3.cl cU (by first | (simp;done) | (simp;omega))
 have c1:Cl H3 H.next [iv 2026,iv 4,iv 2,iv 850]:=sH3
 refine Zb ?_
 exact And.intro trivial (Exists.intro _ (And.intro (Zg4 rfl rfl a24 Zkg rfl c1) ⟨_,rfl,.inr ⟨_,rfl,cU.rd,Nat.le_refl _⟩,hk⟩))
end
end
end Go.Ax

/-
 Pool: the examples of the document hold (10) (written by program).
-/
namespace Go.Ax
open Go Go.RowKit Go.Proofs

noncomputable section
def q0:List Qt:=[⟨3,1350,1147⟩,⟨8,500,425⟩]
def s0:List Qt:=[⟨3,1350,73⟩,⟨8,500,27⟩]
def a0:List Ac:=[⟨3,1247,1247,53⟩,⟨8,325,325,75⟩]
def ev0:List Ev:=[⟨0,3,0,1000⟩,⟨1,8,3,100⟩,⟨0,3,0,300⟩,⟨0,8,0,400⟩]
theorem awv:vA cs0 g0=true:=by kernel_rfl
theorem awm:mbL g0 cs0=[⟨3,1350⟩,⟨8,500⟩]:=by kernel_rfl
theorem aw1:quL cs0 g0=q0∧quE cs0 g0=0:=by
 unfold quL quE
 rw [if_pos awv,if_pos awv,awm]
 exact ⟨by kernel_rfl,rfl⟩
theorem aw0:∀ m∈mbL g0 cs0,okM m:=by
 rw [awm]
 intro m hm
 simp only [List.mem_cons,List.not_mem_nil,or_false] at hm
 rcases hm with rfl | rfl<;>(unfold okM;simp)
theorem aw2:PcS cs0 g0 1500 811 0:=by
 unfold PcS
 rw [if_pos awv,if_pos (by kernel_rfl)]
 have e1:tot (mbL g0 cs0) 811=1499:=by rw [awm];kernel_rfl
 have e2:tot (mbL g0 cs0) 812=1502:=by rw [awm];kernel_rfl
 refine ⟨rfl,811,rfl,by decide,by omega,fun j hj hd=>?_⟩
 rcases Nat.lt_or_ge 811 j with q | q
 ·have:=jU aw0 (show 812≤j from q);omega
 ·exact q
theorem aw4:ShS cs0 g0 100 s0 0:=by
 unfold ShS
 rw [if_pos awv,if_pos (by kernel_rfl),awm,if_neg (by
  intro h
  have:YL [⟨3,1350⟩,⟨8,500⟩]=1850:=by kernel_rfl
  omega)]
 refine ⟨rfl,[0],⟨by simp,fun p hp=>?_,fun p hp q hq hn=>?_⟩,by kernel_rfl,by kernel_rfl⟩
 ·simp at hp;subst hp;simp
 ·simp at hp hn;subst hp
  have hq1:q=1:=by simp at hq;omega
  subst hq1
  have e1:Zht [⟨3,1350⟩,⟨8,500⟩] 100 0 = -1800:=by kernel_rfl
  have e2:Zht [⟨3,1350⟩,⟨8,500⟩] 100 1 = -50:=by kernel_rfl
  left;omega
def al0:List Ac:=acs (qtL g0.p (mbL g0 cs0))
theorem ZcQ:al0=[⟨3,1147,0,0⟩,⟨8,425,0,0⟩]:=by unfold al0;rw [awm];kernel_rfl
theorem aw3:stA al0 ev0 4=a0∧al0.length=2:=by rw [ZcQ];exact ⟨by kernel_rfl,rfl⟩
theorem Zkj:∀ j,j < 4→(stp (stA al0 ev0 j) (ev0.getD j Ev.z)).2=0:=by
 rw [ZcQ]
 have h0:(stp (stA [⟨3,1147,0,0⟩,⟨8,425,0,0⟩] ev0 0) (ev0.getD 0 Ev.z)).2=0:=by kernel_rfl
 have h1:(stp (stA [⟨3,1147,0,0⟩,⟨8,425,0,0⟩] ev0 1) (ev0.getD 1 Ev.z)).2=0:=by kernel_rfl
 have h2:(stp (stA [⟨3,1147,0,0⟩,⟨8,425,0,0⟩] ev0 2) (ev0.getD 2 Ev.z)).2=0:=by kernel_rfl
 have h3:(stp (stA [⟨3,1147,0,0⟩,⟨8,425,0,0⟩] ev0 3) (ev0.getD 3 Ev.z)).2=0:=by kernel_rfl
 intro j hj
 have hj:j=0∨j=1∨j=2∨j=3:=by omega
 rcases hj with rfl | rfl | rfl | rfl
 ·exact h0
 ·exact h1
 ·exact h2
 ·exact h3
abbrev kn0:Kn:=⟨fun _=>none,fun _ _ _ _=>none⟩
section
variable {lo:Nat} {H:Hp}
set_option maxRecDepth 100000 in
set_option maxHeartbeats 2000000 in
theorem awake_C (s:Snd Try.prog kn0) (hlo:lo≤H.next):FnC Try.prog lo 10 [] H fun v _=>v=.bool true:=by
 refine ZbW s Try.func10 B10 N10 Z10 L10 (by simp) ?_
 have hk:=Keep.refl H []
 refine Zk<|Zd rfl<|Zh<|Zk ?_
 obtain ⟨sa,H1,fH1,hs,kH1⟩:=Zcb (kn:=kn0) (lo:=lo) (H:=H) (by omega)
 refine Z6 s (vs:=[]) rfl (YK rfl (by simpa using fH1)) ?_
 have mH1:=kH1.1
 have hk:=hk.trans kH1
 have fs:=hs.old
 refine Zd rfl<|Zo (v:=.slice sa 7 7) rfl (by kernel_rfl)<|Zo (v:=.agg (Gl.f g0).toArray) rfl (by kernel_rfl)<|qx ?_
 intro H2 kH2 nH2 c2
 have c2:Cl H2 H1.next [iv 0,iv 0,iv 0,iv 0]:=c2
 have mH2:=kH2.1
 have hk:=hk.trans kH2
 have hs:=kH2.sl0 hs
 refine Zd rfl<|qU (b:=H1.next) (o:=0) rfl rfl c2 (by omega) rfl rfl (by simp) ?_
 intro H3 kH3 nH3 sH3
 have mH3:=kH3.1
 have hk:=hk.new kH3 (fun b hb=>by simp at hb ⊢;omega)
 have hs:=kH3.sl hs (fun b e=>by have:=fs b e;first | (simp;done) | (simp;omega))
 have c2:Cl H3 H1.next [iv g0.y,iv g0.k,iv g0.b,iv g0.p]:=sH3
 refine Zh<|Zk<|Zd rfl<|Y1 (b:=H1.next) (o:=0) rfl c2.rd (show row 4 _ _=some [iv g0.y,iv g0.k,iv g0.b,iv g0.p] from rfl)<|YR (t:=.fn (.func 11) #[]) (vs:=[.slice sa 7 7,.agg (Gl.f g0).toArray]) rfl (Ye s.hN (U6 (H:=H3) s hs rfl (by omega) (by omega) rfl)) ?_
 rintro _ H4 ⟨uq,rfl,hu,kH4⟩
 rw [aw1.1] at hu
 rw [aw1.2]
 have mH4:=kH4.1
 have hk:=hk.trans kH4
 have hs:=kH4.sl0 hs
 have c2:=kH4.cl c2 (by simp)
 obtain ⟨qa,qcap,rfl,hq,_⟩:=hu.sl
 have fq:=hq.old
 refine Zd rfl<|Zo (v:=.slice qa q0.length qcap) rfl (by kernel_rfl)<|Zo (v:=iv 0) rfl (by kernel_rfl)<|Zd rfl<|Zd rfl<|Zh<|Zk<|Zd rfl<|Y1 (b:=H1.next) (o:=0) rfl c2.rd (show row 4 _ _=some [iv g0.y,iv g0.k,iv g0.b,iv g0.p] from rfl)<|YR (t:=.fn (.func 13) #[]) (vs:=[.slice sa 7 7,.agg (Gl.f g0).toArray,iv 1500]) rfl (Ye s.hN (Za8 (H:=H4) s hs rfl (by omega) (by omega) rfl)) ?_
 rintro _ H5 ⟨up,ue,rfl,hpc,kH5⟩
 obtain ⟨e1,e2⟩:=hpc.uniq aw2
 rw [e1,e2]
 have mH5:=kH5.1
 have hk:=hk.trans kH5
 have hs:=kH5.sl0 hs
 have c2:=kH5.cl c2 (by simp)
 have hq:=kH5.sl0 hq
 refine Zd rfl<|Zo (v:=iv 811) rfl (by kernel_rfl)<|Zo (v:=iv 0) rfl (by kernel_rfl)<|Zd rfl<|Zd rfl<|Zh<|Zk<|Zd rfl<|Y1 (b:=H1.next) (o:=0) rfl c2.rd (show row 4 _ _=some [iv g0.y,iv g0.k,iv g0.b,iv g0.p] from rfl)<|Zo (v:=.agg #[iv 0,iv 3,iv 0,iv 1000]) rfl (by kernel_rfl)<|Zo (v:=.agg #[iv 1,iv 8,iv 3,iv 100]) rfl (by kernel_rfl)<|Zo (v:=.agg #[iv 0,iv 3,iv 0,iv 300]) rfl (by kernel_rfl)<|Zo (v:=.agg #[iv 0,iv 8,iv 0,iv 400]) rfl (by kernel_rfl) ?_
 obtain ⟨H6,hH6⟩:∃ H6,H5.new (.cells [iv 0,iv 3,iv 0,iv 1000,iv 1,iv 8,iv 3,iv 100,iv 0,iv 3,iv 0,iv 300,iv 0,iv 8,iv 0,iv 400] 49 false)=H6:=⟨_,rfl⟩
 refine Xm (v:=.slice (some ⟨H5.next,0,none⟩) 4 4) (H':=H6) (k:=.heavy) rfl (by kernel_rfl) (Eq.trans (by kernel_rfl:_=some (Rs.val (.slice (some ⟨H5.next,0,none⟩) 4 4) (H5.new (.cells [iv 0,iv 3,iv 0,iv 1000,iv 1,iv 8,iv 3,iv 100,iv 0,iv 3,iv 0,iv 300,iv 0,iv 8,iv 0,iv 400] 49 false)),Kd.heavy)) (by rw [hH6])) (fun b e=>by cases e) ?_
 obtain ⟨kH6,nH6,cE⟩:=ZO hH6;clear hH6
 have mH6:=kH6.1
 have hk:=hk.trans kH6
 have hs:=kH6.sl0 hs
 have c2:=kH6.cl c2 (by simp)
 have hq:=kH6.sl0 hq
 refine YR (t:=.fn (.func 18) #[]) (vs:=[.slice sa 7 7,.agg (Gl.f g0).toArray,.slice (some ⟨H5.next,0,none⟩) 4 4]) rfl (Ye s.hN (Zeo (H:=H6) s hs rfl (by omega) (by omega) rfl awv (by rw [awm];decide) (vs:=ev0) (.inr ⟨_,rfl,cE.rd,Nat.le_refl _⟩) rfl (by omega) Zkj)) ?_
 rintro _ H7 ⟨ua,rfl,hua,kH7⟩
 have e3:acs (qtL g0.p (mbL g0 cs0))=al0:=rfl
 rw [e3,aw3.1,aw3.2] at hua
 have mH7:=kH7.1
 have hk:=hk.trans kH7
 have hs:=kH7.sl0 hs
 have c2:=kH7.cl c2 (by simp)
 have hq:=kH7.sl0 hq
 have cE:=kH7.cl cE (by simp)
 obtain ⟨pa,pcap,rfl,hpy,_⟩:=hua.sl
 have fp:=hpy.old
 refine Zd rfl<|Zo (v:=.slice pa 2 pcap) rfl (by kernel_rfl)<|Zo (v:=iv ((4:Nat):Int)) rfl (by kernel_rfl)<|Zo (v:=iv 0) rfl (by kernel_rfl)<|Zd rfl<|Zd rfl<|Zd rfl<|Zh<|Zk<|Zd rfl<|Y1 (b:=H1.next) (o:=0) rfl c2.rd (show row 4 _ _=some [iv g0.y,iv g0.k,iv g0.b,iv g0.p] from rfl)<|YR (t:=.fn (.func 15) #[]) (vs:=[.slice sa 7 7,.agg (Gl.f g0).toArray,iv 100]) rfl (Ye s.hN (Zcl (H:=H7) s hs rfl (by omega) (by omega) rfl)) ?_
 rintro _ H8 ⟨us,ls,es2,rfl,hsh,hsl,kH8⟩
 obtain ⟨e4,e5⟩:=hsh.uniq aw4
 rw [e4] at hsl
 rw [e5]
 have mH8:=kH8.1
 have hk:=hk.trans kH8
 have hs:=kH8.sl0 hs
 have c2:=kH8.cl c2 (by simp)
 have hq:=kH8.sl0 hq
 have cE:=kH8.cl cE (by simp)
 have hpy:=kH8.sl0 hpy
 obtain ⟨ra,rcap,rfl,hr⟩:=hsl
 have fr:=hr.old
 refine Zd rfl<|Zo (v:=.slice ra s0.length rcap) rfl (by kernel_rfl)<|Zo (v:=iv 0) rfl (by kernel_rfl)<|Zd rfl<|Zd rfl<|Zh<|Zk<|Zd rfl<|Zo (v:=.agg #[iv 3,iv 1350,iv 1147]) rfl (by kernel_rfl)<|Zo (v:=.agg #[iv 8,iv 500,iv 425]) rfl (by kernel_rfl) ?_
 obtain ⟨H9,hH9⟩:∃ H9,H8.new (.cells [iv 3,iv 1350,iv 1147,iv 8,iv 500,iv 425] 44 false)=H9:=⟨_,rfl⟩
 refine Xm (v:=.slice (some ⟨H8.next,0,none⟩) 2 2) (H':=H9) (k:=.heavy) rfl (by kernel_rfl) (Eq.trans (by kernel_rfl:_=some (Rs.val (.slice (some ⟨H8.next,0,none⟩) 2 2) (H8.new (.cells [iv 3,iv 1350,iv 1147,iv 8,iv 500,iv 425] 44 false)),Kd.heavy)) (by rw [hH9])) (fun b e=>by cases e) ?_
 obtain ⟨kH9,nH9,cQ⟩:=ZO hH9;clear hH9
 have mH9:=kH9.1
 have hk:=hk.trans kH9
 have hs:=kH9.sl0 hs
 have c2:=kH9.cl c2 (by simp)
 have hq:=kH9.sl0 hq
 have cE:=kH9.cl cE (by simp)
 have hpy:=kH9.sl0 hpy
 have hr:=kH9.sl0 hr
 obtain ⟨H10,fH10,kH10⟩:=K4 (kn:=kn0) (lo:=lo) (H:=H9) (l:=q0) hq (pb:=some ⟨H8.next,0,none⟩) (cap2:=2) (.inr ⟨_,rfl,cQ.rd,Nat.le_refl _⟩) (by decide)
 refine Z6 s (v:=.bool true) (vs:=[.slice qa q0.length qcap,.slice (some ⟨H8.next,0,none⟩) 2 2]) rfl (Zi fH10) ?_
 have mH10:=kH10.1
 have hk:=hk.trans kH10
 have hs:=kH10.sl0 hs
 have c2:=kH10.cl c2 (by simp)
 have hq:=kH10.sl0 hq
 have cE:=kH10.cl cE (by simp)
 have hpy:=kH10.sl0 hpy
 have hr:=kH10.sl0 hr
 have cQ:=kH10.cl cQ (by simp)
 refine Zo (v:=.bool false) rfl rfl<|Zd rfl ?_
 refine YH rfl (Zd rfl ?_)
 refine YH rfl (WD (a:=(0:Int)) (b:=(0:Int)) rfl rfl ?_)
 intro t11 ht11
 have t11e:t11=false:=by rw [← ht11];simp
 subst t11e
 refine Zo (v:=.bool false) rfl rfl<|Zd rfl ?_
 refine YH rfl (Zd rfl ?_)
 refine YH rfl (WD (a:=(811:Int)) (b:=(811:Int)) rfl rfl ?_)
 intro t12 ht12
 have t12e:t12=false:=by rw [← ht12];simp
 subst t12e
 refine Zo (v:=.bool false) rfl rfl<|Zd rfl ?_
 refine YH rfl (Zd rfl ?_)
 refine YH rfl (WD (a:=(0:Int)) (b:=(0:Int)) rfl rfl ?_)
 intro t13 ht13
 have t13e:t13=false:=by rw [← ht13];simp
 subst t13e
 refine Zo (v:=.bool false) rfl rfl<|Zh<|ZQ ?_
 first | refine ZV ?_ | skip
 refine Zk<|Zd rfl<|Zo (v:=.agg #[iv 3,iv 1247,iv 1247,iv 53]) rfl (by kernel_rfl)<|Zo (v:=.agg #[iv 8,iv 325,iv 325,iv 75]) rfl (by kernel_rfl) ?_
 obtain ⟨H14,hH14⟩:∃ H14,H10.new (.cells [iv 3,iv 1247,iv 1247,iv 53,iv 8,iv 325,iv 325,iv 75] 47 false)=H14:=⟨_,rfl⟩
 refine Xm (v:=.slice (some ⟨H10.next,0,none⟩) 2 2) (H':=H14) (k:=.heavy) rfl (by kernel_rfl) (Eq.trans (by kernel_rfl:_=some (Rs.val (.slice (some ⟨H10.next,0,none⟩) 2 2) (H10.new (.cells [iv 3,iv 1247,iv 1247,iv 53,iv 8,iv 325,iv 325,iv 75] 47 false)),Kd.heavy)) (by rw [hH14])) (fun b e=>by cases e) ?_
 obtain ⟨kH14,nH14,cA⟩:=ZO hH14;clear hH14
 have mH14:=kH14.1
 have hk:=hk.trans kH14
 have hs:=kH14.sl0 hs
 have c2:=kH14.cl c2 (by simp)
 have hq:=kH14.sl0 hq
 have cE:=kH14.cl cE (by simp)
 have hpy:=kH14.sl0 hpy
 have hr:=kH14.sl0 hr
 have cQ:=kH14.cl cQ (by simp)
 obtain ⟨H15,fH15,kH15⟩:=Zet (kn:=kn0) (lo:=lo) (H:=H14) (l:=a0) (pa:=pa) (cap1:=pcap) hpy (pb:=some ⟨H10.next,0,none⟩) (cap2:=2) (.inr ⟨_,rfl,cA.rd,Nat.le_refl _⟩) (by decide)
 refine Z6 s (v:=.bool true) (vs:=[.slice pa 2 pcap,.slice (some ⟨H10.next,0,none⟩) 2 2]) rfl (Zi fH15) ?_
 have mH15:=kH15.1
 have hk:=hk.trans kH15
 have hs:=kH15.sl0 hs
 have c2:=kH15.cl c2 (by simp)
 have hq:=kH15.sl0 hq
 have cE:=kH15.cl cE (by simp)
 have hpy:=kH15.sl0 hpy
 have hr:=kH15.sl0 hr
 have cQ:=kH15.cl cQ (by simp)
 have cA:=kH15.cl cA (by simp)
 refine Zo (v:=.bool false) rfl rfl<|Zd rfl ?_
 refine YH rfl (Zd rfl ?_)
 refine YH rfl (WD (a:=(4:Int)) (b:=(4:Int)) rfl rfl ?_)
 intro t16 ht16
 have t16e:t16=false:=by rw [← ht16];simp
 subst t16e
 refine Zo (v:=.bool false) rfl rfl<|Zd rfl ?_
 refine YH rfl (Zd rfl ?_)
 refine YH rfl (WD (a:=(0:Int)) (b:=(0:Int)) rfl rfl ?_)
 intro t17 ht17
 have t17e:t17=false:=by rw [← ht17];simp
 subst t17e
 refine Zo (v:=.bool false) rfl rfl<|Zh<|ZQ ?_
 first | refine ZV ?_ | skip
 refine Zk<|Zd rfl<|Zo (v:=.agg #[iv 3,iv 1350,iv 73]) rfl (by kernel_rfl)<|Zo (v:=.agg #[iv 8,iv 500,iv 27]) rfl (by kernel_rfl) ?_
 obtain ⟨H18,hH18⟩:∃ H18,H15.new (.cells [iv 3,iv 1350,iv 73,iv 8,iv 500,iv 27] 44 false)=H18:=⟨_,rfl⟩
 refine Xm (v:=.slice (some ⟨H15.next,0,none⟩) 2 2) (H':=H18) (k:=.heavy) rfl (by kernel_rfl) (Eq.trans (by kernel_rfl:_=some (Rs.val (.slice (some ⟨H15.next,0,none⟩) 2 2) (H15.new (.cells [iv 3,iv 1350,iv 73,iv 8,iv 500,iv 27] 44 false)),Kd.heavy)) (by rw [hH18])) (fun b e=>by cases e) ?_
 obtain ⟨kH18,nH18,cS⟩:=ZO hH18;clear hH18
 have mH18:=kH18.1
 have hk:=hk.trans kH18
 have hs:=kH18.sl0 hs
 have c2:=kH18.cl c2 (by simp)
 have hq:=kH18.sl0 hq
 have cE:=kH18.cl cE (by simp)
 have hpy:=kH18.sl0 hpy
 have hr:=kH18.sl0 hr
 have cQ:=kH18.cl cQ (by simp)
 have cA:=kH18.cl cA (by simp)
 obtain ⟨H19,fH19,kH19⟩:=K4 (kn:=kn0) (lo:=lo) (H:=H18) (l:=s0) hr (pb:=some ⟨H15.next,0,none⟩) (cap2:=2) (.inr ⟨_,rfl,cS.rd,Nat.le_refl _⟩) (by decide)
 refine Z6 s (v:=.bool true) (vs:=[.slice ra s0.length rcap,.slice (some ⟨H15.next,0,none⟩) 2 2]) rfl (Zi fH19) ?_
 have mH19:=kH19.1
 have hk:=hk.trans kH19
 have hs:=kH19.sl0 hs
 have c2:=kH19.cl c2 (by simp)
 have hq:=kH19.sl0 hq
 have cE:=kH19.cl cE (by simp)
 have hpy:=kH19.sl0 hpy
 have hr:=kH19.sl0 hr
 have cQ:=kH19.cl cQ (by simp)
 have cA:=kH19.cl cA (by simp)
 have cS:=kH19.cl cS (by simp)
 refine Zd rfl ?_
 refine YH rfl (Zd rfl ?_)
 refine YH rfl (UU (a:=(0:Int)) (b:=(0:Int)) rfl rfl ?_)
 intro t20 ht20
 have t20e:t20=true:=by rw [← ht20];simp
 subst t20e
 refine Zo (v:=.bool true) rfl rfl<|Zd rfl<|Zh ?_
 exact And.intro trivial (Exists.intro _ (And.intro rfl rfl))
end
end
end Go.Ax

/-
 Proved here: 'awake',the closed part that every law of quota ends in,returns true in every world,whatever is drawn,and leaves what lay below as_ it was. Conditions: none.
 It has no arguments;it is worked out by the contracts of the functions that it calls (K25).
-/
namespace Go.Ax
open Go Go.RowKit
theorem known_one {P:Program} {g:FuncId} {t:Bool} (hb:((P.funcs[g]?).bind (fun fn=>fn.body)).isSome=true) (hc:∀ w,Calls P g #[] w fun e w'=>e=.returned (.bool t)∧Below w.heap.size w w') :
  Known P ⟨fun f=>bif Nat.beq f g then some t else none,fun _ _ _ _=>none⟩:=by
 refine ⟨?_,fun f lo args H v H' _ h=>by cases h⟩
 intro f b h
 obtain ⟨hf,h1⟩:=Zf h
 clear h
 have hf:=Nat.eq_of_beq_eq_true hf
 subst hf
 cases h1
 refine ⟨?_,hc⟩
 cases hx:P.funcs[f]? with
 | none=>rw [hx] at hb;cases hb
 | some fn=>
  rw [hx] at hb
  cases hy:fn.body with
  | none=>rw [Option.bind_some,hy] at hb;cases hb
  | some c=>exact ⟨fn,c,rfl,hy⟩
theorem known_nothing {P:Program}:Known P ⟨fun _=>none,fun _ _ _ _=>none⟩:=⟨y9.nothing P,fun f lo args H v H' _ h=>by cases h⟩
end Go.Ax
namespace Go.Proofs.Ytobbfhkodccclaa.alive
open Go.RowKit
theorem Zgj:Try.prog.follows .mixedOrders=true:=by kernel_rfl
theorem ZaZ : (Try.prog.funcs.toList.all fun fn => !(fn.name == "runtime.NumGoroutine")) = true := by kernel_rfl
theorem ZbY:Go.Ax.NoCount Try.prog:=fun f fn h=>by
 have h2:=List.all_eq_true.1 ZaZ fn (by
  have:=Array.mem_of_getElem? h
  simpa using this)
 simpa using h2
theorem call (w:World):Calls Try.prog 10 #[] w fun e w'=>e=.returned (.bool true)∧Below w.heap.size w w':=
 Go.Ax.closed_callC (Go.Ax.awake_C ⟨Zgj,ZbY,Go.Ax.known_nothing⟩ (Nat.zero_le _)) w
theorem KR:Go.Ax.Known Try.prog ⟨fun f=>bif Nat.beq f 10 then some true else none,fun _ _ _ _=>none⟩:=Go.Ax.known_one (by kernel_rfl) call
theorem snd:Go.Ax.Snd Try.prog ⟨fun f=>bif Nat.beq f 10 then some true else none,fun _ _ _ _=>none⟩:=⟨Zgj,ZbY,KR⟩
end Go.Proofs.Ytobbfhkodccclaa.alive

/-
 Pool: the law QuotaBases,whatever the input (written by program).
-/
namespace Go.Ax
open Go Go.RowKit Go.Proofs

noncomputable section
theorem ShS.len {cs:List Cp} {g:Gl} {tot e:Int} {l:List Qt} (h:ShS cs g tot l e):l.length≤cs.length:=by
 unfold ShS at h
 split at h
 ·rename_i hv
  split at h
  ·split at h
   ·rw [h.1];simp
   ·obtain ⟨_,ps,_,_,el⟩:=h
    rw [el,qm];exact U3 (zt hv).1
  ·rw [h.1];simp
 ·rw [h.1];simp
section
variable {kn:Kn} {lo:Nat} {H:Hp}
end
end
end Go.Ax

/-
 Pool: the law QuotaLaw,whatever the input: maths and the program (written by program).
-/
namespace Go.Ax
open Go Go.RowKit Go.Proofs

noncomputable section
theorem PcS.cases {cs:List Cp} {g:Gl} {dm v e:Int} (h:PcS cs g dm v e) :
  (v=0∧e=1∧vA cs g=false)∨(v=0∧e=2∧vA cs g=true∧inB dm 0 1099511627776=false)∨(∃ m:Nat,v=m∧e=0∧vA cs g=true∧inB dm 0 1099511627776=true∧Mx (mbL g cs) dm m):=by
 unfold PcS at h
 split at h<;>rename_i hv
 ·split at h<;>rename_i hd
  ·obtain ⟨h1,m,h2,h3⟩:=h;exact .inr (.inr ⟨m,h2,h1,hv,hd,h3⟩)
  ·exact .inr (.inl ⟨h.1,h.2,hv,by simpa using hd⟩)
 ·exact .inl ⟨h.1,h.2,by simpa using hv⟩
set_option maxRecDepth 100000 in
theorem Zh6 {k:Nat} {S:Rg} {d:Option Tmp} {ty:TypeId} {p:String} {x:Operand} {y:Int} (h:0≤y∧y≤4294967295) (hx:evS S x=some (.int .u32 y)):Zn Try.prog (frS k S) ⟨d,.convert 42 3 x,ty,p,#[],none⟩=some (iv y):=by
 have e:∀ z:Int,ZH Try.prog (Go.convert 42 3 (.int .u32 z))=some (.int .i64 (IntKind.i64.wrap z)):=fun z=>by kernel_rfl
 unfold Zn
 simp only [Yo,hx,e,wrap_i64 (x:=y) ⟨by omega,by omega⟩]
 rfl
section
variable {kn:Kn} {lo:Nat} {H:Hp}
end
end
end Go.Ax

/-
 Pool: maths for QuotaCrops (written by program).
-/
namespace Go.Ax
open Go Go.RowKit Go.Proofs

def Xt (A:List Int) (l m:Int):Prop:=(A=[]∧l=0∧m=0)∨(l∈A∧m∈A∧∀ a∈A,l≤a∧a≤m)
theorem Xt.zero:Xt [] 0 0:=.inl ⟨rfl,rfl,rfl⟩
theorem Xt.ne {A:List Int} {l m:Int} (h:Xt A l m) (hn:A≠[]):l∈A∧m∈A∧∀ a∈A,l≤a∧a≤m:=by
 rcases h with h | h
 ·exact absurd h.1 hn
 ·exact h
theorem Xt.add1 {A:List Int} {l m a:Int} (h:Xt A l m) (ha:0≤a) (hc:A.length=0∨a < l):Xt (A ++ [a]) a (max m a):=by
 rcases h with ⟨rfl,rfl,rfl⟩ | ⟨h1,h2,h3⟩
 ·refine .inr ⟨by simp,?_,?_⟩
  ·rw [Int.max_eq_right ha];simp
  ·intro b hb;have:b=a:=by simpa using hb
   subst this;omega
 ·have hal:a < l:=by
   rcases hc with q | q
   ·have:A=[]:=List.eq_nil_of_length_eq_zero q
    rw [this] at h1;cases h1
   ·exact q
  have hlm:=(h3 l h1).2
  refine .inr ⟨by simp,?_,?_⟩
  ·rw [Int.max_eq_left (by omega)];exact List.mem_append_left _ h2
  ·intro b hb
   rcases List.mem_append.1 hb with hb | hb
   ·have:=h3 b hb;omega
   ·have:b=a:=by simpa using hb
    omega
theorem Xt.add2 {A:List Int} {l m a:Int} (h:Xt A l m) (h0:A.length≠0) (hc:¬ a < l):Xt (A ++ [a]) l (max m a):=by
 rcases h with ⟨rfl,_,_⟩ | ⟨h1,h2,h3⟩
 ·exact absurd rfl h0
 ·refine .inr ⟨List.mem_append_left _ h1,?_,?_⟩
  ·rcases Int.le_total m a with q | q
   ·rw [Int.max_eq_right q];simp
   ·rw [Int.max_eq_left q];exact List.mem_append_left _ h2
  ·intro b hb
   rcases List.mem_append.1 hb with hb | hb
   ·have:=h3 b hb;omega
   ·have:b=a:=by simpa using hb
    omega
theorem Xt.in {A:List Int} {l m B:Int} (h:Xt A l m) (hB:0≤B) (hA:∀ a∈A,0≤a∧a≤B):0≤l∧l≤B∧0≤m∧m≤B:=by
 rcases h with ⟨_,rfl,rfl⟩ | ⟨h1,h2,_⟩
 ·omega
 ·have:=hA l h1;have:=hA m h2;omega
theorem ZdZ {g:Gl} {cs:List Cp} {x l m:Int} (hg:vG g=true) (hne:ZN g x cs≠[]) (h:Xt (ZN g x cs) l m):l≤bs g cs x∧bs g cs x≤m∧(g.b=1→bs g cs x=m):=by
 have hv:=zf hg
 obtain ⟨h1,h2,h3⟩:=h.ne hne
 have hlen:0 < (dsc (ZN g x cs)).length:=by rw [V7];exact List.length_pos_iff.2 hne
 have hin:=Zex (k:=g.b.toNat) (by omega) hlen (lo:=l) (hi:=m) fun a ha=>h3 a ((XA _).mem_iff.1 ha)
 refine ⟨hin.1,hin.2,fun h1b=>?_⟩
 have e1:g.b.toNat=1:=by omega
 unfold bs
 rw [e1,Zfh hlen]
 have hm:m∈dsc (ZN g x cs):=(XA _).mem_iff.2 h2
 have hf:=VG (ZN g x cs)
 cases hd:dsc (ZN g x cs) with
 | nil=>rw [hd] at hlen;simp at hlen
 | cons y t=>
  rw [hd] at hm hf
  have hy:y∈ZN g x cs:=(XA _).mem_iff.1 (by rw [hd];simp)
  have:=(h3 y hy).2
  show y=m
  rcases List.mem_cons.1 hm with e | e
  ·exact e.symm
  ·have:=(List.pairwise_cons.1 hf).1 m e;omega
theorem Zft {ms:List Mb} {i:Nat} (h:i < ms.length):ms.getD i Mb.z∈ms:=by
 rw [List.getD_eq_getElem?_getD,List.getElem?_eq_getElem h];exact List.getElem_mem h
theorem ZfR {g:Gl} {cs:List Cp} (hb:cs.any YM=false) {i:Nat} (h:i < (mbL g cs).length):ZN g ((mbL g cs).getD i Mb.z).g cs≠[]∧((mbL g cs).getD i Mb.z).b=bs g cs ((mbL g cs).getD i Mb.z).g:=
 (KM hb).1 (Zft h)
theorem ZiG {ms:List Mb} (hr:ms.Pairwise fun a b=>a.g < b.g) {i j:Nat} (hij:i < j) (h:j < ms.length):(ms.getD i Mb.z).g < (ms.getD j Mb.z).g:=by
 have:=List.pairwise_iff_getElem.1 hr i j (by omega) h hij
 rw [List.getD_eq_getElem?_getD,List.getElem?_eq_getElem (by omega),List.getD_eq_getElem?_getD,List.getElem?_eq_getElem h]
 exact this
theorem Zhm {ms:List Mb} {f:Mb→Mb} {i:Nat} (h:i < ms.length):(ms.map f).getD i Mb.z=f (ms.getD i Mb.z):=by
 rw [List.getD_eq_getElem?_getD,List.getElem?_map,List.getD_eq_getElem?_getD,List.getElem?_eq_getElem h];rfl
theorem Zew {a b p:Int} (h:a≤b) (hp:0≤p):a * p / 1000≤b * p / 1000:=Int.ediv_le_ediv (by decide) (Int.mul_le_mul_of_nonneg_right h hp)
theorem ZiA {g:Gl} {cs:List Cp} {i j:Nat} (hij:i < j) (h:j < (mbL g cs).length):((mbL g cs).getD i Mb.z).g < ((mbL g cs).getD j Mb.z).g:=ZiG UW hij h
theorem ZcC {g:Gl} {x:Int} {cs ds:List Cp} (h:cs.Perm ds):(ZN g x cs).Perm (ZN g x ds):=(h.filter _).map _
theorem ZgW {a b:List Int} (h:a.Perm b):dsc a=dsc b:=Zd4 ((XA a).trans h) (VG a)
theorem ZdK {g:Gl} {cs ds:List Cp} (h:cs.Perm ds):mbL g cs=mbL g ds:=by
 unfold mbL mbU
 congr 1
 funext x
 have hp:=ZcC (g:=g) (x:=x) h
 unfold mbx bs
 rw [ZgW hp]
 by_cases e:ZN g x cs=[]
 ·rw [if_pos e,if_pos (List.eq_nil_of_length_eq_zero (by rw [← hp.length_eq,e];rfl))]
 ·rw [if_neg e,if_neg (fun q=>e (List.eq_nil_of_length_eq_zero (by rw [hp.length_eq,q];rfl)))]
theorem Zdy {α:Type} {p:α→Bool} {a b:List α} (h:a.Perm b):a.any p=b.any p:=by
 rw [Bool.eq_iff_iff,List.any_eq_true,List.any_eq_true]
 exact ⟨fun ⟨x,hx,q⟩=>⟨x,h.mem_iff.1 hx,q⟩,fun ⟨x,hx,q⟩=>⟨x,h.mem_iff.2 hx,q⟩⟩
theorem ZfP {cs ds:List Cp} (h:cs.Perm ds):vC cs=vC ds:=by
 unfold vC tw
 rw [h.length_eq,Zdy h,decide_eq_decide.2 (h.map twk).nodup_iff]
theorem ZcW {g:Gl} {cs ds:List Cp} (h:cs.Perm ds):quL cs g=quL ds g∧quE cs g=quE ds g:=by
 unfold quL quE vA
 rw [ZfP h,ZdK h]
 exact ⟨rfl,rfl⟩
def JX (ds:List Cp) (t:Nat):List Cp:=(List.range ds.length).map fun i=>ds.getD ((i+t) % ds.length) Cp.z
theorem W6 {ds:List Cp} {t:Nat}:(JX ds t).length=ds.length:=by simp [JX]
theorem Zfw {ds:List Cp} {t i:Nat} (h:i < ds.length):(JX ds t).getD i Cp.z=ds.getD ((i+t) % ds.length) Cp.z:=by
 rw [List.getD_eq_getElem?_getD,List.getElem?_eq_getElem (by rw [W6];exact h)]
 simp [JX]
theorem ZfF {ds:List Cp} {t:Nat} (h0:0 < ds.length):JX ds t=ds.drop (t % ds.length) ++ ds.take (t % ds.length):=by
 have ht:t % ds.length < ds.length:=Nat.mod_lt _ h0
 apply List.ext_getElem
 ·rw [W6];simp;omega
 ·intro i h1 h2
  have hi:i < ds.length:=by rwa [W6] at h1
  have e:(JX ds t)[i]=ds.getD ((i+t) % ds.length) Cp.z:=by simp [JX]
  rw [e,List.getElem_append]
  have em:(i+t) % ds.length=(i+t % ds.length) % ds.length:=by rw [Nat.add_mod_mod]
  split
  ·rename_i h3
   simp only [List.length_drop] at h3
   rw [em,Nat.mod_eq_of_lt (by omega),List.getD_eq_getElem?_getD,List.getElem?_eq_getElem (by omega)]
   simp [Nat.add_comm]
  ·rename_i h3
   simp only [List.length_drop] at h3
   rw [em,Nat.mod_eq_sub_mod (by omega),Nat.mod_eq_of_lt (by omega),List.getD_eq_getElem?_getD,List.getElem?_eq_getElem (by omega)]
   simp only [List.getElem_take,List.length_drop,Option.getD_some]
   congr 1
   omega
theorem Zco {ds:List Cp} {t:Nat}:(JX ds t).Perm ds:=by
 by_cases h0:0 < ds.length
 ·rw [ZfF h0]
  exact List.perm_append_comm.trans (by rw [List.take_append_drop])
 ·have:ds=[]:=List.eq_nil_of_length_eq_zero (by omega)
  subst this;simp [JX]
def YP (cs:List Cp) (k:Nat) (v:Int):List Cp:=cs.set k ⟨(cs.getD k Cp.z).r,(cs.getD k Cp.z).y,v⟩
theorem jV {cs:List Cp} {k:Nat} {v:Int}:(YP cs k v).length=cs.length:=by unfold YP;rw [List.length_set]
theorem yN {cs:List Cp} {k:Nat} (h:k < cs.length):cs=cs.take k ++ cs.getD k Cp.z :: cs.drop (k+1):=by
 conv=>lhs;rw [← List.take_append_drop k cs,List.drop_eq_getElem_cons h]
 rw [List.getD_eq_getElem?_getD,List.getElem?_eq_getElem h];rfl
theorem qw {cs:List Cp} {k:Nat} {v:Int} (h:k < cs.length):YP cs k v=cs.take k ++ ⟨(cs.getD k Cp.z).r,(cs.getD k Cp.z).y,v⟩ :: cs.drop (k+1):=by
 unfold YP;rw [List.set_eq_take_append_cons_drop,if_pos h]
theorem Ze4 {cs:List Cp} {k:Nat} {v:Int} (h:k < cs.length):(YP cs k v).map twk=cs.map twk:=by
 rw [qw h]
 conv=>rhs;rw [yN h]
 simp only [List.map_append,List.map_cons]
 rfl
theorem ZgV {cs:List Cp} {g:Gl} {k:Nat} {v:Int} (hv:vA cs g=true) (h:k < cs.length) (h0:0≤v) (h1:v≤1099511627776):vA (YP cs k v) g=true:=by
 unfold vA vC tw at hv ⊢
 rw [jV,Ze4 h]
 simp only [Bool.and_eq_true] at hv ⊢
 obtain ⟨⟨⟨a1,a2⟩,a3⟩,a4⟩:=hv
 refine ⟨⟨⟨a1,?_⟩,a3⟩,a4⟩
 rw [qw h]
 rw [yN h] at a2
 simp only [List.any_append,List.any_cons,Bool.not_eq_true',Bool.or_eq_false_iff] at a2 ⊢
 refine ⟨a2.1,?_,a2.2.2⟩
 have:=Qz a2.2.1
 simp only [YM,inB,Bool.or_eq_false_iff,Bool.not_eq_false',Bool.and_eq_true,decide_eq_true_eq]
 omega
theorem ZbV {g:Gl} {x:Int} {c:Cp} {v:Int}:okX g x ⟨c.r,c.y,v⟩=okX g x c:=rfl
theorem jn {g:Gl} {x:Int} {cs:List Cp} {k:Nat} {v:Int} (h:k < cs.length) :
  (okX g x (cs.getD k Cp.z)=false∧ZN g x (YP cs k v)=ZN g x cs)∨(okX g x (cs.getD k Cp.z)=true∧∃ j,j < (ZN g x cs).length∧(ZN g x cs).getD j 0=(cs.getD k Cp.z).a∧ZN g x (YP cs k v)=(ZN g x cs).set j v):=by
 have e1:ZN g x cs=ZN g x (cs.take k) ++ ZN g x (cs.getD k Cp.z :: cs.drop (k+1)):=by
  conv=>lhs;rw [yN h]
  unfold ZN;rw [List.filter_append,List.map_append]
 have e2:ZN g x (YP cs k v)=ZN g x (cs.take k) ++ ZN g x (⟨(cs.getD k Cp.z).r,(cs.getD k Cp.z).y,v⟩ :: cs.drop (k+1)):=by
  rw [qw h];unfold ZN;rw [List.filter_append,List.map_append]
 cases hq:okX g x (cs.getD k Cp.z) with
 | false=>
  refine .inl ⟨rfl,?_⟩
  rw [e1,e2]
  congr 1
  unfold ZN
  rw [List.filter_cons,ZbV,hq,List.filter_cons,hq];rfl
 | true=>
  have f1:ZN g x (cs.getD k Cp.z :: cs.drop (k+1))=(cs.getD k Cp.z).a :: ZN g x (cs.drop (k+1)):=by
   unfold ZN;rw [List.filter_cons,hq];rfl
  have f2:ZN g x (⟨(cs.getD k Cp.z).r,(cs.getD k Cp.z).y,v⟩ :: cs.drop (k+1))=v :: ZN g x (cs.drop (k+1)):=by
   unfold ZN;rw [List.filter_cons,ZbV,hq];rfl
  rw [f1] at e1
  rw [f2] at e2
  refine .inr ⟨rfl,(ZN g x (cs.take k)).length,?_,?_,?_⟩
  ·rw [e1];simp
  ·rw [e1,List.getD_eq_getElem?_getD,List.getElem?_append_right (Nat.le_refl _)];simp
  ·rw [e1,e2,List.set_append_right _ _ (Nat.le_refl _)];simp
theorem yu {g:Gl} {x:Int} {cs:List Cp} {k:Nat} {v:Int} (h:k < cs.length):ZN g x (YP cs k v)=[]↔ZN g x cs=[]:=by
 rcases jn (g:=g) (x:=x) (v:=v) h with ⟨_,e⟩ | ⟨_,j,hj,_,e⟩
 ·rw [e]
 ·rw [e]
  constructor<;>intro q
  ·have:=congrArg List.length q;rw [List.length_set] at this;exact List.eq_nil_of_length_eq_zero this
  ·rw [q];rfl
theorem ZgC {g:Gl} {x:Int} {cs:List Cp} {k:Nat} {v:Int} (hg:vG g=true) (h:k < cs.length) (hv:(cs.getD k Cp.z).a≤v):bs g cs x≤bs g (YP cs k v) x∧(x≠(cs.getD k Cp.z).r→bs g (YP cs k v) x=bs g cs x):=by
 have hgt:=zf hg
 rcases jn (g:=g) (x:=x) (v:=v) h with ⟨_,e⟩ | ⟨ho,j,hj,ej,e⟩
 ·unfold bs;rw [e];exact ⟨Int.le_refl _,fun _=>rfl⟩
 ·refine ⟨?_,fun hx=>?_⟩
  ·unfold bs
   exact ZaW (by omega) (VG _) (VG _) (XA _) (by rw [e];exact XA _) hj (by rw [ej];exact hv)
  ·exfalso
   unfold okX at ho
   simp only [Bool.and_eq_true,decide_eq_true_eq] at ho
   exact hx ho.1.symm
theorem Zbz {g:Gl} {cs:List Cp} {k:Nat} {v:Int} (h:k < cs.length):mbL g (YP cs k v)=(mbL g cs).map fun m=>⟨m.g,bs g (YP cs k v) m.g⟩:=by
 unfold mbL mbU
 rw [List.map_filterMap]
 congr 1
 funext x
 unfold mbx
 by_cases e:ZN g x cs=[]
 ·rw [if_pos e,if_pos ((yu h).2 e)];rfl
 ·rw [if_neg e,if_neg (fun q=>e ((yu h).1 q))];rfl
theorem XD {g:Gl} {cs:List Cp} {k:Nat} {v:Int} (h:k < cs.length):(mbL g (YP cs k v)).length=(mbL g cs).length:=by rw [Zbz h,List.length_map]
theorem Zfm {m m2:Mb} {B r p:Int} (e:m2=⟨m.g,B⟩) (hm:m.b≤B) (hq:m.g≠r→B=m.b) (hp:0≤p):m2.g=m.g∧m.b≤m2.b∧m.b * p / 1000≤m2.b * p / 1000∧(m.g≠r→m2=m):=by
 subst e;exact ⟨rfl,hm,Zew hm hp,fun q=>by rw [hq q]⟩
theorem ZdX {g:Gl} {cs:List Cp} {k i:Nat} {v:Int} (hb:cs.any YM=false) (hg:vG g=true) (h:k < cs.length) (hv:(cs.getD k Cp.z).a≤v) (hi:i < (mbL g cs).length) :
  ((mbL g (YP cs k v)).getD i Mb.z).g=((mbL g cs).getD i Mb.z).g∧((mbL g cs).getD i Mb.z).b≤((mbL g (YP cs k v)).getD i Mb.z).b∧
   ((mbL g cs).getD i Mb.z).b * g.p / 1000≤((mbL g (YP cs k v)).getD i Mb.z).b * g.p / 1000∧
   (((mbL g cs).getD i Mb.z).g≠(cs.getD k Cp.z).r→(mbL g (YP cs k v)).getD i Mb.z=(mbL g cs).getD i Mb.z):=by
 have e:(mbL g (YP cs k v)).getD i Mb.z=⟨((mbL g cs).getD i Mb.z).g,bs g (YP cs k v) ((mbL g cs).getD i Mb.z).g⟩:=by
  rw [Zbz h,Zhm hi]
 have hm:=(ZfR hb hi).2
 obtain ⟨b1,b2⟩:=ZgC (x:=((mbL g cs).getD i Mb.z).g) hg h hv
 exact Zfm e (by rw [hm];exact b1) (fun q=>by rw [b2 q,← hm]) (by have hgt:=zf hg;omega)
theorem ZcA {cs:List Cp} {k:Nat} {v:Int} (h:k < cs.length):cpc (YP cs k v)=(cpc cs).set (0+k * 3+2) (iv v):=by
 rw [qw h]
 conv=>rhs;rw [yN h]
 have hl:(cpc (cs.take k)).length=k * 3:=by rw [KB,List.length_take];congr 1;omega
 have e:∀ a b:List Cp,cpc (a ++ b)=cpc a ++ cpc b:=fun a b=>by unfold cpc;rw [List.flatMap_append]
 have e2:∀ (c:Cp) (b:List Cp),cpc (c :: b)=iv c.r :: iv c.y :: iv c.a :: cpc b:=fun c b=>rfl
 rw [e,e2,e,e2,List.set_append_right _ _ (by rw [hl];omega),hl,show 0+k * 3+2 - k * 3=2 by omega]
 rfl
end Go.Ax


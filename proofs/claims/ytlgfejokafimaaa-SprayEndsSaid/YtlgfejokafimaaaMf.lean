import Derived.Test.YtlgfejokafimaaaMe
import Derived.Test.YtlgfejokafimaaaRows
import Derived.Test.YtlgfejokafimaaaChecked
import Derived.Deep.Slices
import Derived.Deep.Fields
import Derived.ChangeSame
set_option linter.all false
/-
 Pool: first,latest (84,83) (written by program).
-/
namespace Go.Ax
open Go Go.RowKit Go.Proofs

noncomputable section
theorem Zdg:∃ i,Try.prog.info? 3=some i∧i.bytes≤8:=by
 have h:(Try.prog.info? 3).map (fun i=>Nat.ble i.bytes 8)=some true:=by kernel_rfl
 cases e:Try.prog.info? 3 with
 | none=>rw [e] at h;cases h
 | some i=>rw [e] at h;exact ⟨i,rfl,Nat.le_of_ble_eq_true (by simpa using h)⟩
theorem ZdN {n:Nat}:plc n (fun _=>0)=jv (List.replicate n 0):=by
 apply List.ext_getElem?
 intro i
 unfold plc jv
 by_cases h:i < n
 ·rw [List.getElem?_map,List.getElem?_range h,List.getElem?_map,List.getElem?_replicate,if_pos h];rfl
 ·rw [List.getElem?_eq_none (by simp;omega),List.getElem?_eq_none (by simp;omega)]
theorem OkQ.zero {D:Nat→List Int} {B:Nat→Int} {cr lim:Int} {p:Nat→Int}:OkQ 0 D B cr lim p:=⟨fun i h=>by omega,fun i h=>by omega,fun i j _ h=>by omega,fun i h=>by omega⟩
theorem zT.none_ {n:Nat} {D:Nat→List Int} {B:Nat→Int} {cr lim:Int} {p:Nat→Int} {s:Nat→Bool} (h:zT n D B cr lim 0 p s):∀ q,¬ OkQ n D B cr lim q:=fun q hq=>h.2 q hq fun b hb=>by have:=h.1 b hb;omega
section
variable {kn:Kn} {lo:Nat} {H:Hp}
theorem qW {sa:Option Addr} {n cap:Nat} {p:Nat→Int} (hs:Sl H sa n cap (plc n p)) (hn:n≤1000):∃ H',FnX Try.prog kn lo 83 [.slice sa n cap] H (iv (ltQ n p)) H'∧Zf H H' []:=by
 have key:=Zt (kn:=kn) (lo:=lo) (H:=H) (args:=[.slice sa n cap]) (Q:=fun w H'=>w=iv (ltQ n p)∧Zf H H' []) Try.func83 B83 N83 Z83 L83 (by simp) ?_
 ·obtain ⟨w,H',h,rfl,q⟩:=key;exact ⟨H',h,q⟩
 have hk:=Zf.refl H []
 refine Ze<|Za rfl<|Zb<|Ze<|Za rfl<|Zb<|Ze<|Za rfl<|YL (m:=n) rfl<|Za rfl<|Zb ?_
 refine YO (fn:=Try.f83) ZdQ N83 Zdv (fun i:Nat=>[(3,iv (ltQ i p)),(6,.slice sa n cap),(7,iv (n:Int)),(8,iv (i:Int))])
  (fun k i H'=>i+k=n∧Zf H H' []) n 0 ⟨by simp,hk⟩ ⟨rfl,rfl,rfl,rfl,trivial⟩ ?_
 rintro k i L1 ⟨hik,hk⟩
 refine Ze<|YY (a:=(i:Int)) (b:=(n:Int)) rfl rfl<|Zb ?_
 refine And.intro (fun q1=>?_) (fun q1=>?_)
 ·have q1:(i:Int) < (n:Int):=of_decide_eq_true q1
  first | refine ZK ?_ | skip
  refine Ze ?_
  have hin:i < n:=by omega
  have sq0:=hk.sl0 hs
  rcases id sq0 with ⟨_,h0q,_⟩ | ⟨qb,eq,rq,_⟩
  ·omega
  have lq:=rq.1
  have oq:=hs.old qb eq
  refine XH (b:=qb) (o:=0) (k:=i) (j:=(i:Int)) (by rw [← eq];rfl) rfl rfl hin<|ZD (b:=qb) (o:=0+i * 1) (v:=iv (p i)) rfl rq (jU hin)<|Za rfl<|Zb ?_
  show Zw _ _ _ _ _ _ _ _
  refine Za rfl<|Za rfl<|Zco (a:=(ltQ i p)) (b:=(p i)) rfl rfl<|Za rfl<|Zb ?_
  show Zw _ _ _ _ _ _ _ _
  refine Yw (a:=(i:Int)) (b:=1) rfl rfl ⟨by omega,by omega⟩<|Za rfl<|Zb ?_
  exact ⟨k - 1,i+1,by omega,⟨by omega,hk⟩,rfl,rfl,rfl,rfl,trivial⟩
 ·have q1:¬ ((i:Int) < (n:Int)):=of_decide_eq_false q1
  first | (refine Vb ?_;show wC _ _ _ _ _ _ _ _ _) | skip
  refine Ze<|Za rfl<|Za rfl<|Zb ?_
  have e:i=n:=by omega
  subst e
  exact And.intro trivial (Exists.intro _ (And.intro rfl ⟨rfl,hk⟩))
set_option maxRecDepth 100000 in
set_option maxHeartbeats 1000000 in
theorem Zaj (s:Snd Try.prog kn) {n:Nat} {D:Nat→List Int} {B:Nat→Int} {cr:Int} {ba da:Option Addr} {bc dc:Nat} {sa:Nat→Option Addr} {cq:Nat→Nat} (hbs:Sl H ba n bc (plc n B)) (hds:Sl H da n dc (KV n sa D cq)) (hdd:∀ k,k < n→Sl H (sa k) (D k).length (cq k) (cI (D k))) (hn:n≤8) (hcr:1≤cr) (hDs:∀ k,k < n→(D k).Pairwise (· < ·)) (hDl:∀ k,k < n→(D k).length≤41) {lim:Int} (hlo:lo≤H.next) :
  FnM Try.prog lo 84 [.agg #[.slice ba n bc,.slice da n dc,iv cr],iv lim] H fun v H'=>Zf H H' []∧∃ pb,lo≤pb∧H.next≤pb∧((∃ p,v=.tuple #[.slice (some ⟨pb,0,none⟩) n n,.bool true]∧Uq n D B cr lim 0 (fun _=>0) p∧Rd H' pb (plc n p))∨(v=.tuple #[.slice (some ⟨pb,0,none⟩) n n,.bool false]∧∀ q,¬ OkQ n D B cr lim q)):=by
 refine WA s Try.func84 B84 N84 Z84 L84 (by simp) ?_
 have hk:=Zf.refl H []
 have ob:=hbs.old
 have od:=hds.old
 refine Zm<|Vu (v:=.agg #[.slice ba n bc,.slice da n dc,iv cr]) rfl ?_
 intro H1 kH1 nH1 c1
 have c1:Cl H1 H.next [.slice ba n bc,.slice da n dc,iv cr]:=c1
 have mH1:=kH1.1
 have hk:=hk.trans kH1
 refine Vu (v:=iv lim) rfl ?_
 intro H2 kH2 nH2 c2
 have c2:Cl H2 H1.next [iv lim]:=c2
 have mH2:=kH2.1
 have hk:=hk.trans kH2
 have c1:=kH2.cl c1 (by simp)
 refine Zd rfl<|Zd rfl<|Zi<|Zm<|YB (b:=H.next) (o:=0) rfl<|YE (b:=H.next) (o:=1) (v:=.slice da n dc) rfl c1.rd rfl<|W0 (m:=n) rfl ?_
 obtain ⟨i3,hi3,hby⟩:=Zdg
 obtain ⟨H3,hH3⟩:∃ H3,H2.new (.cells (jv (List.replicate n 0)) 3 false)=H3:=⟨_,rfl⟩
 refine Wk (v:=.slice (some ⟨H2.next,0,none⟩) n n) (H':=H3) (k:=.heavy) rfl (by kernel_rfl) ((JR (m:=n) y9 zo3 hi3 hby rfl rfl (by omega)).trans (by rw [hH3])) (fun b e=>by cases e) ?_
 obtain ⟨kH3,nH3,cp⟩:=ZM hH3;clear hH3
 have mH3:=kH3.1
 have hk:=hk.trans kH3
 have c1:=kH3.cl c1 (by simp)
 have c2:=kH3.cl c2 (by simp)
 obtain ⟨pb,epb⟩:∃ pb,pb=H2.next:=⟨_,rfl⟩
 rw [← ZdN,← epb] at cp
 have cp:Cl H3 pb (plc n fun _=>0):=cp
 rw [← epb]
 refine W4 ?_
 intro H4 kH4 nH4 c4
 have c4:Cl H4 H3.next [.slice none 0 0]:=c4
 have mH4:=kH4.1
 have hk:=hk.trans kH4
 have c1:=kH4.cl c1 (by simp)
 have c2:=kH4.cl c2 (by simp)
 have cp:=kH4.cl cp (by simp)
 refine Zaa (b:=H3.next) (o:=0) rfl rfl c4 (by omega) rfl rfl (by simp) ?_
 intro H5 kH5 nH5 sH5
 have mH5:=kH5.1
 have hk:=hk.new kH5 (fun b hb=>by simp at hb ⊢;omega)
 have c1:=kH5.cl c1 (by first | (simp;done) | (simp;omega))
 have c2:=kH5.cl c2 (by first | (simp;done) | (simp;omega))
 have cp:=kH5.cl cp (by first | (simp;done) | (simp;omega))
 have c4:Cl H5 H3.next [.slice (some ⟨pb,0,none⟩) n n]:=sH5
 refine Zi<|Zm<|qH (enc:=seV) ?_
 intro H6 kH6 nH6 hmp
 have mH6:=kH6.1
 have hk:=hk.trans kH6
 have c1:=kH6.cl c1 (by simp)
 have c2:=kH6.cl c2 (by simp)
 have cp:=kH6.cl cp (by simp)
 have c4:=kH6.cl c4 (by simp)
 obtain ⟨gb,egb⟩:∃ gb,gb=H5.next:=⟨_,rfl⟩
 rw [← egb] at hmp ⊢
 refine W4 ?_
 intro H7 kH7 nH7 c7
 have c7:Cl H7 H6.next [(.map none)]:=c7
 have mH7:=kH7.1
 have hk:=hk.trans kH7
 have c1:=kH7.cl c1 (by simp)
 have c2:=kH7.cl c2 (by simp)
 have cp:=kH7.cl cp (by simp)
 have c4:=kH7.cl c4 (by simp)
 have hmp:=kH7.mpa hmp (by simp)
 refine Zaa (b:=H6.next) (o:=0) rfl rfl c7 (by omega) rfl rfl (by simp) ?_
 intro H8 kH8 nH8 sH8
 have mH8:=kH8.1
 have hk:=hk.new kH8 (fun b hb=>by simp at hb ⊢;omega)
 have c1:=kH8.cl c1 (by first | (simp;done) | (simp;omega))
 have c2:=kH8.cl c2 (by first | (simp;done) | (simp;omega))
 have cp:=kH8.cl cp (by first | (simp;done) | (simp;omega))
 have c4:=kH8.cl c4 (by first | (simp;done) | (simp;omega))
 have hmp:=kH8.mpa hmp (by simp;omega)
 have c7:Cl H8 H6.next [.map (some gb)]:=sH8
 refine Zi<|Zm<|W4 ?_
 intro H9 kH9 nH9 c9
 have c9:Cl H9 H8.next [.nilFunc]:=c9
 have mH9:=kH9.1
 have hk:=hk.trans kH9
 have c1:=kH9.cl c1 (by simp)
 have c2:=kH9.cl c2 (by simp)
 have cp:=kH9.cl cp (by simp)
 have c4:=kH9.cl c4 (by simp)
 have hmp:=kH9.mpa hmp (by simp)
 have c7:=kH9.cl c7 (by simp)
 refine Zi<|Zm<|Zl (v:=.func (.func 99) #[] #[pt H3.next,pt H.next,pt H6.next,pt H1.next,pt H8.next]) rfl (by kernel_rfl)<|Zaa (b:=H8.next) (o:=0) rfl rfl c9 (by omega) rfl rfl (by simp) ?_
 intro H10 kH10 nH10 sH10
 have mH10:=kH10.1
 have hk:=hk.new kH10 (fun b hb=>by simp at hb ⊢;omega)
 have c1:=kH10.cl c1 (by first | (simp;done) | (simp;omega))
 have c2:=kH10.cl c2 (by first | (simp;done) | (simp;omega))
 have cp:=kH10.cl cp (by first | (simp;done) | (simp;omega))
 have c4:=kH10.cl c4 (by first | (simp;done) | (simp;omega))
 have hmp:=kH10.mpa hmp (by simp;omega)
 have c7:=kH10.cl c7 (by first | (simp;done) | (simp;omega))
 have c9:Cl H10 H8.next [.func (.func 99) #[] #[pt H3.next,pt H.next,pt H6.next,pt H1.next,pt H8.next]]:=sH10
 refine Zi<|Zm<|YE (b:=H8.next) (o:=0) (v:=.func (.func 99) #[] #[pt H3.next,pt H.next,pt H6.next,pt H1.next,pt H8.next]) rfl c9.rd rfl ?_
 have ho:PqO (⟨n,D,B,cr,lim,H3.next,H.next,H6.next,H1.next,H8.next,pb,gb,ba,bc,da,dc,sa,cq⟩:Pq):=⟨by show pb≠gb;omega,by show H3.next≠pb∧H3.next≠gb;omega,by show H.next≠pb∧H.next≠gb;omega,by show H6.next≠pb∧H6.next≠gb;omega,by show H1.next≠pb∧H1.next≠gb;omega,by show H8.next≠pb∧H8.next≠gb;omega,fun b e=>by have:=ob b e;show b≠pb∧b≠gb;omega,fun b e=>by have:=od b e;show b≠pb∧b≠gb;omega,fun k hk b e=>by have:=(hdd k hk).old b e;show b≠pb∧b≠gb;omega⟩
 have hP:PqH (⟨n,D,B,cr,lim,H3.next,H.next,H6.next,H1.next,H8.next,pb,gb,ba,bc,da,dc,sa,cq⟩:Pq) H10:=⟨c4.rd,c1.rd,c7.rd,c2.rd,c9.rd,hk.sl0 hbs,hk.sl0 hds,fun k hk2=>hk.sl0 (hdd k hk2),cp.1,hmp.1⟩
 have ht:=ZaV (lo:=lo) s ho hn hcr hDs hDl (by show lo≤pb;omega) (by show lo≤gb;omega) n (j:=0) (p:=fun _=>0) (p0:=fun _=>0) (H:=H10) (by show 0+n=n;omega) hP (fun _ _=>rfl) cp hmp DnQ.nil OkQ.zero
 refine XM (t:=.fn (.func 99) #[pt H3.next,pt H.next,pt H6.next,pt H1.next,pt H8.next]) rfl (Ua s.hN (by simpa using ht)) ?_
 rintro v H11 ⟨hres,kH11⟩
 have kH11:Zf H10 H11 [pb,gb]:=kH11
 have mH11:=kH11.1
 have hk:=hk.new kH11 (fun b hb=>by simp at hb ⊢;omega)
 have c1:=kH11.cl c1 (by first | (simp;done) | (simp;omega))
 have c2:=kH11.cl c2 (by first | (simp;done) | (simp;omega))
 have c4:=kH11.cl c4 (by first | (simp;done) | (simp;omega))
 have c7:=kH11.cl c7 (by first | (simp;done) | (simp;omega))
 have c9:=kH11.cl c9 (by first | (simp;done) | (simp;omega))
 rcases hres with ⟨p2,rfl,hf,cp⟩ | ⟨m,p2,L,c,rfl,hm,hbad,_,cp,_,_⟩
 ·refine Zd rfl<|Zl (v:=.int .u8 0) rfl (by kernel_rfl)<|Zl (v:=.bool true) rfl (by kernel_rfl)<|Zd rfl<|Zd rfl<|Zi<|Zm<|YE (b:=H3.next) (o:=0) (v:=.slice (some ⟨pb,0,none⟩) n n) rfl c4.rd rfl<|Zd rfl<|Zd rfl<|Zd rfl<|Zi ?_
  exact And.intro trivial (Exists.intro _ (And.intro rfl ⟨hk,pb,by omega,by omega,.inl ⟨p2,rfl,hf,cp.rd⟩⟩))
 ·refine Zd rfl<|Zl (v:=.int .u8 ((m:Nat):Int)) rfl (by kernel_rfl)<|Zl (v:=.bool false) rfl (by kernel_rfl)<|Zd rfl<|Zd rfl<|Zi<|Zm<|YE (b:=H3.next) (o:=0) (v:=.slice (some ⟨pb,0,none⟩) n n) rfl c4.rd rfl<|Zd rfl<|Zd rfl<|Zd rfl<|Zi ?_
  exact And.intro trivial (Exists.intro _ (And.intro rfl ⟨hk,pb,by omega,by omega,.inr ⟨rfl,hbad.none_⟩⟩))
end
end
end Go.Ax

/-
 Pool: best (55) (written by program).
-/
namespace Go.Ax
open Go Go.RowKit Go.Proofs

noncomputable section
def FdQ (n:Nat) (D:Nat→List Int) (B:Nat→Int) (cr:Int) (lim:Int) (pv:Value) (fd:Bool) (H':Hp):Prop:=
 (fd=false∧pv=.slice none 0 0∧lim=16384)∨(fd=true∧∃ p pb,pv=.slice (some ⟨pb,0,none⟩) n n∧SoQ n D B cr 16384 p∧lim=ltQ n p - 1∧Rd H' pb (plc n p))
theorem FdQ.keep {n:Nat} {D:Nat→List Int} {B:Nat→Int} {cr lim:Int} {pv:Value} {fd:Bool} {H1 H2:Hp} (h:FdQ n D B cr lim pv fd H1) (k:Zf H1 H2 []):FdQ n D B cr lim pv fd H2:=
 h.imp id fun ⟨e,p,pb,a,b,c,d⟩=>⟨e,p,pb,a,b,c,k.rd d (by simp)⟩
def BsT (n:Nat) (D:Nat→List Int) (B:Nat→Int) (cr:Int) (v:Value) (H':Hp):Prop:=
 (∃ p pb,v=.tuple #[.slice (some ⟨pb,0,none⟩) n n,.bool true]∧QU n D B cr 16384 p∧Rd H' pb (plc n p))∨(v=.tuple #[.slice none 0 0,.bool false]∧∀ q,¬ OkQ n D B cr 16384 q)
theorem FdQ.end_ {n:Nat} {D:Nat→List Int} {B:Nat→Int} {cr lim:Int} {pv:Value} {fd:Bool} {H':Hp} (h:FdQ n D B cr lim pv fd H') (hn:∀ q,OkQ n D B cr lim q→n=0) (h0:lim=16384→∀ q,¬ OkQ n D B cr lim q):BsT n D B cr (.tuple #[pv,.bool fd]) H':=by
 rcases h with ⟨rfl,rfl,e⟩ | ⟨rfl,p,pb,rfl,hs,e,r⟩
 ·exact .inr ⟨rfl,fun q hq=>h0 e q (by rw [e];exact hq)⟩
 ·exact .inl ⟨p,pb,rfl,hs.best (by rw [← e];exact hn),r⟩
section
variable {kn:Kn} {lo:Nat} {H:Hp}
set_option maxRecDepth 100000 in
set_option maxHeartbeats 1000000 in
theorem ZbL (s:Snd Try.prog kn) {n:Nat} {D:Nat→List Int} {B:Nat→Int} {cr:Int} {ba da:Option Addr} {bc dc:Nat} {sa:Nat→Option Addr} {cq:Nat→Nat} (hbs:Sl H ba n bc (plc n B)) (hds:Sl H da n dc (KV n sa D cq)) (hdd:∀ k,k < n→Sl H (sa k) (D k).length (cq k) (cI (D k))) (hn:n≤8) (hcr:1≤cr) (hDs:∀ k,k < n→(D k).Pairwise (· < ·)) (hDl:∀ k,k < n→(D k).length≤41) (hD:∀ k,k < n→∀ d∈D k,0≤d∧d≤16384) (hlo:lo≤H.next) :
  FnM Try.prog lo 55 [.agg #[.slice ba n bc,.slice da n dc,iv cr]] H fun v H'=>Zf H H' []∧BsT n D B cr v H':=by
 refine WA s Try.func55 B55 N55 Z55 L55 (by simp) ?_
 have hk:=Zf.refl H []
 refine Zm<|Vu (v:=.agg #[.slice ba n bc,.slice da n dc,iv cr]) rfl ?_
 intro H1 kH1 nH1 c1
 have c1:Cl H1 H.next [.slice ba n bc,.slice da n dc,iv cr]:=c1
 have mH1:=kH1.1
 have hk:=hk.trans kH1
 refine Zd rfl<|Zd rfl<|Zi<|Zm<|Zd rfl<|Zi ?_
 have d1:Cl H1 H.next [.slice ba n bc,.slice da n dc,iv cr]:=c1
 refine VT s (fn:=Try.f55) Zei N55 ZdR (fun z:Int × Value × Bool=>[(1,pt H.next),(2,z.2.1),(3,.bool z.2.2),(4,iv z.1)])
  (fun k z H'=>(z.1+1).toNat=k∧-1≤z.1∧z.1≤16384∧Zf H H' []∧Cl H' H.next [.slice ba n bc,.slice da n dc,iv cr]∧FdQ n D B cr z.1 z.2.1 z.2.2 H') _ (16384,.slice none 0 0,false) ⟨rfl,by decide,by decide,hk,d1,.inl ⟨rfl,rfl,rfl⟩⟩ ⟨rfl,rfl,rfl,rfl,trivial⟩ ?_
 rintro k ⟨lim,pv,fd⟩ L1 ⟨hlk,hl1,hl2,hk,d1,hfd⟩
 simp only [] at hlk hl1 hl2 hfd
 have mk:=hk.1
 refine Zm<|Zd rfl<|jX (a:=lim) (b:=0) rfl rfl<|Zi ?_
 refine And.intro (fun q1=>?_) (fun q1=>?_)
 ·have q1:lim ≥ 0:=of_decide_eq_true q1
  first | refine Yn ?_ | skip
  refine Zm<|XG (b:=H.next) (o:=0) rfl d1.rd (show row 3 _ _=some [.slice ba n bc,.slice da n dc,iv cr] from rfl)<|Zd rfl<|XM (t:=.fn (.func 84) #[]) rfl (Y7 s.hN (Zaj s (H:=L1) (lim:=lim) (hk.sl0 hbs) (hk.sl0 hds) (fun k h=>hk.sl0 (hdd k h)) hn hcr hDs hDl (by omega))) ?_
  rintro v H2 ⟨kH2,pb,_,_,hres⟩
  have mH2:=kH2.1
  have hk:=hk.trans kH2
  have d1:=kH2.cl d1 (by simp)
  have hfd:=hfd.keep kH2
  rcases hres with ⟨p,rfl,hf,rp⟩ | ⟨rfl,hno⟩
  ·have hlim0:0≤lim:=by omega
   have hlt:ltQ n p≤lim:=Qd.2 ⟨hlim0,hf.1.le⟩
   have hl0:0≤ltQ n p:=((Qd (p:=p) (n:=n)).1 (Int.le_refl _)).1
   have hso:SoQ n D B cr 16384 p:=SoQ.of (fun i hi d hd=>(hD i hi d hd).1) hf hl2
   refine Zd rfl<|Zl (v:=.slice (some ⟨pb,0,none⟩) n n) rfl (by kernel_rfl)<|Zl (v:=.bool true) rfl (by kernel_rfl)<|Zd rfl<|Zd rfl<|Zi<|Zm<|Zd rfl<|Zl (v:=.bool false) rfl rfl<|Zi<|YI ?_
   first | refine Yn ?_ | skip
   show Zp _ _ _ _ _ _ _ _
   refine Zd rfl<|Zd rfl<|Zd rfl<|Zi ?_
   show Zp _ _ _ _ _ _ _ _
   refine Zd rfl ?_
   obtain ⟨H3,fH3,kH3⟩:=qW (kn:=kn) (lo:=lo) (H:=H2) (sa:=some ⟨pb,0,none⟩) (n:=n) (cap:=n) (p:=p) (.inr ⟨pb,rfl,rp,Nat.le_refl _⟩) (by omega)
   refine Z4 s (vs:=[.slice (some ⟨pb,0,none⟩) n n]) rfl (Zk fH3) ?_
   have mH3:=kH3.1
   have hk:=hk.trans kH3
   have d1:=kH3.cl d1 (by simp)
   have hfd:=hfd.keep kH3
   have rp:=kH3.rd rp (by simp)
   refine Zc5 (a:=(ltQ n p)) (b:=1) rfl rfl ⟨by omega,by omega⟩<|Zd rfl<|Zi ?_
   exact ⟨_,(ltQ n p - 1,_,true),by omega,⟨rfl,by simp only [];omega,by simp only [];omega,hk,d1,.inr ⟨rfl,p,pb,rfl,hso,rfl,rp⟩⟩,rfl,rfl,rfl,rfl,trivial⟩
  ·have hend:∀ q,OkQ n D B cr lim q→n=0:=fun q hq=>absurd hq (hno q)
   have hzer:lim=16384→∀ q,¬ OkQ n D B cr lim q:=fun _=>hno
   refine Zd rfl<|Zl (v:=.slice (some ⟨pb,0,none⟩) n n) rfl (by kernel_rfl)<|Zl (v:=.bool false) rfl (by kernel_rfl)<|Zd rfl<|Zd rfl<|Zi<|Zm<|Zd rfl<|Zl (v:=.bool true) rfl rfl<|Zi<|YN ?_
   first | (refine W5 ?_;show wCM _ _ _ _ _ _ _ _ _) | skip
   refine Zm<|Zd rfl<|Zd rfl<|Zd rfl<|Zd rfl<|Zi ?_
   exact And.intro trivial (Exists.intro _ (And.intro rfl ⟨hk,hfd.end_ hend hzer⟩))
 ·have q1:¬ (lim ≥ 0):=of_decide_eq_false q1
  have hend:∀ q,OkQ n D B cr lim q→n=0:=fun q hq=>Classical.byContradiction fun h0=>by have a:=hq.le 0 (by omega);have b:=(hD 0 (by omega) _ (hq.mem 0 (by omega))).1;omega
  have hzer:lim=16384→∀ q,¬ OkQ n D B cr lim q:=fun e=>by omega
  first | (refine W5 ?_;show wCM _ _ _ _ _ _ _ _ _) | skip
  refine Zm<|Zd rfl<|Zd rfl<|Zd rfl<|Zd rfl<|Zi ?_
  exact And.intro trivial (Exists.intro _ (And.intro rfl ⟨hk,hfd.end_ hend hzer⟩))
end
end
end Go.Ax

/-
 Pool: newPlanner (54) (written by program).
-/
namespace Go.Ax
open Go Go.RowKit Go.Proofs

noncomputable section
theorem ZeU:∃ i,Try.prog.info? 97=some i∧i.size=3:=by
 have h:(Try.prog.info? 97).map (fun i=>i.size)=some 3:=by kernel_rfl
 cases e:Try.prog.info? 97 with
 | none=>rw [e] at h;cases h
 | some i=>rw [e] at h;simp at h;exact ⟨i,rfl,h⟩
theorem a97:XO Try.prog 97=some true:=by kernel_rfl
theorem ZdC:ZZ Try.prog 95=some (28,1):=by kernel_rfl
theorem ZeY:Try.prog.underlying 95=some (.slice 28):=by kernel_rfl
theorem ZfC:Ym Try.prog 28=some (.slice none 0 0):=by kernel_rfl
theorem Acc.out {lo f e:Nat} {H H1:Hp} {v w:Value} {m:Nat} {ds:List Value} (h:Acc lo f e H w m ds) (k:Zf H H1 (bkv v).toList) (ap:Ap v w):Acc lo f e H1 w m ds:=by
 rcases h with h | ⟨b,rfl,q1,q2,q3,q4,q5⟩
 ·exact .inl h
 ·have hb:b ∉ (bkv v).toList:=fun hx=>ap b b (by cases e:bkv v with
   | none=>rw [e] at hx;simp at hx
   | some x=>rw [e] at hx;simp at hx;rw [hx]) rfl rfl
  exact .inr ⟨b,rfl,q1,q2,q3,Nat.lt_of_lt_of_le q4 k.1,by rw [k.2 b q4 hb];exact q5⟩
theorem Acc.lowL {lo lo2 f f2 e:Nat} {H:Hp} {w:Value} {m:Nat} {ds:List Value} (h:Acc lo f e H w m ds) (hl:lo2≤lo) (hf:f2≤f):Acc lo2 f2 e H w m ds:=
 h.imp id fun ⟨b,a1,a2,a3,a4,a5,a6⟩=>⟨b,a1,a2,by omega,by omega,a5,a6⟩
theorem Acc.apN {lo lo2 f e e2 f2:Nat} {H H2:Hp} {v w:Value} {n m:Nat} {cs ds:List Value} (h:Acc lo f e H v n cs) (h2:Acc lo2 f2 e2 H2 w m ds) (hf:H.next≤f2):Ap v w:=by
 intro b c h3 h4 e5
 subst e5
 have a:=(U1 h b (by rw [h3];simp)).2
 have b:=(U1 h2 b (by rw [h4];simp)).1
 omega
theorem Acc.apF {lo f e:Nat} {H:Hp} {w:Value} {m:Nat} {ds:List Value} (h:Acc lo f e H w m ds) {x i j:Nat} (hx:H.next≤x):Ap (.slice (some ⟨x,0,none⟩) i j) w:=by
 intro b c h1 h2 e1
 have:=(U1 h c (by rw [h2];simp)).2
 simp [bkv] at h1
 omega
def vA:Value→Option Addr
 | .slice a _ _=>a
 | _=>none
def vC:Value→Nat
 | .slice _ _ c=>c
 | _=>0
def wlc (n:Nat) (W:Nat→Value):List Value:=(List.range n).map W
theorem Zd0 {n:Nat} {W W2:Nat→Value} {v:Value} (h:∀ k,k < n→W2 k=W k) (hv:W2 n=v):wlc (n+1) W2=wlc n W ++ [v]:=by
 unfold wlc
 rw [List.range_succ,List.map_append]
 congr 1
 ·exact List.map_congr_left fun k hk=>h k (List.mem_range.1 hk)
 ·simp [hv]
theorem Zd4 {n:Nat} {p:Nat→Int}:plc (n+1) p=plc n p ++ [iv (p n)]:=by
 unfold plc
 rw [List.range_succ,List.map_append];rfl
theorem Za7 {n:Nat} {W:Nat→Value}:(wlc n W).length=n:=by unfold wlc;simp
def jQ (W:Nat→Value) (n:Nat) (v:Value):Nat→Value:=fun k=>if k=n then v else W k
theorem ZbC {n:Nat} {W:Nat→Value} {D:Nat→List Int} (h:∀ k,k < n→W k=.slice (vA (W k)) (D k).length (vC (W k))):wlc n W=KV n (fun k=>vA (W k)) D (fun k=>vC (W k)):=by
 unfold wlc KV
 exact List.map_congr_left fun k hk=>h k (List.mem_range.1 hk)
structure NpQ (y:Yd) (lo f m:Nat) (v1 v2:Value) (W:Nat→Value) (H:Hp):Prop where
 a1:Acc lo f 3 H v1 m (plc m fun k=>(y.js.getD k Jb.z).b)
 a2:Acc lo f 28 H v2 m (wlc m W)
 aw:∀ k,k < m→Acc lo f 3 H (W k) (dyL y k).length (cI (dyL y k))∧Ap v1 (W k)∧Ap v2 (W k)
 ap:Ap v1 v2
theorem NpQ.keep {y:Yd} {lo f m:Nat} {v1 v2:Value} {W:Nat→Value} {H H1:Hp} (h:NpQ y lo f m v1 v2 W H) (k:Zf H H1 []):NpQ y lo f m v1 v2 W H1:=⟨h.a1.keep k,h.a2.keep k,fun i hi=>⟨(h.aw i hi).1.keep k,(h.aw i hi).2⟩,h.ap⟩
section
variable {kn:Kn} {lo:Nat} {H:Hp}
set_option maxRecDepth 100000 in
set_option maxHeartbeats 2000000 in
theorem yH {a:Ya} {y:Yd} (hy:YaH H a y) (hB:YaB y) (hv:vY y=true) {cr:Int} (hlo:lo≤H.next):∃ v H',FnX Try.prog kn lo 54 [.agg (Ya.f a y).toArray,iv cr] H v H'∧∃ ba bc da dc sa cq,v=.agg #[.slice ba y.js.length bc,.slice da y.js.length dc,iv cr]∧Sl H' ba y.js.length bc (plc y.js.length fun k=>(y.js.getD k Jb.z).b)∧Sl H' da y.js.length dc (KV y.js.length sa (dyL y) cq)∧(∀ k,k < y.js.length→Sl H' (sa k) (dyL y k).length (cq k) (cI (dyL y k)))∧Zf H H' []:=by
 have key:=Zt (kn:=kn) (lo:=lo) (H:=H) (args:=[.agg (Ya.f a y).toArray,iv cr]) (Q:=fun w H'=>∃ ba bc da dc sa cq,w=.agg #[.slice ba y.js.length bc,.slice da y.js.length dc,iv cr]∧Sl H' ba y.js.length bc (plc y.js.length fun k=>(y.js.getD k Jb.z).b)∧Sl H' da y.js.length dc (KV y.js.length sa (dyL y) cq)∧(∀ k,k < y.js.length→Sl H' (sa k) (dyL y k).length (cq k) (cI (dyL y k)))∧Zf H H' []) Try.func54 B54 N54 Z54 L54 (by simp) ?_
 ·exact key
 have hk:=Zf.refl H []
 have hjl:=(Za1 hv).2.2.2.1
 refine Ze<|Ye (v:=.agg (Ya.f a y).toArray) rfl ?_
 intro H1 kH1 nH1 c1
 have c1:Cl H1 H.next [.slice a.pa y.ps.length a.pc,.slice a.ba y.bs.length a.bc,.slice a.sa y.ss.length a.sc,.slice a.ja y.js.length a.jc]:=c1
 have mH1:=kH1.1
 have hk:=hk.trans kH1
 refine Xw ?_
 intro H2 kH2 nH2 c2
 have c2:Cl H2 H1.next [.slice none 0 0,.slice none 0 0,iv 0]:=c2
 have mH2:=kH2.1
 have hk:=hk.trans kH2
 have c1:=kH2.cl c1 (by simp)
 refine Zb<|Ze<|Za rfl<|Zg (v:=.agg #[.slice none 0 0,.slice none 0 0,iv cr]) rfl (by kernel_rfl)<|Xw ?_
 intro H3 kH3 nH3 c3
 have c3:Cl H3 H2.next [.slice none 0 0,.slice none 0 0,iv 0]:=c3
 have mH3:=kH3.1
 have hk:=hk.trans kH3
 have c1:=kH3.cl c1 (by simp)
 have c2:=kH3.cl c2 (by simp)
 refine Xz (b:=H2.next) (o:=0) rfl rfl c3 (by omega) rfl rfl (by simp) ?_
 intro H4 kH4 nH4 sH4
 have mH4:=kH4.1
 have hk:=hk.new kH4 (fun b hb=>by simp at hb ⊢;omega)
 have c1:=kH4.cl c1 (by first | (simp;done) | (simp;omega))
 have c2:=kH4.cl c2 (by first | (simp;done) | (simp;omega))
 have c3:Cl H4 H2.next [.slice none 0 0,.slice none 0 0,iv cr]:=sH4
 refine Zb<|Ze<|Zn (b:=H.next) (o:=0) rfl<|Zn (b:=H.next) (o:=0) rfl<|ZD (b:=H.next) (o:=3) (v:=.slice a.ja y.js.length a.jc) rfl c1.rd rfl<|YL (m:=y.js.length) rfl<|Za rfl<|Zb ?_
 have d2:Cl H4 (H.next) (Ya.f a y):=c1
 have d4:Cl H4 (H1.next) [.slice none 0 0,.slice none 0 0,iv 0]:=c2
 have d5:Cl H4 (H2.next) [.slice none 0 0,.slice none 0 0,iv cr]:=c3
 have l2:=d2.1
 have l4:=d4.1
 have l5:=d5.1
 refine YO (fn:=Try.f54) Zd2 N54 ZeE (fun m:Nat=>[(2,pt H.next),(4,pt H1.next),(5,pt H2.next),(12,.slice a.ja y.js.length a.jc),(13,iv (y.js.length:Int)),(14,iv (m:Int))])
  (fun k m H'=>m+k=y.js.length∧Zf H H' []∧H4.next≤H'.next∧Cl H' (H.next) (Ya.f a y)∧Cl H' (H1.next) [.slice none 0 0,.slice none 0 0,iv 0]∧∃ v1 v2 W,Cl H' (H2.next) [v1,v2,iv cr]∧NpQ y lo H4.next m v1 v2 W H') y.js.length 0 ⟨by simp,hk,by omega,d2,d4,_,_,(fun _=>.slice none 0 0),d5,.inl ⟨rfl,rfl,rfl⟩,.inl ⟨rfl,rfl,rfl⟩,fun k h=>by omega,fun b c h1=>by simp [bkv] at h1⟩ ⟨rfl,rfl,rfl,rfl,rfl,rfl,trivial⟩ ?_
 rintro k m L1 ⟨hmk,hk,hnx,d2,d4,v1,v2,W,d5,hN⟩
 have hk0:=hk
 have mk:=hk.1
 have kacc:=Zf.refl L1 []
 refine Ze<|YY (a:=(m:Int)) (b:=(y.js.length:Int)) rfl rfl<|Zb ?_
 refine And.intro (fun q1=>?_) (fun q1=>?_)
 ·have q1:(m:Int) < (y.js.length:Int):=of_decide_eq_true q1
  have hml:m < y.js.length:=by omega
  have sj0:=(hy.keep hk).j
  rcases id sj0 with ⟨_,h0j,_⟩ | ⟨jb,ej,rj,_⟩
  ·omega
  have lj:=rj.1
  have oj:=hy.j.old jb ej
  first | refine ZK ?_ | skip
  refine Ze<|Za rfl<|XH (b:=jb) (o:=0) (k:=m) (j:=(m:Int)) (by rw [← ej];rfl) rfl rfl hml<|Z3 (b:=jb) (o:=0+m * 4) rfl rj (Vo (by omega))<|Xw ?_
  intro H5 kH5 nH5 c5
  have c5:Cl H5 L1.next [iv 0,iv 0,iv 0,iv 0]:=c5
  have mH5:=kH5.1
  have hk:=hk.trans kH5
  have d2:=kH5.cl d2 (by simp)
  have d4:=kH5.cl d4 (by simp)
  have d5:=kH5.cl d5 (by simp)
  have kacc:=kacc.trans kH5
  have rj:=kH5.rd rj (by simp)
  refine Za rfl<|Xz (b:=L1.next) (o:=0) rfl rfl c5 (by omega) rfl rfl (by simp) ?_
  intro H6 kH6 nH6 sH6
  have mH6:=kH6.1
  have hk:=hk.new kH6 (fun b hb=>by simp at hb ⊢;omega)
  have d2:=kH6.cl d2 (by first | (simp;done) | (simp;omega))
  have d4:=kH6.cl d4 (by first | (simp;done) | (simp;omega))
  have d5:=kH6.cl d5 (by first | (simp;done) | (simp;omega))
  have kacc:=kacc.new kH6 (fun b hb=>by simp at hb ⊢;omega)
  have rj:=kH6.rd rj (by first | (simp;done) | (simp;omega))
  have c5:Cl H6 L1.next [iv ((y.js.getD m Jb.z).b),iv ((y.js.getD m Jb.z).p),iv ((y.js.getD m Jb.z).u),iv ((y.js.getD m Jb.z).t)]:=sH6
  refine Zb<|Ze<|Zn (b:=H2.next) (o:=0) rfl<|ZD (b:=H2.next) (o:=0) (v:=v1) rfl d5.rd rfl<|Zn (b:=L1.next) (o:=0) rfl<|ZD (b:=L1.next) (o:=0) (v:=iv ((y.js.getD m Jb.z).b)) rfl c5.rd rfl ?_
  obtain ⟨H7,hH7⟩:∃ H7,H6.new (.cells [iv ((y.js.getD m Jb.z).b)] 3 false)=H7:=⟨_,rfl⟩
  refine Xs (H':=H7) (k:=.heavy) rfl (by kernel_rfl) ((X3 (v:=iv ((y.js.getD m Jb.z).b)) y9 zo3 rfl rfl rfl (by decide)).trans (by rw [← hH7];rfl)) (fun b e=>by cases e) ?_
  obtain ⟨kH7,nH7,c7⟩:=ZM hH7;clear hH7
  have c7:Cl H7 H6.next [iv ((y.js.getD m Jb.z).b)]:=c7
  have mH7:=kH7.1
  have hk:=hk.trans kH7
  have d2:=kH7.cl d2 (by simp)
  have d4:=kH7.cl d4 (by simp)
  have d5:=kH7.cl d5 (by simp)
  have kacc:=kacc.trans kH7
  have rj:=kH7.rd rj (by simp)
  have c5:=kH7.cl c5 (by simp)
  have hN:=hN.keep kacc
  obtain ⟨H8,kdH8,eH8,dH8,aH8,kbH8⟩:=Wf (P:=Try.prog) (lo:=lo) (k:=m) (t1:=28) y9 Zcs (c7.sl (Nat.le_refl 1)) rfl (by decide) rfl (by rw [qA];omega) (by omega) hN.a1 (by omega) (by omega)
  refine Xs (k:=kdH8) rfl (by cases v1<;>kernel_rfl) (eH8 _ _ _ _ _ _ _ rfl rfl) (KZ dH8 _) ?_
  have hbk:=U1 hN.a1
  have d2:=kbH8.cl d2 (fun hx=>by have:=hbk _ hx;omega)
  have d4:=kbH8.cl d4 (fun hx=>by have:=hbk _ hx;omega)
  have d5:=kbH8.cl d5 (fun hx=>by have:=hbk _ hx;omega)
  have hk:=hk.new kbH8 (fun b hb=>.inr (by have:=hbk _ hb;omega))
  have hN2:Acc lo H4.next 28 H8 v2 m (wlc m W)∧(∀ k,k < m→Acc lo H4.next 3 H8 (W k) (dyL y k).length (cI (dyL y k))∧Ap (.slice (some ⟨H7.next,0,none⟩) (m+1) (m+1)) (W k)∧Ap v2 (W k))∧Ap (.slice (some ⟨H7.next,0,none⟩) (m+1) (m+1)) v2:=⟨hN.a2.out kbH8 hN.ap,fun k hk=>⟨(hN.aw k hk).1.out kbH8 (hN.aw k hk).2.1,(hN.aw k hk).1.apF (Nat.le_refl _),(hN.aw k hk).2.2⟩,hN.a2.apF (Nat.le_refl _)⟩
  have hA1:Acc lo H4.next 3 H8 (.slice (some ⟨H7.next,0,none⟩) (m+1) (m+1)) (m+1) (plc (m+1) fun k=>(y.js.getD k Jb.z).b):=by rw [Zd4];exact aH8
  have mH8:=kbH8.1
  refine Zn (b:=H2.next) (o:=0) rfl<|Zcg (b:=H2.next) (o:=0) (v:=.slice (some ⟨H7.next,0,none⟩) (m+1) (m+1)) rfl rfl d5 (by omega) rfl rfl (by simp) ?_
  intro H9 kH9 nH9 sH9
  have mH9:=kH9.1
  have hk:=hk.new kH9 (fun b hb=>by simp at hb ⊢;omega)
  have d2:=kH9.cl d2 (by first | (simp;done) | (simp;omega))
  have d4:=kH9.cl d4 (by first | (simp;done) | (simp;omega))
  have d5:Cl H9 H2.next [.slice (some ⟨H7.next,0,none⟩) (m+1) (m+1),v2,iv cr]:=sH9
  have hA1:=hA1.keepW kH9 (by omega)
  have hN2:Acc lo H4.next 28 H9 v2 m (wlc m W)∧(∀ k,k < m→Acc lo H4.next 3 H9 (W k) (dyL y k).length (cI (dyL y k))∧Ap (.slice (some ⟨H7.next,0,none⟩) (m+1) (m+1)) (W k)∧Ap v2 (W k))∧Ap (.slice (some ⟨H7.next,0,none⟩) (m+1) (m+1)) v2:=⟨hN2.1.keepW kH9 (by omega),fun k hk=>⟨(hN2.2.1 k hk).1.keepW kH9 (by omega),(hN2.2.1 k hk).2⟩,hN2.2.2⟩
  have kacc:=Zf.refl H9 []
  refine Zb ?_
  first | refine VL ?_ | refine KW ?_ | refine qh ?_ | (refine JA ?_;refine VL ?_)
  have hA1_:=hA1
  refine ZC (b:=H2.next) (o:=0) rfl<|Yb (b:=H2.next) (o:=1) (v:=v2) rfl d5.rd rfl<|Uh (b:=H.next) (o:=0) rfl d2.rd (show row 4 (Ya.f a y) 0=some (Ya.f a y) from rfl)<|Yr rfl ?_
  obtain ⟨wv,H10,fH10,aH10,kH10⟩:=Kh (kn:=kn) (lo:=H9.next) (H:=H9) (hy.keep hk) hB hv (i:=m) hml (by omega)
  obtain ⟨sw,cw,rfl,_,_⟩:=aH10.sl
  refine Uo (vs:=[.agg (Ya.f a y).toArray,iv (m:Int)]) rfl rfl (Zk fH10) ?_
  have hlow:lo≤H9.next:=by omega
  have mH10:=kH10.1
  have hk:=hk.trans kH10
  have d2:=kH10.cl d2 (by simp)
  have d4:=kH10.cl d4 (by simp)
  have d5:=kH10.cl d5 (by simp)
  have kacc:=kacc.trans kH10
  obtain ⟨H11,hH11⟩:∃ H11,H10.new (.cells [.slice sw ((dyL y m).length) cw] 28 false)=H11:=⟨_,rfl⟩
  refine KO (H':=H11) (k:=.heavy) rfl (by kernel_rfl) ((X3 (v:=.slice sw ((dyL y m).length) cw) ZdC ZfC rfl rfl rfl (by decide)).trans (by rw [← hH11];rfl)) (fun b e=>by cases e) ?_
  obtain ⟨kH11,nH11,c11⟩:=ZM hH11;clear hH11
  have c11:Cl H11 H10.next [.slice sw ((dyL y m).length) cw]:=c11
  have mH11:=kH11.1
  have hk:=hk.trans kH11
  have d2:=kH11.cl d2 (by simp)
  have d4:=kH11.cl d4 (by simp)
  have d5:=kH11.cl d5 (by simp)
  have kacc:=kacc.trans kH11
  have hA1:=hA1.keep kacc
  have hQ2:=hN2.1.keep kacc
  have hD0:Acc lo H4.next 3 H11 (.slice sw (dyL y m).length cw) (dyL y m).length (cI (dyL y m)):=(aH10.lowL (by omega) (by omega)).keep kH11
  have apn1:Ap (.slice (some ⟨H7.next,0,none⟩) (m+1) (m+1)) (.slice sw (dyL y m).length cw):=hA1_.apN aH10 (by omega)
  have apn2:Ap v2 (.slice sw (dyL y m).length cw):=hN2.1.apN aH10 (by omega)
  obtain ⟨H12,kdH12,eH12,dH12,aH12,kbH12⟩:=Wf (P:=Try.prog) (lo:=lo) (k:=m) (t1:=95) ZdC ZeY (c11.sl (Nat.le_refl 1)) rfl (by decide) rfl (by rw [Za7];omega) (by omega) hQ2 (by omega) (by omega)
  refine KO (k:=kdH12) rfl (by cases v2<;>kernel_rfl) (eH12 _ _ _ _ _ _ _ rfl rfl) (KZ dH12 _) ?_
  have hbk:=U1 hQ2
  have d2:=kbH12.cl d2 (fun hx=>by have:=hbk _ hx;omega)
  have d4:=kbH12.cl d4 (fun hx=>by have:=hbk _ hx;omega)
  have d5:=kbH12.cl d5 (fun hx=>by have:=hbk _ hx;omega)
  have hk:=hk.new kbH12 (fun b hb=>.inr (by have:=hbk _ hb;omega))
  have hB1:=hA1.out kbH12 hN2.2.2.symm
  have hB2:=aH12
  have hBw:=hD0.out kbH12 apn2
  have hBx:Ap (.slice (some ⟨H7.next,0,none⟩) (m+1) (m+1)) (.slice sw (dyL y m).length cw)∧Ap (.slice (some ⟨H11.next,0,none⟩) (m+1) (m+1)) (.slice sw (dyL y m).length cw):=⟨apn1,hD0.apF (Nat.le_refl _)⟩
  have hB3:∀ k,k < m→Acc lo H4.next 3 H12 (W k) (dyL y k).length (cI (dyL y k))∧Ap (.slice (some ⟨H7.next,0,none⟩) (m+1) (m+1)) (W k)∧Ap (.slice (some ⟨H11.next,0,none⟩) (m+1) (m+1)) (W k):=fun k hk=>⟨((hN2.2.1 k hk).1.keep kacc).out kbH12 (hN2.2.1 k hk).2.2,(hN2.2.1 k hk).2.1,((hN2.2.1 k hk).1.keep kacc).apF (Nat.le_refl _)⟩
  have hB4:Ap (.slice (some ⟨H7.next,0,none⟩) (m+1) (m+1)) (.slice (some ⟨H11.next,0,none⟩) (m+1) (m+1)):=(hA1.apF (Nat.le_refl _)).symm
  have mH12:=kbH12.1
  refine ZC (b:=H2.next) (o:=0) rfl<|JY (b:=H2.next) (o:=1) (v:=.slice (some ⟨H11.next,0,none⟩) (m+1) (m+1)) rfl rfl d5 (by omega) rfl rfl (by simp) ?_
  intro H13 kH13 nH13 sH13
  have mH13:=kH13.1
  have hk:=hk.new kH13 (fun b hb=>by simp at hb ⊢;omega)
  have d2:=kH13.cl d2 (by first | (simp;done) | (simp;omega))
  have d4:=kH13.cl d4 (by first | (simp;done) | (simp;omega))
  have d5:Cl H13 H2.next [.slice (some ⟨H7.next,0,none⟩) (m+1) (m+1),.slice (some ⟨H11.next,0,none⟩) (m+1) (m+1),iv cr]:=sH13
  have hN3:NpQ y lo H4.next (m+1) (.slice (some ⟨H7.next,0,none⟩) (m+1) (m+1)) (.slice (some ⟨H11.next,0,none⟩) (m+1) (m+1)) (jQ W m (.slice sw (dyL y m).length cw)) H13:=by
   refine ⟨hB1.keepW kH13 (by omega),?_,?_,?_⟩
   ·rw [Zd0 (W:=W) (v:=.slice sw (dyL y m).length cw) (fun k hk=>by unfold jQ;rw [if_neg (by omega)]) (by unfold jQ;rw [if_pos rfl])];exact hB2.keepW kH13 (by omega)
   ·intro k hkm
    unfold jQ
    by_cases ekm:k=m
    ·subst ekm;rw [if_pos rfl];exact ⟨hBw.keepW kH13 (by omega),hBx.1,hBx.2⟩
    ·rw [if_neg ekm];exact ⟨(hB3 k (by omega)).1.keepW kH13 (by omega),(hB3 k (by omega)).2⟩
   ·exact hB4
  refine Xv (by rcases dH12 with rfl | ⟨bH12,rfl,hbH12⟩<;>repeat' first | exact True.intro | exact (fun h=>h) | refine And.intro ?_ ?_ | (intro h;have h:(_:Nat)=_:=h;omega)) ?_
  show Zw _ _ _ _ _ _ _ _
  refine Yw (a:=(m:Int)) (b:=1) rfl rfl ⟨by omega,by omega⟩<|Za rfl<|Zb ?_
  exact ⟨k - 1,m+1,by omega,⟨by omega,hk,by omega,d2,d4,_,_,jQ W m (.slice sw (dyL y m).length cw),d5,hN3⟩,rfl,rfl,rfl,rfl,rfl,rfl,trivial⟩
 ·have q1:¬ ((m:Int) < (y.js.length:Int)):=of_decide_eq_false q1
  first | (refine Vb ?_;show wC _ _ _ _ _ _ _ _ _) | skip
  refine Ze ?_
  have ein:m=y.js.length:=by omega
  subst ein
  obtain ⟨ba,bc,rfl,hs1,o1⟩:=hN.a1.sl
  obtain ⟨da,dc,rfl,hs2,o2⟩:=hN.a2.sl
  refine Z3 (b:=H2.next) (o:=0) rfl d5.rd (show row 3 _ _=some [.slice ba y.js.length bc,.slice da y.js.length dc,iv cr] from rfl)<|Xz (b:=H1.next) (o:=0) rfl rfl d4 (by omega) rfl rfl (by simp) ?_
  intro H14 kH14 nH14 sH14
  have mH14:=kH14.1
  have hk:=hk.new kH14 (fun b hb=>by simp at hb ⊢;omega)
  have d2:=kH14.cl d2 (by first | (simp;done) | (simp;omega))
  have d5:=kH14.cl d5 (by first | (simp;done) | (simp;omega))
  have d4:Cl H14 H1.next [.slice ba y.js.length bc,.slice da y.js.length dc,iv cr]:=sH14
  refine Zb ?_
  have kZ:=kH14
  have hW:∀ k,k < y.js.length→W k=.slice (vA (W k)) (dyL y k).length (vC (W k)):=fun k hk=>by obtain ⟨a1,c1,e1,_,_⟩:=(hN.aw k hk).1.sl;rw [e1];rfl
  rw [ZbC hW] at hs2
  exact And.intro trivial (Exists.intro _ (And.intro (zo rfl a97 ZeU rfl d4) ⟨ba,bc,da,dc,_,_,rfl,kZ.sl hs1 (fun b e=>by have:=o1 b e;simp;omega),kZ.sl hs2 (fun b e=>by have:=o2 b e;simp;omega),fun k hkk=>by
    obtain ⟨a1,c1,e1,s1,o3⟩:=(hN.aw k hkk).1.sl
    have q:=kZ.sl s1 (fun b e=>by have:=o3 b e;simp;omega)
    rw [e1];exact q,hk⟩))
end
end
end Go.Ax

/-
 Pool: Days,Plan (18,27) (written by program).
-/
namespace Go.Ax
open Go Go.RowKit Go.Proofs

noncomputable section
theorem zh {y:Yd} {i:Nat} {d:Int}:∀ {m:Nat},d∈dyT y i m↔∃ k,k < m∧d=(y.js.getD i Jb.z).u+(k:Int)∧(rcL y (y.js.getD i Jb.z) d).length=0
 | 0=>by simp [dyT]
 | m+1=>by
  have ih:=zh (y:=y) (i:=i) (d:=d) (m:=m)
  unfold dyT
  rw [List.mem_append,ih]
  constructor
  ·rintro (⟨k,hk,a⟩ | h)
   ·exact ⟨k,by omega,a⟩
   ·split at h
    ·rename_i q
     simp at h
     subst h
     exact ⟨m,by omega,rfl,q⟩
    ·simp at h
  ·rintro ⟨k,hk,rfl,b⟩
   by_cases e:k=m
   ·subst e;right;rw [if_pos b];simp
   ·exact .inl ⟨k,by omega,rfl,b⟩
theorem Jy {y:Yd} {i:Nat}:∀ {m:Nat},(dyT y i m).Pairwise (· < ·)
 | 0=>List.Pairwise.nil
 | m+1=>by
  unfold dyT
  rw [List.pairwise_append]
  refine ⟨Jy,by split<;>simp,fun a ha b hb=>?_⟩
  obtain ⟨k,hk,rfl,_⟩:=zh.1 ha
  split at hb
  ·rw [List.mem_singleton] at hb;subst hb;omega
  ·cases hb
theorem Zds {y:Yd} {i:Nat} (h:JbT y (y.js.getD i Jb.z)):∀ d∈dyL y i,0≤d∧d≤16384:=by
 intro d hd
 have:=h.jj
 obtain ⟨k,hk,rfl,_⟩:=zh.1 hd
 unfold nd at hk
 omega
theorem Zb8 {y:Yd} {i:Nat} (h:JbT y (y.js.getD i Jb.z)):(dyL y i).length≤41:=Nat.le_trans (zg _) (ZaH h)
def bdN (y:Yd) (k:Nat):Int:=(y.js.getD k Jb.z).b
def DaT (y:Yd) (i:Int) (lo f:Nat) (v:Value) (H':Hp):Prop:=
 (vY y=false∧v=.tuple #[.slice none 0 0,iv 1])∨(vY y=true∧inB i 0 ((y.js.length:Int) - 1)=false∧v=.tuple #[.slice none 0 0,iv 2])∨
  (vY y=true∧∃ (k:Nat) (w:Value),i=(k:Int)∧k < y.js.length∧v=.tuple #[w,iv 0]∧Acc lo f 3 H' w (dyL y k).length (cI (dyL y k)))
def PlT (y:Yd) (cr:Int) (v:Value) (H':Hp):Prop:=
 (vY y=false∧v=.tuple #[.slice none 0 0,iv 1])∨(vY y=true∧inB cr 1 8=false∧v=.tuple #[.slice none 0 0,iv 2])∨
  (vY y=true∧inB cr 1 8=true∧((∃ p pb,v=.tuple #[.slice (some ⟨pb,0,none⟩) y.js.length y.js.length,iv 0]∧QU y.js.length (dyL y) (bdN y) cr 16384 p∧Rd H' pb (plc y.js.length p))∨(v=.tuple #[.slice none 0 0,iv 4]∧∀ q,¬ OkQ y.js.length (dyL y) (bdN y) cr 16384 q)))
section
variable {kn:Kn} {lo:Nat} {H:Hp}
set_option maxRecDepth 100000 in
set_option maxHeartbeats 1000000 in
theorem ZbN (s:Snd Try.prog kn) {a:Ya} {y:Yd} (hy:YaH H a y) (hB:YaB y) {i:Int} (hlo:lo≤H.next) :
  FnM Try.prog lo 18 [.agg (Ya.f a y).toArray,iv i] H fun v H'=>Zf H H' []∧DaT y i lo H.next v H':=by
 refine WA s Try.func18 B18 N18 Z18 L18 (by simp) ?_
 have hk:=Zf.refl H []
 have hB3:=hB.2.2.2.1
 refine Zm<|Vu (v:=.agg (Ya.f a y).toArray) rfl ?_
 intro H1 kH1 nH1 c1
 have c1:Cl H1 H.next [.slice a.pa y.ps.length a.pc,.slice a.ba y.bs.length a.bc,.slice a.sa y.ss.length a.sc,.slice a.ja y.js.length a.jc]:=c1
 have mH1:=kH1.1
 have hk:=hk.trans kH1
 refine Zd rfl<|Zd rfl<|Zi<|Zm<|XG (b:=H.next) (o:=0) rfl c1.rd (show row 4 _ _=some [.slice a.pa y.ps.length a.pc,.slice a.ba y.bs.length a.bc,.slice a.sa y.ss.length a.sc,.slice a.ja y.js.length a.jc] from rfl)<|XM (t:=.fn (.func 40) #[]) rfl (Y7 s.hN (Zcf s (H:=H1) (hy.keep hk) hB (by omega))) ?_
 rintro _ H2 ⟨rfl,kH2⟩
 have mH2:=kH2.1
 have hk:=hk.trans kH2
 have c1:=kH2.cl c1 (by simp)
 cases hv:vY y
 ·refine Zl (v:=.bool true) rfl rfl<|Zi<|YN<|Zm<|Zd rfl<|Zd rfl<|Zi ?_
  exact And.intro trivial (Exists.intro _ (And.intro rfl ⟨hk,.inl ⟨hv,rfl⟩⟩))
 ·refine Zl (v:=.bool false) rfl rfl<|Zi<|YI ?_
  first | refine Yn ?_ | skip
  refine Zm<|Zd rfl<|YB (b:=H.next) (o:=0) rfl<|YE (b:=H.next) (o:=3) (v:=.slice a.ja y.js.length a.jc) rfl c1.rd rfl<|W0 (m:=y.js.length) rfl<|zO s rfl (UB (by omega)) ?_
  intro tH3 H3 hH3 kH3
  have mH3:=kH3.1
  have hk:=hk.trans kH3
  have c1:=kH3.cl c1 (by simp)
  cases tH3
  ·have thH3:inB i 0 ((y.js.length:Int) - 1)=false:=hH3
   have uhH3:=Y4 thH3
   refine Zl (v:=.bool true) rfl rfl<|Zi<|YN<|Zm<|Zd rfl<|Zd rfl<|Zi ?_
   have hin:inB i 0 ((y.js.length:Int) - 1)=false:=by assumption
   exact And.intro trivial (Exists.intro _ (And.intro rfl ⟨hk,.inr (.inl ⟨hv,hin,rfl⟩)⟩))
  ·have thH3:inB i 0 ((y.js.length:Int) - 1)=true:=hH3
   have uhH3:=YH thH3
   refine Zl (v:=.bool false) rfl rfl<|Zi<|YI ?_
   first | refine Yn ?_ | skip
   refine Zm<|XG (b:=H.next) (o:=0) rfl c1.rd (show row 4 _ _=some [.slice a.pa y.ps.length a.pc,.slice a.ba y.bs.length a.bc,.slice a.sa y.ss.length a.sc,.slice a.ja y.js.length a.jc] from rfl)<|Zl (v:=.agg (Ya.f a y).toArray) rfl (by kernel_rfl)<|Zd rfl ?_
   obtain ⟨kk,rfl⟩:∃ kk:Nat,i=(kk:Int):=⟨i.toNat,by omega⟩
   obtain ⟨wv,H4,fH4,aH4,kH4⟩:=Kh (kn:=kn) (lo:=lo) (H:=H3) (hy.keep hk) hB hv (i:=kk) (by omega) (by omega)
   refine Z4 s (vs:=[.agg (Ya.f a y).toArray,iv (kk:Int)]) rfl (Zk fH4) ?_
   have mH4:=kH4.1
   have hk:=hk.trans kH4
   have c1:=kH4.cl c1 (by simp)
   refine Zd rfl<|Zd rfl<|Zi ?_
   exact And.intro trivial (Exists.intro _ (And.intro rfl ⟨hk,.inr (.inr ⟨hv,kk,wv,rfl,by omega,rfl,aH4.low (by omega)⟩)⟩))
set_option maxRecDepth 100000 in
set_option maxHeartbeats 1000000 in
theorem Za6 (s:Snd Try.prog kn) {a:Ya} {y:Yd} (hy:YaH H a y) (hB:YaB y) {cr:Int} (hlo:lo≤H.next) :
  FnM Try.prog lo 27 [.agg (Ya.f a y).toArray,iv cr] H fun v H'=>Zf H H' []∧PlT y cr v H':=by
 refine WA s Try.func27 B27 N27 Z27 L27 (by simp) ?_
 have hk:=Zf.refl H []
 refine Zm<|Vu (v:=.agg (Ya.f a y).toArray) rfl ?_
 intro H1 kH1 nH1 c1
 have c1:Cl H1 H.next [.slice a.pa y.ps.length a.pc,.slice a.ba y.bs.length a.bc,.slice a.sa y.ss.length a.sc,.slice a.ja y.js.length a.jc]:=c1
 have mH1:=kH1.1
 have hk:=hk.trans kH1
 refine Zd rfl<|Zd rfl<|Zi<|Zm<|XG (b:=H.next) (o:=0) rfl c1.rd (show row 4 _ _=some [.slice a.pa y.ps.length a.pc,.slice a.ba y.bs.length a.bc,.slice a.sa y.ss.length a.sc,.slice a.ja y.js.length a.jc] from rfl)<|XM (t:=.fn (.func 40) #[]) rfl (Y7 s.hN (Zcf s (H:=H1) (hy.keep hk) hB (by omega))) ?_
 rintro _ H2 ⟨rfl,kH2⟩
 have mH2:=kH2.1
 have hk:=hk.trans kH2
 have c1:=kH2.cl c1 (by simp)
 cases hv:vY y
 ·refine Zl (v:=.bool true) rfl rfl<|Zi<|YN<|Zm<|Zd rfl<|Zd rfl<|Zi ?_
  exact And.intro trivial (Exists.intro _ (And.intro rfl ⟨hk,.inl ⟨hv,rfl⟩⟩))
 ·refine Zl (v:=.bool false) rfl rfl<|Zi<|YI ?_
  first | refine Yn ?_ | skip
  refine Zm<|Zd rfl<|zO s rfl (Wm) ?_
  intro tH3 H3 hH3 kH3
  have mH3:=kH3.1
  have hk:=hk.trans kH3
  have c1:=kH3.cl c1 (by simp)
  cases tH3
  ·have thH3:inB cr 1 8=false:=hH3
   have uhH3:=Y4 thH3
   refine Zl (v:=.bool true) rfl rfl<|Zi<|YN<|Zm<|Zd rfl<|Zd rfl<|Zi ?_
   have hin:inB cr 1 8=false:=by assumption
   exact And.intro trivial (Exists.intro _ (And.intro rfl ⟨hk,.inr (.inl ⟨hv,hin,rfl⟩)⟩))
  ·have thH3:inB cr 1 8=true:=hH3
   have uhH3:=YH thH3
   refine Zl (v:=.bool false) rfl rfl<|Zi<|YI ?_
   first | refine Yn ?_ | skip
   refine Zm<|XG (b:=H.next) (o:=0) rfl c1.rd (show row 4 _ _=some [.slice a.pa y.ps.length a.pc,.slice a.ba y.bs.length a.bc,.slice a.sa y.ss.length a.sc,.slice a.ja y.js.length a.jc] from rfl)<|Zl (v:=.agg (Ya.f a y).toArray) rfl (by kernel_rfl)<|Zd rfl ?_
   obtain ⟨_,H4,fH4,ba,bc,da,dc,sa,cq,rfl,hbs,hds,hdd,kH4⟩:=yH (kn:=kn) (lo:=lo) (H:=H3) (hy.keep hk) hB hv (cr:=cr) (by omega)
   refine Z4 s (vs:=[.agg (Ya.f a y).toArray,iv cr]) rfl (Zk fH4) ?_
   have mH4:=kH4.1
   have hk:=hk.trans kH4
   have c1:=kH4.cl c1 (by simp)
   refine XM (t:=.fn (.func 55) #[]) rfl (Y7 s.hN (ZbL s (H:=H4) (n:=y.js.length) (D:=dyL y) (B:=bdN y) (cr:=cr) hbs hds hdd (Za1 hv).2.2.2.1 (by omega) (fun k _=>Jy) (fun k hk=>Zb8 (zu hv hk)) (fun k hk=>Zds (zu hv hk)) (by omega))) ?_
   rintro _ H5 ⟨kH5,hres⟩
   have mH5:=kH5.1
   have hk:=hk.trans kH5
   have c1:=kH5.cl c1 (by simp)
   rcases hres with ⟨p,pb,rfl,hbest,rp⟩ | ⟨rfl,hno⟩
   ·refine Zd rfl<|Zl (v:=.slice (some ⟨pb,0,none⟩) y.js.length y.js.length) rfl (by kernel_rfl)<|Zl (v:=.bool true) rfl (by kernel_rfl)<|Zd rfl<|Zd rfl<|Zi<|Zm<|Zd rfl<|Zl (v:=.bool false) rfl rfl<|Zi<|YI ?_
    first | refine Yn ?_ | skip
    refine Zm<|Zd rfl<|Zd rfl<|Zd rfl<|Zi ?_
    have hin:inB cr 1 8=true:=by assumption
    exact And.intro trivial (Exists.intro _ (And.intro rfl ⟨hk,.inr (.inr ⟨hv,hin,.inl ⟨p,pb,rfl,hbest,rp⟩⟩)⟩))
   ·refine Zd rfl<|Zl (v:=.slice none 0 0) rfl (by kernel_rfl)<|Zl (v:=.bool false) rfl (by kernel_rfl)<|Zd rfl<|Zd rfl<|Zi<|Zm<|Zd rfl<|Zl (v:=.bool true) rfl rfl<|Zi<|YN<|Zm<|Zd rfl<|Zd rfl<|Zi ?_
    have hin:inB cr 1 8=true:=by assumption
    exact And.intro trivial (Exists.intro _ (And.intro rfl ⟨hk,.inr (.inr ⟨hv,hin,.inr ⟨rfl,hno⟩⟩)⟩))
end
end
end Go.Ax

/-
 Pool: the example of the document;lists compared (33,24) (written by program).
-/
namespace Go.Ax
open Go Go.RowKit Go.Proofs

noncomputable section
def y0:Yd:=⟨[⟨100,2,2,[10,30]⟩],[⟨0,0,100,0⟩,⟨300,0,100,1⟩],[⟨60,80,50,60⟩,⟨300,101,0,99⟩],[⟨0,0,47,63⟩,⟨1,0,60,75⟩,⟨0,0,61,62⟩]⟩
section
variable {kn:Kn} {lo:Nat} {H:Hp}
set_option maxRecDepth 100000 in
theorem jn (hlo:lo≤H.next):∃ a H',FnX Try.prog kn lo 33 [] H (.agg (Ya.f a y0).toArray) H'∧YaH H' a y0∧Zf H H' []:=by
 have key:=Zt (kn:=kn) (lo:=lo) (H:=H) (args:=[]) (Q:=fun w H'=>∃ a,w=.agg (Ya.f a y0).toArray∧YaH H' a y0∧Zf H H' []) Try.func33 B33 N33 Z33 L33 (by simp) ?_
 ·obtain ⟨w,H',h,a,rfl,r⟩:=key;exact ⟨a,H',h,r⟩
 have hk:=Zf.refl H []
 refine Ze<|Xw ?_
 intro H1 kH1 nH1 c1
 have c1:Cl H1 H.next [.slice none 0 0,.slice none 0 0,.slice none 0 0,.slice none 0 0]:=c1
 have mH1:=kH1.1
 have hk:=hk.trans kH1
 refine Zb<|Ze ?_
 obtain ⟨H2,hH2⟩:∃ H2,H1.new (.cells [iv 10,iv 30] 3 false)=H2:=⟨_,rfl⟩
 refine Xs (v:=.slice (some ⟨H1.next,0,none⟩) 2 2) (H':=H2) (k:=.heavy) rfl (by kernel_rfl) (Eq.trans (by kernel_rfl:_=some (Rs.val (.slice (some ⟨H1.next,0,none⟩) 2 2) (H1.new (.cells [iv 10,iv 30] 3 false)),Kd.heavy)) (by rw [hH2])) (fun b e=>by cases e) ?_
 obtain ⟨kH2,nH2,cw⟩:=ZM hH2;clear hH2
 have cw:Cl H2 H1.next [iv 10,iv 30]:=cw
 have mH2:=kH2.1
 have hk:=hk.trans kH2
 have c1:=kH2.cl c1 (by simp)
 refine Zg (v:=.agg #[iv 100,iv 2,.slice (some ⟨H1.next,0,none⟩) 2 2,iv 2]) rfl (by kernel_rfl) ?_
 obtain ⟨H3,hH3⟩:∃ H3,H2.new (.cells [iv 100,iv 2,.slice (some ⟨H1.next,0,none⟩) 2 2,iv 2] 60 false)=H3:=⟨_,rfl⟩
 refine Xs (v:=.slice (some ⟨H2.next,0,none⟩) 1 1) (H':=H3) (k:=.heavy) rfl (by kernel_rfl) (Eq.trans (by kernel_rfl:_=some (Rs.val (.slice (some ⟨H2.next,0,none⟩) 1 1) (H2.new (.cells [iv 100,iv 2,.slice (some ⟨H1.next,0,none⟩) 2 2,iv 2] 60 false)),Kd.heavy)) (by rw [hH3])) (fun b e=>by cases e) ?_
 obtain ⟨kH3,nH3,cp⟩:=ZM hH3;clear hH3
 have cp:Cl H3 H2.next [iv 100,iv 2,.slice (some ⟨H1.next,0,none⟩) 2 2,iv 2]:=cp
 have mH3:=kH3.1
 have hk:=hk.trans kH3
 have c1:=kH3.cl c1 (by simp)
 have cw:=kH3.cl cw (by simp)
 refine Zg (v:=.agg #[iv 0,iv 0,iv 100,iv 0]) rfl (by kernel_rfl)<|Zg (v:=.agg #[iv 300,iv 0,iv 100,iv 1]) rfl (by kernel_rfl) ?_
 obtain ⟨H4,hH4⟩:∃ H4,H3.new (.cells [iv 0,iv 0,iv 100,iv 0,iv 300,iv 0,iv 100,iv 1] 62 false)=H4:=⟨_,rfl⟩
 refine Xs (v:=.slice (some ⟨H3.next,0,none⟩) 2 2) (H':=H4) (k:=.heavy) rfl (by kernel_rfl) (Eq.trans (by kernel_rfl:_=some (Rs.val (.slice (some ⟨H3.next,0,none⟩) 2 2) (H3.new (.cells [iv 0,iv 0,iv 100,iv 0,iv 300,iv 0,iv 100,iv 1] 62 false)),Kd.heavy)) (by rw [hH4])) (fun b e=>by cases e) ?_
 obtain ⟨kH4,nH4,cb⟩:=ZM hH4;clear hH4
 have cb:Cl H4 H3.next [iv 0,iv 0,iv 100,iv 0,iv 300,iv 0,iv 100,iv 1]:=cb
 have mH4:=kH4.1
 have hk:=hk.trans kH4
 have c1:=kH4.cl c1 (by simp)
 have cw:=kH4.cl cw (by simp)
 have cp:=kH4.cl cp (by simp)
 refine Zg (v:=.agg #[iv 60,iv 80,iv 50,iv 60]) rfl (by kernel_rfl)<|Zg (v:=.agg #[iv 300,iv 101,iv 0,iv 99]) rfl (by kernel_rfl) ?_
 obtain ⟨H5,hH5⟩:∃ H5,H4.new (.cells [iv 60,iv 80,iv 50,iv 60,iv 300,iv 101,iv 0,iv 99] 64 false)=H5:=⟨_,rfl⟩
 refine Xs (v:=.slice (some ⟨H4.next,0,none⟩) 2 2) (H':=H5) (k:=.heavy) rfl (by kernel_rfl) (Eq.trans (by kernel_rfl:_=some (Rs.val (.slice (some ⟨H4.next,0,none⟩) 2 2) (H4.new (.cells [iv 60,iv 80,iv 50,iv 60,iv 300,iv 101,iv 0,iv 99] 64 false)),Kd.heavy)) (by rw [hH5])) (fun b e=>by cases e) ?_
 obtain ⟨kH5,nH5,cs⟩:=ZM hH5;clear hH5
 have cs:Cl H5 H4.next [iv 60,iv 80,iv 50,iv 60,iv 300,iv 101,iv 0,iv 99]:=cs
 have mH5:=kH5.1
 have hk:=hk.trans kH5
 have c1:=kH5.cl c1 (by simp)
 have cw:=kH5.cl cw (by simp)
 have cp:=kH5.cl cp (by simp)
 have cb:=kH5.cl cb (by simp)
 refine Zg (v:=.agg #[iv 0,iv 0,iv 47,iv 63]) rfl (by kernel_rfl)<|Zg (v:=.agg #[iv 1,iv 0,iv 60,iv 75]) rfl (by kernel_rfl)<|Zg (v:=.agg #[iv 0,iv 0,iv 61,iv 62]) rfl (by kernel_rfl) ?_
 obtain ⟨H6,hH6⟩:∃ H6,H5.new (.cells [iv 0,iv 0,iv 47,iv 63,iv 1,iv 0,iv 60,iv 75,iv 0,iv 0,iv 61,iv 62] 55 false)=H6:=⟨_,rfl⟩
 refine Xs (v:=.slice (some ⟨H5.next,0,none⟩) 3 3) (H':=H6) (k:=.heavy) rfl (by kernel_rfl) (Eq.trans (by kernel_rfl:_=some (Rs.val (.slice (some ⟨H5.next,0,none⟩) 3 3) (H5.new (.cells [iv 0,iv 0,iv 47,iv 63,iv 1,iv 0,iv 60,iv 75,iv 0,iv 0,iv 61,iv 62] 55 false)),Kd.heavy)) (by rw [hH6])) (fun b e=>by cases e) ?_
 obtain ⟨kH6,nH6,cj⟩:=ZM hH6;clear hH6
 have cj:Cl H6 H5.next [iv 0,iv 0,iv 47,iv 63,iv 1,iv 0,iv 60,iv 75,iv 0,iv 0,iv 61,iv 62]:=cj
 have mH6:=kH6.1
 have hk:=hk.trans kH6
 have c1:=kH6.cl c1 (by simp)
 have cw:=kH6.cl cw (by simp)
 have cp:=kH6.cl cp (by simp)
 have cb:=kH6.cl cb (by simp)
 have cs:=kH6.cl cs (by simp)
 refine Zg (v:=.agg #[.slice (some ⟨H2.next,0,none⟩) 1 1,.slice (some ⟨H3.next,0,none⟩) 2 2,.slice (some ⟨H4.next,0,none⟩) 2 2,.slice (some ⟨H5.next,0,none⟩) 3 3]) rfl (by kernel_rfl)<|Xz (b:=H.next) (o:=0) rfl rfl c1 (by omega) rfl rfl (by simp) ?_
 intro H7 kH7 nH7 sH7
 have mH7:=kH7.1
 have hk:=hk.new kH7 (fun b hb=>by simp at hb ⊢;omega)
 have cw:=kH7.cl cw (by first | (simp;done) | (simp;omega))
 have cp:=kH7.cl cp (by first | (simp;done) | (simp;omega))
 have cb:=kH7.cl cb (by first | (simp;done) | (simp;omega))
 have cs:=kH7.cl cs (by first | (simp;done) | (simp;omega))
 have cj:=kH7.cl cj (by first | (simp;done) | (simp;omega))
 have c1:Cl H7 H.next [.slice (some ⟨H2.next,0,none⟩) 1 1,.slice (some ⟨H3.next,0,none⟩) 2 2,.slice (some ⟨H4.next,0,none⟩) 2 2,.slice (some ⟨H5.next,0,none⟩) 3 3]:=sH7
 refine Zb ?_
 exact And.intro trivial (Exists.intro _ (And.intro (zo rfl a27 ZeR rfl c1) ⟨(⟨some ⟨H2.next,0,none⟩,some ⟨H3.next,0,none⟩,some ⟨H4.next,0,none⟩,some ⟨H5.next,0,none⟩,1,2,2,3,fun _=>(some ⟨H1.next,0,none⟩,2)⟩:Ya),rfl,⟨.inr ⟨_,rfl,cp.rd,Nat.le_refl _⟩,fun i hi=>by
   have hi:i < 1:=hi
   obtain rfl:i=0:=by omega
   exact .inr ⟨_,rfl,cw.rd,Nat.le_refl _⟩,.inr ⟨_,rfl,cb.rd,Nat.le_refl _⟩,.inr ⟨_,rfl,cs.rd,Nat.le_refl _⟩,.inr ⟨_,rfl,cj.rd,Nat.le_refl _⟩⟩,hk⟩))
set_option maxRecDepth 100000 in
theorem zw {l:List Int} {pa pb:Option Addr} {cap1 cap2:Nat} (ha:Sl H pa l.length cap1 (cI l)) (hb:Sl H pb l.length cap2 (cI l)) (hlen:l.length≤1000000):∃ H',FnX Try.prog kn lo 24 [.slice pa l.length cap1,.slice pb l.length cap2] H (.bool true) H'∧Zf H H' []:=by
 have key:=Zt (kn:=kn) (lo:=lo) (H:=H) (args:=[.slice pa l.length cap1,.slice pb l.length cap2]) (Q:=fun w H'=>w=.bool true∧Zf H H' []) Try.func24 B24 N24 Z24 L24 (by simp) ?_
 ·obtain ⟨w,H',h,rfl,q⟩:=key;exact ⟨H',h,q⟩
 have hk:=Zf.refl H []
 have fa:=ha.old
 have fb:=hb.old
 refine Ze<|Za rfl<|Zb<|Ze<|Za rfl<|YL (m:=l.length) rfl<|Za rfl<|YL (m:=l.length) rfl<|zI (a:=(l.length:Int)) (b:=(l.length:Int)) rfl rfl ?_
 rw [show ((l.length:Int) != (l.length:Int))=false by simp]
 refine Zb<|YI ?_
 first | refine ZK ?_ | skip
 refine Ze<|Za rfl<|Zb ?_
 refine YO (fn:=Try.f24) Zex N24 ZdB (fun i:Nat=>[(0,.slice pa l.length cap1),(1,.slice pb l.length cap2),(5,iv (i:Int))])
  (fun k i H'=>i+k=l.length∧Zf H H' []∧Sl H' pa l.length cap1 (cI l)∧Sl H' pb l.length cap2 (cI l)) l.length 0 ⟨by omega,hk,ha,hb⟩ ⟨rfl,rfl,rfl,trivial⟩ ?_
 rintro k i L1 ⟨hik,hk,ha,hb⟩
 have mk:=hk.1
 refine Ze<|Za rfl<|Za rfl<|YL (m:=l.length) rfl<|YY (a:=(i:Int)) (b:=(l.length:Int)) rfl rfl<|Zb ?_
 refine And.intro (fun q1=>?_) (fun q1=>?_)
 ·have q1:(i:Int) < (l.length:Int):=of_decide_eq_true q1
  have hi:i < l.length:=by omega
  rcases id ha with ⟨_,h0s,_⟩ | ⟨sb,es,rs,_⟩
  ·omega
  have ls:=rs.1
  rcases id hb with ⟨_,h0t,_⟩ | ⟨tb,et,rt,_⟩
  ·omega
  have lt:=rt.1
  first | refine ZK ?_ | skip
  refine W1<|Yr rfl<|Yr rfl<|WJ (b:=sb) (o:=0) (k:=i) (j:=(i:Int)) (by rw [← es];rfl) rfl rfl hi<|Yb (b:=sb) (o:=0+i * 1) (v:=iv (l.getD i 0)) rfl rs (Jx hi)<|Yr rfl<|Yr rfl<|WJ (b:=tb) (o:=0) (k:=i) (j:=(i:Int)) (by rw [← et];rfl) rfl rfl hi<|Yb (b:=tb) (o:=0+i * 1) (v:=iv (l.getD i 0)) rfl rt (Jx hi)<|Zan (a:=l.getD i 0) (b:=l.getD i 0) rfl rfl ?_
  rw [show ((l.getD i 0) != (l.getD i 0))=false by simp]
  refine Xv (by repeat' first | exact True.intro | exact (fun h=>h) | refine And.intro ?_ ?_ | (intro h;have h:(_:Nat)=_:=h;omega)) ?_
  refine YI ?_
  first | refine ZK ?_ | skip
  show Zw _ _ _ _ _ _ _ _
  refine Za rfl<|Yw (a:=(i:Int)) (b:=1) rfl rfl ⟨by omega,by omega⟩<|Za rfl<|Zb ?_
  exact ⟨k - 1,i+1,by omega,⟨by omega,hk,ha,hb⟩,rfl,rfl,rfl,trivial⟩
 ·have q1:¬ ((i:Int) < (l.length:Int)):=of_decide_eq_false q1
  first | (refine Vb ?_;show wC _ _ _ _ _ _ _ _ _) | skip
  refine Ze<|Za rfl<|Zb ?_
  exact And.intro trivial (Exists.intro _ (And.intro rfl ⟨rfl,hk⟩))
theorem vy0:vY y0=true:=by kernel_rfl
theorem Zcv:dyL y0 0=[47,61,62,63]:=by kernel_rfl
theorem ZdL:dyL y0 1=[60,61,62,63,64,65,66,67,68,69,70]:=by kernel_rfl
theorem Zel:dyL y0 2=[61,62]:=by kernel_rfl
def p0:Nat→Int:=fun k=>([47,60,61]:List Int).getD k 0
theorem ok0:OkQ 3 (dyL y0) (bdN y0) 1 16384 p0 where
 mem i hi:=by
  obtain rfl | rfl | rfl:i=0∨i=1∨i=2:=by omega
  ·rw [Zcv];decide
  ·rw [ZdL];decide
  ·rw [Zel];decide
 le i hi:=by
  obtain rfl | rfl | rfl:i=0∨i=1∨i=2:=by omega
  all_goals decide
 bed i j hij hj _:=by
  obtain ⟨rfl,rfl⟩ | ⟨rfl,rfl⟩ | ⟨rfl,rfl⟩:(i=0∧j=1)∨(i=0∧j=2)∨(i=1∧j=2):=by omega
  all_goals decide
 crew i hi:=by
  obtain rfl | rfl | rfl:i=0∨i=1∨i=2:=by omega
  all_goals decide
theorem Zdy:QU 3 (dyL y0) (bdN y0) 1 16384 p0:=by
 refine ⟨ok0,fun q hq=>?_⟩
 have h0:=hq.mem 0 (by omega)
 have h1:=hq.mem 1 (by omega)
 have h2:=hq.mem 2 (by omega)
 rw [Zcv] at h0
 rw [ZdL] at h1
 rw [Zel] at h2
 simp only [List.mem_cons,List.not_mem_nil,or_false] at h0 h1 h2
 have hb:=hq.bed 0 2 (by omega) (by omega) rfl
 have e0:ltQ 3 p0=61:=by decide
 have eq:ltQ 3 q=max (max (max 0 (q 0)) (q 1)) (q 2):=rfl
 rw [e0,eq]
 have a0:p0 0=47:=rfl
 have a1:p0 1=60:=rfl
 have a2:p0 2=61:=rfl
 refine ⟨by omega,fun e=>?_⟩
 have q0:q 0=47:=by omega
 have q2:q 2=61:=by omega
 by_cases e1:q 1=60
 ·left
  intro i hi
  obtain rfl | rfl | rfl:i=0∨i=1∨i=2:=by omega
  ·rw [q0,a0]
  ·rw [e1,a1]
  ·rw [q2,a2]
 ·right
  refine ⟨1,by omega,fun j hj=>?_,by omega⟩
  obtain rfl:j=0:=by omega
  rw [q0,a0]
end
end
end Go.Ax

/-
 Pool: the examples of the document hold (15) (written by program).
-/
namespace Go.Ax
open Go Go.RowKit Go.Proofs

noncomputable section
abbrev kn0:Kn:=⟨fun _=>none,fun _ _ _ _=>none⟩
theorem Zfj:inB 0 0 ((y0.js.length:Int) - 1)=true:=by kernel_rfl
theorem ZeW:inB 1 1 8=true:=by kernel_rfl
theorem pe0:peL [⟨3,100,200⟩]=11∧peH [⟨3,100,200⟩]=39∧peE [⟨3,100,200⟩]=0:=⟨by kernel_rfl,by kernel_rfl,by kernel_rfl⟩
theorem DaT.y0_ {lo f:Nat} {v:Value} {H:Hp} (h:DaT y0 0 lo f v H):∃ w,v=.tuple #[w,iv 0]∧Acc lo f 3 H w ([47,61,62,63]:List Int).length (cI [47,61,62,63]):=by
 rcases h with ⟨h,_⟩ | ⟨_,h,_⟩ | ⟨_,k,w,hk,_,hv,hw⟩
 ·rw [vy0] at h;cases h
 ·rw [Zfj] at h;cases h
 ·obtain rfl:k=0:=by omega
  rw [Zcv] at hw
  exact ⟨w,hv,hw⟩
theorem PlT.y0_ {v:Value} {H:Hp} (h:PlT y0 1 v H):∃ pb,v=.tuple #[.slice (some ⟨pb,0,none⟩) 3 3,iv 0]∧Rd H pb (cI [47,60,61]):=by
 rcases h with ⟨h,_⟩ | ⟨_,h,_⟩ | ⟨_,_,h⟩
 ·rw [vy0] at h;cases h
 ·rw [ZeW] at h;cases h
 ·rcases h with ⟨p,pb,hv,hb,hr⟩ | ⟨_,hn⟩
  ·refine ⟨pb,hv,?_⟩
   have e:=hb.uniq Zdy
   have:plc y0.js.length p=cI [47,60,61]:=by
    show [iv (p 0),iv (p 1),iv (p 2)]=[iv 47,iv 60,iv 61]
    rw [e 0 (by decide),e 1 (by decide),e 2 (by decide)];rfl
   rw [← this];exact hr
  ·exact absurd ok0 (hn p0)
section
variable {lo:Nat} {H:Hp}
theorem hB0:YaB y0:=⟨by decide,by decide,by decide,by decide,fun i hi=>by
 have hi:i < 1:=hi
 obtain rfl:i=0:=by omega
 decide⟩
set_option maxRecDepth 100000 in
set_option maxHeartbeats 2000000 in
theorem alive_C (s:Snd Try.prog kn0) (hlo:lo≤H.next):FnC Try.prog lo 15 [] H fun v _=>v=.bool true:=by
 refine Zb0 s Try.func15 B15 N15 Z15 L15 (by simp) ?_
 have hk:=Zf.refl H []
 refine Zm<|Zd rfl<|Zi<|Zm ?_
 obtain ⟨a,H1,fH1,hy,kH1⟩:=jn (kn:=kn0) (lo:=lo) (H:=H) (by omega)
 refine Z4 s (vs:=[]) rfl (ZV rfl (by simpa using fH1)) ?_
 have mH1:=kH1.1
 have hk:=hk.trans kH1
 have hyk:=Zf.refl H1 []
 refine W4 ?_
 intro H2 kH2 nH2 c2
 have c2:Cl H2 H1.next [.slice none 0 0,.slice none 0 0,.slice none 0 0,.slice none 0 0]:=c2
 have mH2:=kH2.1
 have hk:=hk.trans kH2
 have hyk:=hyk.trans kH2
 refine U5 (b:=H1.next) (o:=0) rfl rfl c2 (by omega) rfl rfl (by simp) ?_
 intro H3 kH3 nH3 sH3
 have mH3:=kH3.1
 have hk:=hk.new kH3 (fun b hb=>by simp at hb ⊢;omega)
 have hyk:=hyk.new kH3 (fun b hb=>by simp at hb ⊢;omega)
 have c2:Cl H3 H1.next [.slice a.pa 1 a.pc,.slice a.ba 2 a.bc,.slice a.sa 2 a.sc,.slice a.ja 3 a.jc]:=sH3
 refine Zi<|Zm<|XG (b:=H1.next) (o:=0) rfl c2.rd (show row 4 _ _=some [.slice a.pa 1 a.pc,.slice a.ba 2 a.bc,.slice a.sa 2 a.sc,.slice a.ja 3 a.jc] from rfl)<|XM (t:=.fn (.func 18) #[]) (vs:=[.agg (Ya.f a y0).toArray,iv 0]) rfl (Y7 s.hN (ZbN s (H:=H3) (i:=0) (hy.keep hyk) hB0 (by omega))) ?_
 rintro _ H4 ⟨kH4,hd⟩
 obtain ⟨dw,rfl,hdw⟩:=hd.y0_
 have mH4:=kH4.1
 have hk:=hk.trans kH4
 have hyk:=hyk.trans kH4
 have c2:=kH4.cl c2 (by simp)
 obtain ⟨da,dc,rfl,hds,_⟩:=hdw.sl
 have fds:=hds.old
 refine Zd rfl<|Zl (v:=.slice da 4 dc) rfl (by kernel_rfl)<|Zl (v:=iv 0) rfl (by kernel_rfl)<|Zd rfl<|Zd rfl<|Zi<|Zm<|XG (b:=H1.next) (o:=0) rfl c2.rd (show row 4 _ _=some [.slice a.pa 1 a.pc,.slice a.ba 2 a.bc,.slice a.sa 2 a.sc,.slice a.ja 3 a.jc] from rfl)<|XM (t:=.fn (.func 27) #[]) (vs:=[.agg (Ya.f a y0).toArray,iv 1]) rfl (Y7 s.hN (Za6 s (H:=H4) (cr:=1) (hy.keep hyk) hB0 (by omega))) ?_
 rintro _ H5 ⟨kH5,hp⟩
 obtain ⟨pb,rfl,hpl⟩:=hp.y0_
 have mH5:=kH5.1
 have hk:=hk.trans kH5
 have hyk:=hyk.trans kH5
 have c2:=kH5.cl c2 (by simp)
 have hds:=kH5.sl0 hds
 have hps:Sl H5 (some ⟨pb,0,none⟩) 3 3 (cI [47,60,61]):=.inr ⟨pb,rfl,hpl,Nat.le_refl _⟩
 have fps:=hps.old
 refine Zd rfl<|Zl (v:=.slice (some ⟨pb,0,none⟩) 3 3) rfl (by kernel_rfl)<|Zl (v:=iv 0) rfl (by kernel_rfl)<|Zd rfl<|Zd rfl<|Zi<|Zm<|Zl (v:=.agg #[iv 100,iv 200]) rfl (by kernel_rfl)<|Zl (v:=.agg #[iv 3,iv 100,iv 200]) rfl (by kernel_rfl) ?_
 obtain ⟨H6,hH6⟩:∃ H6,H5.new (.cells [iv 3,iv 100,iv 200] 57 false)=H6:=⟨_,rfl⟩
 refine Wk (v:=.slice (some ⟨H5.next,0,none⟩) 1 1) (H':=H6) (k:=.heavy) rfl (by kernel_rfl) (Eq.trans (by kernel_rfl:_=some (Rs.val (.slice (some ⟨H5.next,0,none⟩) 1 1) (H5.new (.cells [iv 3,iv 100,iv 200] 57 false)),Kd.heavy)) (by rw [hH6])) (fun b e=>by cases e) ?_
 obtain ⟨kH6,nH6,ct⟩:=ZM hH6;clear hH6
 have ct:Cl H6 H5.next [iv 3,iv 100,iv 200]:=ct
 have mH6:=kH6.1
 have hk:=hk.trans kH6
 have hyk:=hyk.trans kH6
 have c2:=kH6.cl c2 (by simp)
 have hds:=kH6.sl0 hds
 have hps:=kH6.sl0 hps
 obtain ⟨H7,fH7,kH7⟩:=JE (kn:=kn0) (lo:=lo) (H:=H6) (l:=[⟨3,100,200⟩]) (sa:=some ⟨H5.next,0,none⟩) (n:=1) (cap:=1) (.inr ⟨_,rfl,ct.rd,Nat.le_refl _⟩) rfl (by omega) (by omega)
 rw [pe0.1,pe0.2.1,pe0.2.2] at fH7
 refine Z4 s (vs:=[.slice (some ⟨H5.next,0,none⟩) 1 1]) rfl (Zk fH7) ?_
 have mH7:=kH7.1
 have hk:=hk.trans kH7
 have hyk:=hyk.trans kH7
 have c2:=kH7.cl c2 (by simp)
 have hds:=kH7.sl0 hds
 have hps:=kH7.sl0 hps
 have ct:=kH7.cl ct (by simp)
 refine Zd rfl<|Zl (v:=.agg #[iv 11,iv 39]) rfl (by kernel_rfl)<|Zl (v:=iv 0) rfl (by kernel_rfl)<|W4 ?_
 intro H8 kH8 nH8 c8
 have c8:Cl H8 H7.next [iv 0,iv 0]:=c8
 have mH8:=kH8.1
 have hk:=hk.trans kH8
 have hyk:=hyk.trans kH8
 have c2:=kH8.cl c2 (by simp)
 have hds:=kH8.sl0 hds
 have hps:=kH8.sl0 hps
 have ct:=kH8.cl ct (by simp)
 refine U5 (b:=H7.next) (o:=0) rfl rfl c8 (by omega) rfl rfl (by simp) ?_
 intro H9 kH9 nH9 sH9
 have mH9:=kH9.1
 have hk:=hk.new kH9 (fun b hb=>by simp at hb ⊢;omega)
 have hyk:=hyk.new kH9 (fun b hb=>by simp at hb ⊢;omega)
 have c2:=kH9.cl c2 (by first | (simp;done) | (simp;omega))
 have hds:=kH9.sl hds (fun b e=>by have:=fds b e;first | (simp;done) | (simp;omega))
 have hps:=kH9.sl hps (fun b e=>by have:=fps b e;first | (simp;done) | (simp;omega))
 have ct:=kH9.cl ct (by first | (simp;done) | (simp;omega))
 have c8:Cl H9 H7.next [iv 11,iv 39]:=sH9
 refine Zd rfl<|Zi<|Zm<|Zd rfl ?_
 obtain ⟨H10,hH10⟩:∃ H10,H9.new (.cells [iv 47,iv 61,iv 62,iv 63] 3 false)=H10:=⟨_,rfl⟩
 refine Wk (v:=.slice (some ⟨H9.next,0,none⟩) 4 4) (H':=H10) (k:=.heavy) rfl (by kernel_rfl) (Eq.trans (by kernel_rfl:_=some (Rs.val (.slice (some ⟨H9.next,0,none⟩) 4 4) (H9.new (.cells [iv 47,iv 61,iv 62,iv 63] 3 false)),Kd.heavy)) (by rw [hH10])) (fun b e=>by cases e) ?_
 obtain ⟨kH10,nH10,cl4⟩:=ZM hH10;clear hH10
 have cl4:Cl H10 H9.next [iv 47,iv 61,iv 62,iv 63]:=cl4
 have mH10:=kH10.1
 have hk:=hk.trans kH10
 have hyk:=hyk.trans kH10
 have c2:=kH10.cl c2 (by simp)
 have hds:=kH10.sl0 hds
 have hps:=kH10.sl0 hps
 have ct:=kH10.cl ct (by simp)
 have c8:=kH10.cl c8 (by simp)
 obtain ⟨H11,fH11,kH11⟩:=zw (kn:=kn0) (lo:=lo) (H:=H10) (l:=[47,61,62,63]) (pa:=da) (cap1:=dc) hds (pb:=some ⟨H9.next,0,none⟩) (cap2:=4) (.inr ⟨_,rfl,cl4.rd,Nat.le_refl _⟩) (by decide)
 refine Z4 s (v:=.bool true) (vs:=[.slice da 4 dc,.slice (some ⟨H9.next,0,none⟩) 4 4]) rfl (Zk fH11) ?_
 have mH11:=kH11.1
 have hk:=hk.trans kH11
 have hyk:=hyk.trans kH11
 have c2:=kH11.cl c2 (by simp)
 have hds:=kH11.sl0 hds
 have hps:=kH11.sl0 hps
 have ct:=kH11.cl ct (by simp)
 have c8:=kH11.cl c8 (by simp)
 have cl4:=kH11.cl cl4 (by simp)
 refine Zd rfl ?_
 refine YX rfl (Zd rfl ?_)
 refine YX rfl (QR (a:=(0:Int)) (b:=(0:Int)) rfl rfl ?_)
 intro t12 ht12
 have t12e:t12=true:=by rw [← ht12];simp
 subst t12e
 refine Zl (v:=.bool true) rfl rfl<|Zd rfl ?_
 refine YX rfl (Zd rfl ?_)
 obtain ⟨H13,hH13⟩:∃ H13,H11.new (.cells [iv 47,iv 60,iv 61] 3 false)=H13:=⟨_,rfl⟩
 refine YX rfl (Wk (v:=.slice (some ⟨H11.next,0,none⟩) 3 3) (H':=H13) (k:=.heavy) rfl (by kernel_rfl) (Eq.trans (by kernel_rfl:_=some (Rs.val (.slice (some ⟨H11.next,0,none⟩) 3 3) (H11.new (.cells [iv 47,iv 60,iv 61] 3 false)),Kd.heavy)) (by rw [hH13])) (fun b e=>by cases e) ?_)
 obtain ⟨kH13,nH13,cl3⟩:=ZM hH13;clear hH13
 have cl3:Cl H13 H11.next [iv 47,iv 60,iv 61]:=cl3
 have mH13:=kH13.1
 have hk:=hk.trans kH13
 have hyk:=hyk.trans kH13
 have c2:=kH13.cl c2 (by simp)
 have hds:=kH13.sl0 hds
 have hps:=kH13.sl0 hps
 have ct:=kH13.cl ct (by simp)
 have c8:=kH13.cl c8 (by simp)
 have cl4:=kH13.cl cl4 (by simp)
 obtain ⟨H14,fH14,kH14⟩:=zw (kn:=kn0) (lo:=lo) (H:=H13) (l:=[47,60,61]) (pa:=some ⟨pb,0,none⟩) (cap1:=3) hps (pb:=some ⟨H11.next,0,none⟩) (cap2:=3) (.inr ⟨_,rfl,cl3.rd,Nat.le_refl _⟩) (by decide)
 refine YX rfl (Z4 s (v:=.bool true) (vs:=[.slice (some ⟨pb,0,none⟩) 3 3,.slice (some ⟨H11.next,0,none⟩) 3 3]) rfl (Zk fH14) ?_)
 have mH14:=kH14.1
 have hk:=hk.trans kH14
 have hyk:=hyk.trans kH14
 have c2:=kH14.cl c2 (by simp)
 have hds:=kH14.sl0 hds
 have hps:=kH14.sl0 hps
 have ct:=kH14.cl ct (by simp)
 have c8:=kH14.cl c8 (by simp)
 have cl4:=kH14.cl cl4 (by simp)
 have cl3:=kH14.cl cl3 (by simp)
 refine Zl (v:=.bool true) rfl rfl<|Zd rfl ?_
 refine YX rfl (Zd rfl ?_)
 refine YX rfl (QR (a:=(0:Int)) (b:=(0:Int)) rfl rfl ?_)
 intro t15 ht15
 have t15e:t15=true:=by rw [← ht15];simp
 subst t15e
 refine Zl (v:=.bool true) rfl rfl<|Zd rfl ?_
 refine YX rfl (XG (b:=H7.next) (o:=0) rfl c8.rd (show row 2 _ _=some [iv 11,iv 39] from rfl) ?_)
 refine YX rfl (Zl (v:=.agg #[iv 11,iv 39]) rfl (by kernel_rfl) ?_)
 refine YX rfl (Zl (v:=.bool true) rfl (by kernel_rfl) ?_)
 refine Zl (v:=.bool true) rfl rfl<|Zd rfl ?_
 refine YX rfl (Zd rfl ?_)
 refine YX rfl (QR (a:=(0:Int)) (b:=(0:Int)) rfl rfl ?_)
 intro t16 ht16
 have t16e:t16=true:=by rw [← ht16];simp
 subst t16e
 refine Zl (v:=.bool true) rfl rfl<|Zd rfl<|Zi ?_
 exact And.intro trivial (Exists.intro _ (And.intro rfl rfl))
end
end
end Go.Ax

/-
 Proved here: 'alive',the closed part that every law of spray ends in,returns true in every world,whatever is drawn,and leaves what lay below as_ it was. Conditions: none.
 It has no arguments;it is worked out by the contracts of the functions that it calls (K15).
-/
namespace Go.Ax
open Go Go.RowKit
theorem known_one {P:Program} {g:FuncId} {t:Bool} (hb:((P.funcs[g]?).bind (fun fn=>fn.body)).isSome=true) (hc:∀ w,Calls P g #[] w fun e w'=>e=.returned (.bool t)∧Below w.heap.size w w') :
  Known P ⟨fun f=>bif Nat.beq f g then some t else none,fun _ _ _ _=>none⟩:=by
 refine ⟨?_,fun f lo args H v H' _ h=>by cases h⟩
 intro f b h
 obtain ⟨hf,h1⟩:=Zc h
 clear h
 have hf:=Nat.eq_of_beq_eq_true hf
 subst hf
 cases h1
 refine ⟨?_,hc⟩
 cases hx:P.funcs[f]? with
 | none=>rw [hx] at hb;cases hb
 | some fn=>
  rw [hx] at hb
  cases hy:fn.body with
  | none=>rw [Option.bind_some,hy] at hb;cases hb
  | some c=>exact ⟨fn,c,rfl,hy⟩
theorem known_nothing {P:Program}:Known P ⟨fun _=>none,fun _ _ _ _=>none⟩:=⟨KT.nothing P,fun f lo args H v H' _ h=>by cases h⟩
end Go.Ax
namespace Go.Proofs.Ytlgfejokafimaaa.alive
open Go.RowKit
theorem mixed:Try.prog.follows .mixedOrders=true:=by kernel_rfl
theorem qd : (Try.prog.funcs.toList.all fun fn => !(fn.name == "runtime.NumGoroutine")) = true := by kernel_rfl
theorem noCount:Go.Ax.NoCount Try.prog:=fun f fn h=>by
 have h2:=List.all_eq_true.1 qd fn (by
  have:=Array.mem_of_getElem? h
  simpa using this)
 simpa using h2
theorem call (w:World):Calls Try.prog 15 #[] w fun e w'=>e=.returned (.bool true)∧Below w.heap.size w w':=
 Go.Ax.closed_callC (Go.Ax.alive_C ⟨mixed,noCount,Go.Ax.known_nothing⟩ (Nat.zero_le _)) w
theorem known:Go.Ax.Known Try.prog ⟨fun f=>bif Nat.beq f 15 then some true else none,fun _ _ _ _=>none⟩:=Go.Ax.known_one (by kernel_rfl) call
end Go.Proofs.Ytlgfejokafimaaa.alive

/-
 Pool: Needed (31,32);the law SprayPests (5) (written by program).
-/
namespace Go.Ax
open Go Go.RowKit Go.Proofs

noncomputable section
theorem ZcM:Try.prog.underlying 46=some (.struct (VE Try.prog 46)):=by kernel_rfl
theorem Zfr : (VE Try.prog 46).toList.map (fun f => (f.type, f.offset, f.name == "_")) = [(3, 0, false), (3, 1, false)] := by kernel_rfl
theorem ZfE:Program.stoodInHeld Try.prog 46=false:=by kernel_rfl
set_option maxRecDepth 100000 in
theorem Zfz {d:Nat} (a0 a1:Int):Zz Try.prog (Op.equalIn (d+2) 46 (.agg #[iv a0,iv a1]) (.agg #[iv a0,iv a1]))=some true:=by
 have h:=UX (d:=d+1) (xs:=#[iv a0,iv a1]) (ys:=#[iv a0,iv a1]) (X9 ZcM) ZfE (fun _=>true) (by
   intro q hq
   have h : (q.type, q.offset, q.name == "_") ∈ [(3, 0, false), (3, 1, false)] := by rw [← Zfr]; exact List.mem_map.mpr ⟨q, hq, rfl⟩
   simp only [List.mem_cons,List.not_mem_nil,or_false,Prod.mk.injEq] at h
   have one:∀ x:Int,Zz Try.prog (Op.equalIn (d+1) 3 (iv x) (iv x))=some true:=fun x=>by rw [Js];simp
   rcases h with ⟨h1,h2,h3⟩ | ⟨h1,h2,h3⟩<;>(refine ⟨by intro e;rw [e] at h3;simp at h3,?_⟩;rw [h1,h2])
   ·exact ⟨iv a0,iv a0,by kernel_rfl,by kernel_rfl,one a0⟩
   ·exact ⟨iv a1,iv a1,by kernel_rfl,by kernel_rfl,one a1⟩)
 rw [show d+2=d+1+1 from rfl,h]
 simp
set_option maxRecDepth 100000 in
theorem Zcr {n:Nat} {S:Rg} {d:Option Tmp} {x y:Operand} {p:String} {ty:TypeId} {a0 a1:Int} (hx:evS S x=some (.agg #[iv a0,iv a1])) (hy:evS S y=some (.agg #[iv a0,iv a1])):Zo Try.prog (frS n S) ⟨d,.binOp .eql 46 x y 46,ty,p,#[],none⟩=some (.bool true):=by
 have key:Zz Try.prog (do eqGuard .eql 46 x y (.agg #[iv a0,iv a1]) (.agg #[iv a0,iv a1]);binOp .eql 46 (.agg #[iv a0,iv a1]) (.agg #[iv a0,iv a1]))=some (.bool true):=by
  rw [YD,show Zz Try.prog (eqGuard .eql 46 x y (.agg #[iv a0,iv a1]) (.agg #[iv a0,iv a1]))=some () from by kernel_rfl,Option.bind_some]
  show Zz Try.prog (do pure (Value.bool (← Op.equalIn (9998+2) 46 (.agg #[iv a0,iv a1]) (.agg #[iv a0,iv a1]))))=_
  rw [YD,Zfz];rfl
 unfold Zo
 simp only [YC,hx,hy,show flat (.agg #[iv a0,iv a1])=true from rfl,Bool.and_self,cond_true,key]
 rfl
section
variable {kn:Kn} {lo:Nat} {H:Hp}
end
end
end Go.Ax

/-
 Pool: what a trap can mean (39);the law SprayEnds (12) (written by program).
-/
namespace Go.Ax
open Go Go.RowKit Go.Proofs

noncomputable section
def WI (t:Tp) (n:Int):Bool:=decide (n * t.l / 1000≤t.c) && decide (t.c≤(n * t.h+1000 - 1) / 1000)
theorem Zaw {n x:Int} (h1:0≤n) (h2:n≤4398046511104) (h3:0≤x) (h4:x≤1000):0≤n * x∧n * x≤4398046511104000:=by
 refine ⟨Int.mul_nonneg h1 h3,?_⟩
 have:=Int.mul_le_mul h2 h4 h3 (by decide)
 simpa using this
theorem ZbS {t:Tp} (h:vT t=true):0≤ZP t∧ZP t≤Z1 t∧Z1 t≤2199023255552∧WI t (ZP t)=true∧WI t (Z1 t)=true∧(0 < ZP t→WI t (ZP t - 1)=false)∧WI t (Z1 t+1)=false:=by
 have hv:=jd h
 obtain ⟨c0,c1,l0,lh,h0⟩:=hv
 have hf:=yv h
 have hm:=qc h
 have m1:Z1 t * t.l≤(t.c+1) * 1000 - 1:=Int.ediv_mul_le _ (by omega)
 have m2:(t.c+1) * 1000 - 1 < (Z1 t+1) * t.l:=Int.lt_ediv_add_one_mul_self _ (by omega)
 have m3:(Z1 t+1) * t.l=Z1 t * t.l+t.l:=by rw [Int.add_mul,Int.one_mul]
 have m4:Z1 t * t.l≤Z1 t * t.h:=Int.mul_le_mul_of_nonneg_left lh hm.1
 have m5:(Z1 t+1) * t.l≤(Z1 t+1) * t.h:=Int.mul_le_mul_of_nonneg_left lh (by omega)
 have f4:ZP t * t.l≤ZP t * t.h:=Int.mul_le_mul_of_nonneg_left lh hf.1
 have cm:WI t (Z1 t)=true:=by
  unfold WI
  simp only [Bool.and_eq_true,decide_eq_true_eq]
  omega
 have cm1:WI t (Z1 t+1)=false:=by
  rw [← Bool.not_eq_true]
  unfold WI
  simp only [Bool.and_eq_true,decide_eq_true_eq]
  omega
 by_cases e:t.c=0
 ·have ef:ZP t=0:=by unfold ZP;rw [if_pos e]
  rw [ef] at f4 ⊢
  refine ⟨by omega,by omega,hm.2,?_,cm,fun q=>by omega,cm1⟩
  unfold WI
  simp only [Bool.and_eq_true,decide_eq_true_eq]
  omega
 ·have ef:ZP t=(t.c - 1) * 1000 / t.h+1:=by unfold ZP;rw [if_neg e]
  have q1:(t.c - 1) * 1000 / t.h * t.h≤(t.c - 1) * 1000:=Int.ediv_mul_le _ (by omega)
  have q2:(t.c - 1) * 1000 < ((t.c - 1) * 1000 / t.h+1) * t.h:=Int.lt_ediv_add_one_mul_self _ (by omega)
  have e1:ZP t - 1=(t.c - 1) * 1000 / t.h:=by omega
  rw [← e1] at q1
  rw [← ef] at q2
  have q3:(ZP t - 1) * t.h=ZP t * t.h - t.h:=by rw [Int.sub_mul,Int.one_mul]
  have cf:WI t (ZP t)=true:=by
   unfold WI
   simp only [Bool.and_eq_true,decide_eq_true_eq]
   omega
  have cf1:WI t (ZP t - 1)=false:=by
   rw [← Bool.not_eq_true]
   unfold WI
   simp only [Bool.and_eq_true,decide_eq_true_eq]
   omega
  refine ⟨hf.1,?_,hm.2,cf,cm,fun _=>cf1,cm1⟩
  rcases Int.lt_or_le (Z1 t) (ZP t) with x | x
  ·exfalso
   have y:(Z1 t+1) * t.l≤ZP t * t.l:=Int.mul_le_mul_of_nonneg_right (by omega) (by omega)
   omega
  ·exact x
theorem Zdd {t:Tp} (h:vT t=true):peL [t]=ZP t∧peH [t]=Z1 t∧peE [t]=0:=by
 have q:=qF (l:=[t]) (by simp) (by simp [h])
 refine ⟨q.1.trans ?_,q.2.1.trans ?_,q.2.2⟩
 ·show 0+ZP t=ZP t;omega
 ·show 0+Z1 t=Z1 t;omega
theorem ZcV {l:List Tp} (h:l.length≤64):(peE l=0→l.all vT=true)∧(peE l≠0→peL l=0∧peH l=0∧peE l=1):=by
 cases e:l.all vT with
 | true=>exact ⟨fun _=>rfl,fun q=>absurd (qF h e).2.2 q⟩
 | false=>exact ⟨fun q=>by rw [(qi h e).2.2] at q;omega,fun _=>qi h e⟩
section
variable {kn:Kn} {lo:Nat} {H:Hp}
theorem Jv {t:Tp} (hv:vT t=true) {n:Int} (h1:0≤n) (h2:n≤4398046511104) (hlo:lo≤H.next):∃ H',FnX Try.prog kn lo 39 [.agg (Tp.f t).toArray,iv n] H (.bool (WI t n)) H'∧Zf H H' []:=by
 have key:=Zt (kn:=kn) (lo:=lo) (H:=H) (args:=[.agg (Tp.f t).toArray,iv n]) (Q:=fun w H'=>w=.bool (WI t n)∧Zf H H' []) Try.func39 B39 N39 Z39 L39 (by simp) ?_
 ·obtain ⟨w,H',h,rfl,q⟩:=key;exact ⟨H',h,q⟩
 have hk:=Zf.refl H []
 obtain ⟨c0,c1,l0,lh,h0⟩:=jd hv
 have b1:=Zaw h1 h2 (show 0≤t.l by omega) (by omega)
 have b2:=Zaw h1 h2 (show 0≤t.h by omega) (by omega)
 refine Ze<|Ye (v:=.agg (Tp.f t).toArray) rfl ?_
 intro H1 kH1 nH1 c1
 have c1:Cl H1 H.next [iv t.c,iv t.l,iv t.h]:=c1
 have mH1:=kH1.1
 have hk:=hk.trans kH1
 refine Za rfl<|Zb<|Ze<|Za rfl<|Zn (b:=H.next) (o:=0) rfl<|Zn (b:=H.next) (o:=1) rfl<|ZD (b:=H.next) (o:=1) (v:=iv t.l) rfl c1.rd rfl<|Q8 (a:=n) (b:=t.l) rfl rfl ⟨by omega,by omega⟩<|yl (a:=n * t.l) (b:=1000) rfl rfl (by omega) (by omega) ⟨by omega,by omega⟩<|Zn (b:=H.next) (o:=0) rfl<|ZD (b:=H.next) (o:=0) (v:=iv t.c) rfl c1.rd rfl<|XP (a:=(n * t.l) / 1000) (b:=t.c) rfl rfl ?_
 intro t1 g1;cases t1
 ·have g1:¬ (((n * t.l) / 1000)≤t.c):=of_decide_eq_false g1
  refine Za rfl<|Zh rfl<|Zh rfl<|Zh rfl<|Zh rfl<|Zh rfl<|Zh rfl<|Zh rfl<|Zh rfl<|Zh rfl<|Zh rfl<|Zh rfl<|Zg (v:=.bool false) rfl rfl<|Za rfl<|Zb ?_
  exact And.intro trivial (Exists.intro _ (And.intro rfl ⟨congrArg Value.bool (show false=WI t n from by symm;rw [← Bool.not_eq_true];simp only [WI,inB,Bool.and_eq_true,decide_eq_true_eq];omega),hk⟩))
 ·have g1:((n * t.l) / 1000)≤t.c:=of_decide_eq_true g1
  refine Za rfl ?_
  refine Zs rfl (Zn (b:=H.next) (o:=0) rfl ?_)
  refine Zs rfl (ZD (b:=H.next) (o:=0) (v:=iv t.c) rfl c1.rd rfl ?_)
  refine Zs rfl (Za rfl ?_)
  refine Zs rfl (Zn (b:=H.next) (o:=0) rfl ?_)
  refine Zs rfl (Zn (b:=H.next) (o:=1) rfl ?_)
  refine Zs rfl (ZD (b:=H.next) (o:=2) (v:=iv t.h) rfl c1.rd rfl ?_)
  refine Zs rfl (Q8 (a:=n) (b:=t.h) rfl rfl ⟨by omega,by omega⟩ ?_)
  refine Zs rfl (Yw (a:=n * t.h) (b:=1000) rfl rfl ⟨by omega,by omega⟩ ?_)
  refine Zs rfl (Qb (a:=(n * t.h)+1000) (b:=1) rfl rfl ⟨by omega,by omega⟩ ?_)
  refine Zs rfl (yl (a:=((n * t.h)+1000) - 1) (b:=1000) rfl rfl (by omega) (by omega) ⟨by omega,by omega⟩ ?_)
  refine Zs rfl (XP (a:=t.c) (b:=(((n * t.h)+1000) - 1) / 1000) rfl rfl ?_)
  intro t2 g2;cases t2
  ·have g2:¬ (t.c≤((((n * t.h)+1000) - 1) / 1000)):=of_decide_eq_false g2
   refine Zg (v:=.bool false) rfl rfl<|Za rfl<|Zb ?_
   exact And.intro trivial (Exists.intro _ (And.intro rfl ⟨congrArg Value.bool (show false=WI t n from by symm;rw [← Bool.not_eq_true];simp only [WI,inB,Bool.and_eq_true,decide_eq_true_eq];omega),hk⟩))
  ·have g2:t.c≤((((n * t.h)+1000) - 1) / 1000):=of_decide_eq_true g2
   refine Zg (v:=.bool true) rfl rfl<|Za rfl<|Zb ?_
   exact And.intro trivial (Exists.intro _ (And.intro rfl ⟨congrArg Value.bool (show true=WI t n from by symm;simp only [WI,inB,Bool.and_eq_true,decide_eq_true_eq];omega),hk⟩))
theorem Zff:ZZ Try.prog 44=some (57,3):=by kernel_rfl
theorem Zfi:Ym Try.prog 57=some (.agg #[iv 0,iv 0,iv 0]):=by kernel_rfl
set_option maxRecDepth 100000 in
set_option maxHeartbeats 2000000 in
theorem Zag (hkn:kn.b 15=some true) {l:List Tp} {sa:Option Addr} {n cap:Nat} (hs:Sl H sa n cap (tpc l)) (hl:l.length=n) (hlo:lo≤H.next):∃ H',FnX Try.prog kn lo 12 [.slice sa n cap] H (.bool true) H':=by
 have key:=Zt (kn:=kn) (lo:=lo) (H:=H) (args:=[.slice sa n cap]) (Q:=fun w H'=>w=.bool true) Try.func12 B12 N12 Z12 L12 (by simp) ?_
 ·obtain ⟨w,H',h,rfl⟩:=key;exact ⟨H',h⟩
 have hk:=Zf.refl H []
 refine Ze<|Za rfl<|Zb<|Ze<|Za rfl<|YL (m:=n) rfl<|zp (a:=(n:Int)) (b:=64) rfl rfl<|Zb ?_
 refine And.intro (fun q1=>?_) (fun q1=>?_)
 ·have q1:(n:Int) > 64:=of_decide_eq_true q1
  refine Ze<|Zq (vs:=[]) rfl (VG hkn)<|Za rfl<|Zb ?_
  exact And.intro trivial (Exists.intro _ (And.intro rfl rfl))
 ·have q1:¬ ((n:Int) > 64):=of_decide_eq_false q1
  have hn:n≤1000:=by omega
  have hl64:l.length≤64:=by omega
  have hinv:=ZcV hl64
  first | refine ZK ?_ | skip
  refine Ze<|Za rfl ?_
  obtain ⟨H1,fH1,kH1⟩:=JE (kn:=kn) (lo:=lo) (H:=H) (hk.sl0 hs) hl hn (by omega)
  refine Zq (vs:=[.slice sa n cap]) rfl (Zk fH1) ?_
  have mH1:=kH1.1
  have hk:=hk.trans kH1
  refine Za rfl<|Zg (v:=.agg #[iv (peL l),iv (peH l)]) rfl (by kernel_rfl)<|Zg (v:=iv (peE l)) rfl (by kernel_rfl)<|Xw ?_
  intro H2 kH2 nH2 c2
  have c2:Cl H2 H1.next [iv 0,iv 0]:=c2
  have mH2:=kH2.1
  have hk:=hk.trans kH2
  refine Xz (b:=H1.next) (o:=0) rfl rfl c2 (by omega) rfl rfl (by simp) ?_
  intro H3 kH3 nH3 sH3
  have mH3:=kH3.1
  have hk:=hk.new kH3 (fun b hb=>by simp at hb ⊢;omega)
  have c2:Cl H3 H1.next [iv (peL l),iv (peH l)]:=sH3
  refine Za rfl<|Zb<|Ze<|Za rfl<|zI (a:=(peE l)) (b:=0) rfl rfl<|Zb ?_
  refine And.intro (fun q2=>?_) (fun q2=>?_)
  ·have q2:(peE l)≠0:=by simpa using q2
   have hz:=hinv.2 (show peE l≠0 by omega)
   refine Ze<|Z3 (b:=H1.next) (o:=0) rfl c2.rd (show row 2 _ _=some [iv (peL l),iv (peH l)] from rfl)<|Zg (v:=.agg #[iv 0,iv 0]) rfl (by kernel_rfl)<|Zg (v:=.bool true) rfl (Zcr (a0:=0) (a1:=0) ((show _=some (Value.agg #[iv (peL l),iv (peH l)]) from rfl).trans (by rw [hz.1,hz.2.1])) rfl)<|Za rfl ?_
   refine Zs rfl (Za rfl ?_)
   refine Zs rfl (Zal (a:=peE l) (b:=1) rfl rfl ?_)
   intro t4 ht4
   have t4e:t4=true:=by rw [← ht4,hz.2.2];rfl
   subst t4e
   refine Zg (v:=.bool true) rfl rfl<|Za rfl ?_
   refine Zs rfl (Zq (vs:=[]) rfl (VG hkn) ?_)
   refine Zg (v:=.bool true) rfl rfl<|Za rfl<|Zb ?_
   exact And.intro trivial (Exists.intro _ (And.intro rfl rfl))
  ·have q2:¬ ((peE l)≠0):=by simpa using q2
   have hall:=hinv.1 (show peE l=0 by omega)
   have hpo:=qF hl64 hall
   first | refine ZK ?_ | skip
   refine Ze<|Xw ?_
   intro H5 kH5 nH5 c5
   have c5:Cl H5 H3.next [iv 0,iv 0]:=c5
   have mH5:=kH5.1
   have hk:=hk.trans kH5
   have c2:=kH5.cl c2 (by simp)
   refine Zb<|Ze<|Za rfl<|YL (m:=n) rfl<|Za rfl<|Zb ?_
   have d3:Cl H5 (H1.next) [iv (peL l),iv (peH l)]:=c2
   have d5:Cl H5 (H3.next) [iv 0,iv 0]:=c5
   have l3:=d3.1
   have l5:=d5.1
   refine YO (fn:=Try.f12) Zep N12 Zdt (fun k:Nat=>[(3,pt H1.next),(5,pt H3.next),(31,.slice sa n cap),(32,iv (n:Int)),(33,iv (k:Int))])
    (fun q k H'=>k+q=n∧Zf H H' []∧H5.next≤H'.next∧Cl H' (H1.next) [iv (peL l),iv (peH l)]∧Cl H' (H3.next) [iv (smT k fun i=>ZP (l.getD i Tp.z)),iv (smT k fun i=>Z1 (l.getD i Tp.z))]) n 0 ⟨by simp,hk,by omega,d3,d5⟩ ⟨rfl,rfl,rfl,rfl,rfl,trivial⟩ ?_
   rintro q k L1 ⟨hkq,hk,hnx,d3,d5⟩
   have mk:=hk.1
   have hs1:=yF (n:=k) (g:=fun i=>ZP (l.getD i Tp.z)) (fun i hi=>yv (XZ (z:=Tp.z) hall (by omega)))
   have hs2:=yF (n:=k) (g:=fun i=>Z1 (l.getD i Tp.z)) (fun i hi=>qc (XZ (z:=Tp.z) hall (by omega)))
   refine Ze<|YY (a:=(k:Int)) (b:=(n:Int)) rfl rfl<|Zb ?_
   refine And.intro (fun q3=>?_) (fun q3=>?_)
   ·have q3:(k:Int) < (n:Int):=of_decide_eq_true q3
    have hkn2:k < n:=by omega
    have hvt:=XZ (z:=Tp.z) hall (show k < l.length by omega)
    have hpe:=Zdd hvt
    obtain ⟨ca1,ca2,ca3,ca4,ca5,ca6,ca7⟩:=ZbS hvt
    have sq0:=hk.sl0 hs
    rcases id sq0 with ⟨_,h0q,_⟩ | ⟨qb,eq,rq,_⟩
    ·omega
    have lq:=rq.1
    have oq:=hs.old qb eq
    first | refine ZK ?_ | skip
    refine Ze<|XH (b:=qb) (o:=0) (k:=k) (j:=(k:Int)) (by rw [← eq];rfl) rfl rfl hkn2<|Z3 (b:=qb) (o:=0+k * 3) rfl rq (Ji (by omega))<|Xw ?_
    intro H6 kH6 nH6 c6
    have c6:Cl H6 L1.next [iv 0,iv 0,iv 0]:=c6
    have mH6:=kH6.1
    have hk:=hk.trans kH6
    have d3:=kH6.cl d3 (by simp)
    have d5:=kH6.cl d5 (by simp)
    have rq:=kH6.rd rq (by simp)
    refine Xz (b:=L1.next) (o:=0) rfl rfl c6 (by omega) rfl rfl (by simp) ?_
    intro H7 kH7 nH7 sH7
    have mH7:=kH7.1
    have hk:=hk.new kH7 (fun b hb=>by simp at hb ⊢;omega)
    have d3:=kH7.cl d3 (by first | (simp;done) | (simp;omega))
    have d5:=kH7.cl d5 (by first | (simp;done) | (simp;omega))
    have rq:=kH7.rd rq (by first | (simp;done) | (simp;omega))
    have c6:Cl H7 L1.next [iv ((l.getD k Tp.z).c),iv ((l.getD k Tp.z).l),iv ((l.getD k Tp.z).h)]:=sH7
    refine Zb<|Ze<|Z3 (b:=L1.next) (o:=0) rfl c6.rd (show row 3 _ _=some [iv ((l.getD k Tp.z).c),iv ((l.getD k Tp.z).l),iv ((l.getD k Tp.z).h)] from rfl) ?_
    obtain ⟨H8,hH8⟩:∃ H8,H7.new (.cells [iv ((l.getD k Tp.z).c),iv ((l.getD k Tp.z).l),iv ((l.getD k Tp.z).h)] 57 false)=H8:=⟨_,rfl⟩
    refine Xs (v:=.slice (some ⟨H7.next,0,none⟩) 1 1) (H':=H8) (k:=.heavy) rfl (by kernel_rfl) ((X3 (v:=.agg (Tp.f (l.getD k Tp.z)).toArray) Zff Zfi rfl rfl rfl (by decide)).trans (by rw [← hH8];rfl)) (fun b e=>by cases e) ?_
    obtain ⟨kH8,nH8,ctH8⟩:=ZM hH8;clear hH8
    have ctH8:Cl H8 H7.next [iv ((l.getD k Tp.z).c),iv ((l.getD k Tp.z).l),iv ((l.getD k Tp.z).h)]:=ctH8
    have mH8:=kH8.1
    have hk:=hk.trans kH8
    have d3:=kH8.cl d3 (by simp)
    have d5:=kH8.cl d5 (by simp)
    have rq:=kH8.rd rq (by simp)
    have c6:=kH8.cl c6 (by simp)
    obtain ⟨H9,fH9,kH9⟩:=JE (kn:=kn) (lo:=lo) (H:=H8) (l:=[(l.getD k Tp.z)]) (sa:=some ⟨H7.next,0,none⟩) (n:=1) (cap:=1) (.inr ⟨_,rfl,ctH8.rd,Nat.le_refl _⟩) rfl (by omega) (by omega)
    rw [hpe.1,hpe.2.1,hpe.2.2] at fH9
    refine Zq (vs:=[.slice (some ⟨H7.next,0,none⟩) 1 1]) rfl (Zk fH9) ?_
    have mH9:=kH9.1
    have hk:=hk.trans kH9
    have d3:=kH9.cl d3 (by simp)
    have d5:=kH9.cl d5 (by simp)
    have rq:=kH9.rd rq (by simp)
    have c6:=kH9.cl c6 (by simp)
    have ctH8:=kH9.cl ctH8 (by simp)
    refine Za rfl<|Zg (v:=.agg #[iv (ZP (l.getD k Tp.z)),iv (Z1 (l.getD k Tp.z))]) rfl (by kernel_rfl)<|Zg (v:=iv 0) rfl (by kernel_rfl)<|Xw ?_
    intro H10 kH10 nH10 c10
    have c10:Cl H10 H9.next [iv 0,iv 0]:=c10
    have mH10:=kH10.1
    have hk:=hk.trans kH10
    have d3:=kH10.cl d3 (by simp)
    have d5:=kH10.cl d5 (by simp)
    have rq:=kH10.rd rq (by simp)
    have c6:=kH10.cl c6 (by simp)
    have ctH8:=kH10.cl ctH8 (by simp)
    refine Xz (b:=H9.next) (o:=0) rfl rfl c10 (by omega) rfl rfl (by simp) ?_
    intro H11 kH11 nH11 sH11
    have mH11:=kH11.1
    have hk:=hk.new kH11 (fun b hb=>by simp at hb ⊢;omega)
    have d3:=kH11.cl d3 (by first | (simp;done) | (simp;omega))
    have d5:=kH11.cl d5 (by first | (simp;done) | (simp;omega))
    have rq:=kH11.rd rq (by first | (simp;done) | (simp;omega))
    have c6:=kH11.cl c6 (by first | (simp;done) | (simp;omega))
    have ctH8:=kH11.cl ctH8 (by first | (simp;done) | (simp;omega))
    have c10:Cl H11 H9.next [iv (ZP (l.getD k Tp.z)),iv (Z1 (l.getD k Tp.z))]:=sH11
    refine Za rfl<|Zb<|Ze<|Za rfl<|j6 (a:=0) (b:=0) rfl rfl ?_
    intro t4 g4;obtain rfl:t4=false:=by rw [← g4];rfl
    refine Za rfl ?_
    refine Zs rfl (Zn (b:=H9.next) (o:=0) rfl ?_)
    refine Zs rfl (ZD (b:=H9.next) (o:=0) (v:=iv (ZP (l.getD k Tp.z))) rfl c10.rd rfl ?_)
    refine Zs rfl (j1 (a:=(ZP (l.getD k Tp.z))) (b:=0) rfl rfl ?_)
    intro t5 g5;cases t5
    ·have g5:¬ ((ZP (l.getD k Tp.z)) < 0):=of_decide_eq_false g5
     refine Zg (v:=.bool false) rfl rfl<|Za rfl ?_
     refine Zs rfl (Zn (b:=H9.next) (o:=0) rfl ?_)
     refine Zs rfl (ZD (b:=H9.next) (o:=0) (v:=iv (ZP (l.getD k Tp.z))) rfl c10.rd rfl ?_)
     refine Zs rfl (Zn (b:=H9.next) (o:=0) rfl ?_)
     refine Zs rfl (ZD (b:=H9.next) (o:=1) (v:=iv (Z1 (l.getD k Tp.z))) rfl c10.rd rfl ?_)
     refine Zs rfl (zK (a:=(ZP (l.getD k Tp.z))) (b:=(Z1 (l.getD k Tp.z))) rfl rfl ?_)
     intro t6 g6;cases t6
     ·have g6:¬ ((ZP (l.getD k Tp.z)) > (Z1 (l.getD k Tp.z))):=of_decide_eq_false g6
      refine Zg (v:=.bool false) rfl rfl<|Za rfl ?_
      refine Zs rfl (Z3 (b:=L1.next) (o:=0) rfl c6.rd (show row 3 _ _=some [iv ((l.getD k Tp.z).c),iv ((l.getD k Tp.z).l),iv ((l.getD k Tp.z).h)] from rfl) ?_)
      refine Zs rfl (Zn (b:=H9.next) (o:=0) rfl ?_)
      refine Zs rfl (ZD (b:=H9.next) (o:=0) (v:=iv (ZP (l.getD k Tp.z))) rfl c10.rd rfl ?_)
      obtain ⟨H12,fH12,kH12⟩:=Jv (kn:=kn) (lo:=lo) (H:=H11) hvt (n:=(ZP (l.getD k Tp.z))) (by omega) (by omega) (by omega)
      rw [ca4] at fH12
      refine Zs rfl (Zq (vs:=[.agg (Tp.f (l.getD k Tp.z)).toArray,iv ((ZP (l.getD k Tp.z)))]) rfl (Zk fH12) ?_)
      have mH12:=kH12.1
      have hk:=hk.trans kH12
      have d3:=kH12.cl d3 (by simp)
      have d5:=kH12.cl d5 (by simp)
      have rq:=kH12.rd rq (by simp)
      have c6:=kH12.cl c6 (by simp)
      have ctH8:=kH12.cl ctH8 (by simp)
      have c10:=kH12.cl c10 (by simp)
      refine Zs rfl (Zg (v:=.bool false) rfl rfl ?_)
      refine Zg (v:=.bool false) rfl rfl<|Za rfl ?_
      refine Zs rfl (Z3 (b:=L1.next) (o:=0) rfl c6.rd (show row 3 _ _=some [iv ((l.getD k Tp.z).c),iv ((l.getD k Tp.z).l),iv ((l.getD k Tp.z).h)] from rfl) ?_)
      refine Zs rfl (Zn (b:=H9.next) (o:=0) rfl ?_)
      refine Zs rfl (ZD (b:=H9.next) (o:=1) (v:=iv (Z1 (l.getD k Tp.z))) rfl c10.rd rfl ?_)
      obtain ⟨H13,fH13,kH13⟩:=Jv (kn:=kn) (lo:=lo) (H:=H12) hvt (n:=(Z1 (l.getD k Tp.z))) (by omega) (by omega) (by omega)
      rw [ca5] at fH13
      refine Zs rfl (Zq (vs:=[.agg (Tp.f (l.getD k Tp.z)).toArray,iv ((Z1 (l.getD k Tp.z)))]) rfl (Zk fH13) ?_)
      have mH13:=kH13.1
      have hk:=hk.trans kH13
      have d3:=kH13.cl d3 (by simp)
      have d5:=kH13.cl d5 (by simp)
      have rq:=kH13.rd rq (by simp)
      have c6:=kH13.cl c6 (by simp)
      have ctH8:=kH13.cl ctH8 (by simp)
      have c10:=kH13.cl c10 (by simp)
      refine Zs rfl (Zg (v:=.bool false) rfl rfl ?_)
      refine Zg (v:=.bool false) rfl rfl<|Za rfl ?_
      refine Zs rfl (Zn (b:=H9.next) (o:=0) rfl ?_)
      refine Zs rfl (ZD (b:=H9.next) (o:=0) (v:=iv (ZP (l.getD k Tp.z))) rfl c10.rd rfl ?_)
      refine Zs rfl (zK (a:=(ZP (l.getD k Tp.z))) (b:=0) rfl rfl ?_)
      intro t7 g7;cases t7
      ·have g7:¬ ((ZP (l.getD k Tp.z)) > 0):=of_decide_eq_false g7
       refine Zs rfl (Za rfl ?_)
       refine Zh rfl<|Zh rfl<|Zh rfl<|Zh rfl<|Zh rfl ?_
       refine Zs rfl (Zg (v:=.bool false) rfl rfl ?_)
       refine Zg (v:=.bool false) rfl rfl<|Za rfl ?_
       refine Zs rfl (Z3 (b:=L1.next) (o:=0) rfl c6.rd (show row 3 _ _=some [iv ((l.getD k Tp.z).c),iv ((l.getD k Tp.z).l),iv ((l.getD k Tp.z).h)] from rfl) ?_)
       refine Zs rfl (Zn (b:=H9.next) (o:=0) rfl ?_)
       refine Zs rfl (ZD (b:=H9.next) (o:=1) (v:=iv (Z1 (l.getD k Tp.z))) rfl c10.rd rfl ?_)
       refine Zs rfl (Yw (a:=(Z1 (l.getD k Tp.z))) (b:=1) rfl rfl ⟨by omega,by omega⟩ ?_)
       obtain ⟨H14,fH14,kH14⟩:=Jv (kn:=kn) (lo:=lo) (H:=H13) hvt (n:=(Z1 (l.getD k Tp.z))+1) (by omega) (by omega) (by omega)
       rw [ca7] at fH14
       refine Zs rfl (Zq (vs:=[.agg (Tp.f (l.getD k Tp.z)).toArray,iv ((Z1 (l.getD k Tp.z))+1)]) rfl (Zk fH14) ?_)
       have mH14:=kH14.1
       have hk:=hk.trans kH14
       have d3:=kH14.cl d3 (by simp)
       have d5:=kH14.cl d5 (by simp)
       have rq:=kH14.rd rq (by simp)
       have c6:=kH14.cl c6 (by simp)
       have ctH8:=kH14.cl ctH8 (by simp)
       have c10:=kH14.cl c10 (by simp)
       refine Zg (v:=.bool false) rfl rfl<|Zb<|YI ?_
       first | refine ZK ?_ | skip
       first | refine VL ?_ | refine KW ?_ | refine qh ?_ | (refine JA ?_;refine VL ?_)
       refine ZC (b:=H3.next) (o:=0) rfl<|Yb (b:=H3.next) (o:=0) (v:=iv (smT k fun i=>ZP (l.getD i Tp.z))) rfl d5.rd rfl<|ZC (b:=H9.next) (o:=0) rfl<|Yb (b:=H9.next) (o:=0) (v:=iv (ZP (l.getD k Tp.z))) rfl c10.rd rfl<|QS (a:=(smT k fun i=>ZP (l.getD i Tp.z))) (b:=(ZP (l.getD k Tp.z))) rfl rfl ⟨by omega,by omega⟩<|ZC (b:=H3.next) (o:=0) rfl<|Yb (b:=H3.next) (o:=1) (v:=iv (smT k fun i=>Z1 (l.getD i Tp.z))) rfl d5.rd rfl<|ZC (b:=H9.next) (o:=0) rfl<|Yb (b:=H9.next) (o:=1) (v:=iv (Z1 (l.getD k Tp.z))) rfl c10.rd rfl<|QS (a:=(smT k fun i=>Z1 (l.getD i Tp.z))) (b:=(Z1 (l.getD k Tp.z))) rfl rfl ⟨by omega,by omega⟩<|ZC (b:=H3.next) (o:=0) rfl<|JY (b:=H3.next) (o:=0) rfl rfl d5 (by omega) rfl rfl (by simp) ?_
       intro H15 kH15 nH15 sH15
       have mH15:=kH15.1
       have hk:=hk.new kH15 (fun b hb=>by simp at hb ⊢;omega)
       have d3:=kH15.cl d3 (by first | (simp;done) | (simp;omega))
       have rq:=kH15.rd rq (by first | (simp;done) | (simp;omega))
       have c6:=kH15.cl c6 (by first | (simp;done) | (simp;omega))
       have ctH8:=kH15.cl ctH8 (by first | (simp;done) | (simp;omega))
       have c10:=kH15.cl c10 (by first | (simp;done) | (simp;omega))
       have d5:Cl H15 H3.next [iv ((smT k fun i=>ZP (l.getD i Tp.z))+(ZP (l.getD k Tp.z))),iv (smT k fun i=>Z1 (l.getD i Tp.z))]:=sH15
       refine ZC (b:=H3.next) (o:=0) rfl<|JY (b:=H3.next) (o:=1) rfl rfl d5 (by omega) rfl rfl (by simp) ?_
       intro H16 kH16 nH16 sH16
       have mH16:=kH16.1
       have hk:=hk.new kH16 (fun b hb=>by simp at hb ⊢;omega)
       have d3:=kH16.cl d3 (by first | (simp;done) | (simp;omega))
       have rq:=kH16.rd rq (by first | (simp;done) | (simp;omega))
       have c6:=kH16.cl c6 (by first | (simp;done) | (simp;omega))
       have ctH8:=kH16.cl ctH8 (by first | (simp;done) | (simp;omega))
       have c10:=kH16.cl c10 (by first | (simp;done) | (simp;omega))
       have d5:Cl H16 H3.next [iv ((smT k fun i=>ZP (l.getD i Tp.z))+(ZP (l.getD k Tp.z))),iv ((smT k fun i=>Z1 (l.getD i Tp.z))+(Z1 (l.getD k Tp.z)))]:=sH16
       refine Xv (by repeat' first | exact True.intro | exact (fun h=>h) | refine And.intro ?_ ?_ | (intro h;have h:(_:Nat)=_:=h;omega)) ?_
       show Zw _ _ _ _ _ _ _ _
       refine Yw (a:=(k:Int)) (b:=1) rfl rfl ⟨by omega,by omega⟩<|Za rfl<|Zb ?_
       exact ⟨q - 1,k+1,by omega,⟨by omega,hk,by omega,d3,d5⟩,rfl,rfl,rfl,rfl,rfl,trivial⟩
      ·have g7:(ZP (l.getD k Tp.z)) > 0:=of_decide_eq_true g7
       refine Zs rfl (Za rfl ?_)
       refine Zs rfl (Z3 (b:=L1.next) (o:=0) rfl c6.rd (show row 3 _ _=some [iv ((l.getD k Tp.z).c),iv ((l.getD k Tp.z).l),iv ((l.getD k Tp.z).h)] from rfl) ?_)
       refine Zs rfl (Zn (b:=H9.next) (o:=0) rfl ?_)
       refine Zs rfl (ZD (b:=H9.next) (o:=0) (v:=iv (ZP (l.getD k Tp.z))) rfl c10.rd rfl ?_)
       refine Zs rfl (Qb (a:=(ZP (l.getD k Tp.z))) (b:=1) rfl rfl ⟨by omega,by omega⟩ ?_)
       obtain ⟨H17,fH17,kH17⟩:=Jv (kn:=kn) (lo:=lo) (H:=H13) hvt (n:=(ZP (l.getD k Tp.z)) - 1) (by omega) (by omega) (by omega)
       rw [(ca6 (by omega))] at fH17
       refine Zs rfl (Zq (vs:=[.agg (Tp.f (l.getD k Tp.z)).toArray,iv ((ZP (l.getD k Tp.z)) - 1)]) rfl (Zk fH17) ?_)
       have mH17:=kH17.1
       have hk:=hk.trans kH17
       have d3:=kH17.cl d3 (by simp)
       have d5:=kH17.cl d5 (by simp)
       have rq:=kH17.rd rq (by simp)
       have c6:=kH17.cl c6 (by simp)
       have ctH8:=kH17.cl ctH8 (by simp)
       have c10:=kH17.cl c10 (by simp)
       refine Zs rfl (Zg (v:=.bool false) rfl rfl ?_)
       refine Zg (v:=.bool false) rfl rfl<|Za rfl ?_
       refine Zs rfl (Z3 (b:=L1.next) (o:=0) rfl c6.rd (show row 3 _ _=some [iv ((l.getD k Tp.z).c),iv ((l.getD k Tp.z).l),iv ((l.getD k Tp.z).h)] from rfl) ?_)
       refine Zs rfl (Zn (b:=H9.next) (o:=0) rfl ?_)
       refine Zs rfl (ZD (b:=H9.next) (o:=1) (v:=iv (Z1 (l.getD k Tp.z))) rfl c10.rd rfl ?_)
       refine Zs rfl (Yw (a:=(Z1 (l.getD k Tp.z))) (b:=1) rfl rfl ⟨by omega,by omega⟩ ?_)
       obtain ⟨H18,fH18,kH18⟩:=Jv (kn:=kn) (lo:=lo) (H:=H17) hvt (n:=(Z1 (l.getD k Tp.z))+1) (by omega) (by omega) (by omega)
       rw [ca7] at fH18
       refine Zs rfl (Zq (vs:=[.agg (Tp.f (l.getD k Tp.z)).toArray,iv ((Z1 (l.getD k Tp.z))+1)]) rfl (Zk fH18) ?_)
       have mH18:=kH18.1
       have hk:=hk.trans kH18
       have d3:=kH18.cl d3 (by simp)
       have d5:=kH18.cl d5 (by simp)
       have rq:=kH18.rd rq (by simp)
       have c6:=kH18.cl c6 (by simp)
       have ctH8:=kH18.cl ctH8 (by simp)
       have c10:=kH18.cl c10 (by simp)
       refine Zg (v:=.bool false) rfl rfl<|Zb<|YI ?_
       first | refine ZK ?_ | skip
       first | refine VL ?_ | refine KW ?_ | refine qh ?_ | (refine JA ?_;refine VL ?_)
       refine ZC (b:=H3.next) (o:=0) rfl<|Yb (b:=H3.next) (o:=0) (v:=iv (smT k fun i=>ZP (l.getD i Tp.z))) rfl d5.rd rfl<|ZC (b:=H9.next) (o:=0) rfl<|Yb (b:=H9.next) (o:=0) (v:=iv (ZP (l.getD k Tp.z))) rfl c10.rd rfl<|QS (a:=(smT k fun i=>ZP (l.getD i Tp.z))) (b:=(ZP (l.getD k Tp.z))) rfl rfl ⟨by omega,by omega⟩<|ZC (b:=H3.next) (o:=0) rfl<|Yb (b:=H3.next) (o:=1) (v:=iv (smT k fun i=>Z1 (l.getD i Tp.z))) rfl d5.rd rfl<|ZC (b:=H9.next) (o:=0) rfl<|Yb (b:=H9.next) (o:=1) (v:=iv (Z1 (l.getD k Tp.z))) rfl c10.rd rfl<|QS (a:=(smT k fun i=>Z1 (l.getD i Tp.z))) (b:=(Z1 (l.getD k Tp.z))) rfl rfl ⟨by omega,by omega⟩<|ZC (b:=H3.next) (o:=0) rfl<|JY (b:=H3.next) (o:=0) rfl rfl d5 (by omega) rfl rfl (by simp) ?_
       intro H19 kH19 nH19 sH19
       have mH19:=kH19.1
       have hk:=hk.new kH19 (fun b hb=>by simp at hb ⊢;omega)
       have d3:=kH19.cl d3 (by first | (simp;done) | (simp;omega))
       have rq:=kH19.rd rq (by first | (simp;done) | (simp;omega))
       have c6:=kH19.cl c6 (by first | (simp;done) | (simp;omega))
       have ctH8:=kH19.cl ctH8 (by first | (simp;done) | (simp;omega))
       have c10:=kH19.cl c10 (by first | (simp;done) | (simp;omega))
       have d5:Cl H19 H3.next [iv ((smT k fun i=>ZP (l.getD i Tp.z))+(ZP (l.getD k Tp.z))),iv (smT k fun i=>Z1 (l.getD i Tp.z))]:=sH19
       refine ZC (b:=H3.next) (o:=0) rfl<|JY (b:=H3.next) (o:=1) rfl rfl d5 (by omega) rfl rfl (by simp) ?_
       intro H20 kH20 nH20 sH20
       have mH20:=kH20.1
       have hk:=hk.new kH20 (fun b hb=>by simp at hb ⊢;omega)
       have d3:=kH20.cl d3 (by first | (simp;done) | (simp;omega))
       have rq:=kH20.rd rq (by first | (simp;done) | (simp;omega))
       have c6:=kH20.cl c6 (by first | (simp;done) | (simp;omega))
       have ctH8:=kH20.cl ctH8 (by first | (simp;done) | (simp;omega))
       have c10:=kH20.cl c10 (by first | (simp;done) | (simp;omega))
       have d5:Cl H20 H3.next [iv ((smT k fun i=>ZP (l.getD i Tp.z))+(ZP (l.getD k Tp.z))),iv ((smT k fun i=>Z1 (l.getD i Tp.z))+(Z1 (l.getD k Tp.z)))]:=sH20
       refine Xv (by repeat' first | exact True.intro | exact (fun h=>h) | refine And.intro ?_ ?_ | (intro h;have h:(_:Nat)=_:=h;omega)) ?_
       show Zw _ _ _ _ _ _ _ _
       refine Yw (a:=(k:Int)) (b:=1) rfl rfl ⟨by omega,by omega⟩<|Za rfl<|Zb ?_
       exact ⟨q - 1,k+1,by omega,⟨by omega,hk,by omega,d3,d5⟩,rfl,rfl,rfl,rfl,rfl,trivial⟩
     ·have g6:(ZP (l.getD k Tp.z)) > (Z1 (l.getD k Tp.z)):=of_decide_eq_true g6
      omega
    ·have g5:(ZP (l.getD k Tp.z)) < 0:=of_decide_eq_true g5
     omega
   ·have q3:¬ ((k:Int) < (n:Int)):=of_decide_eq_false q3
    first | (refine Vb ?_;show wC _ _ _ _ _ _ _ _ _) | skip
    refine Ze<|Z3 (b:=H1.next) (o:=0) rfl d3.rd (show row 2 _ _=some [iv (peL l),iv (peH l)] from rfl)<|Z3 (b:=H3.next) (o:=0) rfl d5.rd (show row 2 _ _=some [iv (smT k fun i=>ZP (l.getD i Tp.z)),iv (smT k fun i=>Z1 (l.getD i Tp.z))] from rfl) ?_
    have ein:k=n:=by omega
    subst ein
    refine Zg (v:=.bool true) rfl (Zcr (a0:=peL l) (a1:=peH l) rfl ((show _=some (Value.agg #[iv (smT k fun i=>ZP (l.getD i Tp.z)),iv (smT k fun i=>Z1 (l.getD i Tp.z))]) from rfl).trans (by rw [hpo.1,hpo.2.1,hl])))<|Za rfl ?_
    refine Zs rfl (Zq (vs:=[]) rfl (VG hkn) ?_)
    refine Zg (v:=.bool true) rfl rfl<|Za rfl<|Zb ?_
    exact And.intro trivial (Exists.intro _ (And.intro rfl rfl))
end
end
end Go.Ax

namespace Go.Ax
open Go Go.RowKit Go.Proofs Go.ChangeShapes Go.WideShapes Go.Deep

def Jr (P:Program) (t:TypeId):Prop:=∀ (H:Type) (enc:TypeId × Value→H) (w:World) (base:Nat) (spare:Nat→Bool) (held:Bool) (fuel:Nat) (cs:List Value) (x:DataW H × List MemPlace),
 DataW.trod enc P w base spare held fuel t cs=some x→cs.length=P.cellsOf t∧∀ j,j < cs.length→∃ n,cs[j]? = some (.int .i64 n)
theorem Jr.int {P:Program} {t:TypeId} (ht:P.underlying t=some (.int .i64)) (hc:P.cellsOf t=1):Jr P t:=by
 intro H enc w base spare held fuel cs x h
 obtain ⟨n,rfl,_⟩:=DataW.trod_int ht h
 refine ⟨by rw [hc];rfl,fun j hj=>⟨n,?_⟩⟩
 have:j=0:=by simp at hj;omega
 subst this;rfl
theorem Jr.struct {P:Program} {t:TypeId} {fs:Array Field} (ht:P.underlying t=some (.struct fs)) (hf:∀ f∈fs.toList,Jr P f.type)
  (hcov:((List.range (P.cellsOf t)).all fun j=>fs.toList.any fun f=>decide (f.offset≤j) && decide (j < f.offset+P.cellsOf f.type))=true):Jr P t:=by
 intro H enc w base spare held fuel cs x h
 obtain ⟨xs,n,_,_,hlen,hxl,hg⟩:=DataW.trod_struct ht h
 refine ⟨hlen,fun j hj=>?_⟩
 have h1:=List.all_eq_true.1 hcov j (List.mem_range.2 (by omega))
 obtain ⟨f,hfm,h2⟩:=List.any_eq_true.1 h1
 simp only [Bool.and_eq_true,decide_eq_true_eq] at h2
 obtain ⟨i,hi,hfi⟩:=List.getElem_of_mem hfm
 have hfs:fs[i]? = some f:=by
  rw [← Array.getElem?_toList,List.getElem?_eq_getElem hi,hfi]
 have hi2:i < xs.length:=by simpa [hxl] using hi
 have h3:=hg i f hfs
 rw [List.getElem?_eq_getElem hi2] at h3
 obtain ⟨h4,h5⟩:=hf f hfm _ _ _ _ _ _ _ _ _ h3
 obtain ⟨m,hm⟩:=h5 (j - f.offset) (by omega)
 refine ⟨m,?_⟩
 rw [List.getElem?_take] at hm
 split at hm
 ·rw [List.getElem?_drop,show f.offset+(j - f.offset)=j by omega] at hm;exact hm
 ·cases hm

structure Kx {α:Type} (w:World) (v:Value) (f:α→List Value) (l:List α) (x:Imp):Prop where
 ok:∀ (i:Nat) u,x.cs[i]? = some u→w.cell? ⟨x.blk,x.off+i,none⟩=some u∧Yx u=true
 cs:x.cs=l.flatMap f
 v:(v=.slice none 0 0∧l=[])∨∃ cap,v=.slice (some ⟨x.blk,x.off,none⟩) l.length cap∧l.length≤cap
theorem zy {α:Type} {f:α→List Value} {k:Nat} (hk:0 < k):∀ {l:List α} (_:∀ x∈l,(f x).length=k) (i:Nat) (u:Value),(l.flatMap f)[i]? = some u→∃ x,l[i / k]? = some x∧(f x)[i % k]? = some u
 | [],_,i,u,h=>by simp at h
 | y :: r,hl,i,u,h=>by
  have hy:=hl y (List.mem_cons_self ..)
  rw [List.flatMap_cons,List.getElem?_append] at h
  split at h
  ·rename_i q
   rw [hy] at q
   refine ⟨y,?_,?_⟩
   ·rw [Nat.div_eq_of_lt q];rfl
   ·rw [Nat.mod_eq_of_lt q];exact h
  ·rename_i q
   rw [hy] at q h
   obtain ⟨x,h1,h2⟩:=zy hk (fun x hx=>hl x (List.mem_cons_of_mem _ hx)) _ u h
   refine ⟨x,?_,?_⟩
   ·rw [Nat.div_eq_sub_div hk (by omega)];exact h1
   ·rw [Nat.mod_eq_sub_mod (by omega)];exact h2
theorem zY {H:Type} {enc:TypeId × Value→H} {P:Program} {w:World} {base b0:Nat} {r:Reach} {held:Bool} {α:Type} (f:α→List Value) (mk:(Nat→Int)→α) (k:Nat) {t e:TypeId} {fuel:Nat} {v:Value} {x:DataW H × List MemPlace}
  (ht:P.underlying t=some (.slice e)) (hI:Jr P e) (hc:P.cellsOf e=k) (hk:0 < k) (hmk:∀ N:Nat→Int,f (mk N)=(List.range k).map fun j=>Value.int .i64 (N j))
  (hok:Cell.okWide P w r b0 t v) (h:DataW.trod enc P w base (fun _=>true) held fuel t [v]=some x):∃ (l:List α) (y:Imp),Kx w v f l y:=by
 rcases open_slice ht h with ⟨h0,_⟩ | ⟨a,len,cap,m,n,D,Pl,hcs,hb,hl,hm,hmm,hx,hi⟩
 ·cases h0
  exact ⟨[],⟨0,0,[]⟩,fun i u e=>by simp at e,rfl,.inl ⟨rfl,rfl⟩⟩
 ·cases hcs
  obtain ⟨blk,off,spot⟩:=a
  have hs:spot=none:=by
   unfold Cell.okWide at hok
   rw [ht] at hok
   unfold Cell.ok at hok
   simp only [ht] at hok
   exact hok.2.2.2.1
  subst hs
  simp only [if_true] at hmm
  subst hmm
  have hcell:∀ i,i < len→∀ j,j < k→∃ n,w.cell? ⟨blk,off+(i * k+j),none⟩=some (.int .i64 n):=by
   intro i hil j hj
   obtain ⟨cs',h1,h2⟩:=hi i (by omega)
   obtain ⟨h3,h4⟩:=hI _ _ _ _ _ _ _ _ _ h2
   obtain ⟨_,h5,h6⟩:=World.cells?_some h1
   obtain ⟨n,hn⟩:=h4 j (by omega)
   refine ⟨n,?_⟩
   have h7:=h6 j (by omega)
   rw [hn,hc,add_add] at h7
   have e:(⟨blk,off,none⟩:Addr).add (i * k+j)=⟨blk,off+(i * k+j),none⟩:=by
    unfold Addr.add
    by_cases q:i * k+j=0
    ·simp [q]
    ·simp
   rw [e] at h7
   exact h7
  refine ⟨(List.range len).map fun i=>mk fun j=>match w.cell? ⟨blk,off+(i * k+j),none⟩ with | some (.int _ n)=>n | _=>0,⟨blk,off,_⟩,?_,rfl,.inr ⟨m,by simp,by simpa using hl⟩⟩
  intro i u hu
  obtain ⟨y,h1,h2⟩:=zy hk (fun y hy=>by
   obtain ⟨i,_,rfl⟩:=List.mem_map.1 hy
   rw [hmk];simp) i u hu
  have hlt:i / k < len:=by
   have:=JK h1
   simpa using this
  rw [List.getElem?_map,List.getElem?_range hlt] at h1
  simp only [Option.map_some,Option.some.injEq] at h1
  subst h1
  have hj:i % k < k:=Nat.mod_lt _ hk
  rw [hmk,List.getElem?_map,List.getElem?_range hj] at h2
  simp only [Option.map_some,Option.some.injEq] at h2
  obtain ⟨n,hn⟩:=hcell _ hlt _ hj
  rw [hn] at h2
  subst h2
  rw [Nat.div_add_mod' ] at hn
  exact ⟨hn,rfl⟩
theorem Kx.rel {α:Type} {w:World} {v:Value} {f:α→List Value} {l:List α} {x:Imp} (g:Kx w v f l x) {r:Ren} {H:Hp} {b:Nat} (hr:r b=some ⟨x.blk,x.off,none⟩) (hb:b < H.next) (hc:cellsOf H b=some x.cs) (hro:H.t.get b=some (.ro x.cs)) :
  ∃ a cap,VR r (.slice a l.length cap) v∧Sl H a l.length cap (l.flatMap f)∧∀ b,a=some ⟨b,0,none⟩→H.t.get b=some (.ro (l.flatMap f)):=by
 rcases g.v with ⟨rfl,rfl⟩ | ⟨cap,rfl,hl⟩
 ·exact ⟨none,0,.nilSlice,.inl ⟨.inl rfl,rfl,rfl,rfl⟩,fun b e=>by cases e⟩
 ·refine ⟨some ⟨b,0,none⟩,cap,?_,.inr ⟨b,rfl,⟨hb,by rw [hc,g.cs]⟩,hl⟩,fun b' e=>by cases e;rw [hro,g.cs]⟩
  have:=VR.slice (o:=0) (n:=l.length) (c:=cap) hr rfl hl
  simpa using this
end Go.Ax

/-! Slices of rows of plain cells,as_ arguments. -/
namespace Go.Ax
open Go Go.RowKit Go.Proofs Go.ChangeShapes Go.WideShapes Go.Deep

theorem Jr.row {α:Type} {P:Program} {t:TypeId} {k:Nat} {f:α→List Value} {mk:(Nat→Int)→α} (h:Jr P t) (hc:P.cellsOf t=k) (hmk:∀ N:Nat→Int,f (mk N)=(List.range k).map fun j=>Value.int .i64 (N j))
  {H:Type} {enc:TypeId × Value→H} {w:World} {base:Nat} {spare:Nat→Bool} {held:Bool} (fuel:Nat) (cs:List Value) (x:DataW H × List MemPlace) (hx:DataW.trod enc P w base spare held fuel t cs=some x):∃ y:α,cs=f y∧True:=by
 obtain ⟨h1,h2⟩:=h _ _ _ _ _ _ _ _ _ hx
 have:∃ N:Nat→Int,∀ j,j < cs.length→cs[j]? = some (.int .i64 (N j)):=by
  refine ⟨fun j=>match cs[j]? with | some (.int _ n)=>n | _=>0,fun j hj=>?_⟩
  obtain ⟨n,hn⟩:=h2 j hj
  simp [hn]
 obtain ⟨N,hN⟩:=this
 refine ⟨mk N,?_,trivial⟩
 rw [hmk]
 apply List.ext_getElem?
 intro j
 by_cases hj:j < k
 ·rw [hN j (by omega),List.getElem?_map,List.getElem?_range hj];rfl
 ·rw [List.getElem?_eq_none (by omega),List.getElem?_eq_none (by simp;omega)]
end Go.Ax

/-! Arguments that point to what points: inner slices,rows of slices. -/
namespace Go.Ax
open Go Go.RowKit Go.Proofs Go.ChangeShapes Go.WideShapes Go.Deep

def z9 (imps:List Imp):Ren:=fun b=>(imps[b]?).map fun x=>⟨x.blk,x.off,none⟩
theorem Zab {P:Program} (imps outs:List Imp) (w:World) (h:∀ x∈imps,∀ (i:Nat) v,x.cs[i]? = some v→w.cell? ⟨x.blk,x.off+i,none⟩=some v∧Yx v=true)
  (hcs:∀ x∈outs,∀ (i:Nat) v,x.cs[i]? = some v→∃ v',w.cell? ⟨x.blk,x.off+i,none⟩=some v'∧VR (z9 imps) v v') :
  ∃ (r:Ren) (H:Hp),Rel P r w.heap.size H w∧H.next=(imps ++ outs).length∧(∀ b loc,r b=some loc→b < H.next)∧Ren.Le (z9 imps) r∧∀ (b:Nat) x,(imps ++ outs)[b]? = some x→r b=some ⟨x.blk,x.off,none⟩∧H.t.get b=some (.ro x.cs):=by
 have hall:∀ x∈imps ++ outs,∀ (i:Nat) v,x.cs[i]? = some v→∃ v',w.cell? ⟨x.blk,x.off+i,none⟩=some v'∧VR (z9 imps) v v':=by
  intro x hx i v hv
  rcases List.mem_append.1 hx with hx | hx
  ·obtain ⟨h1,h2⟩:=h x hx i v hv
   exact ⟨v,h1,UG h2⟩
  ·exact hcs x hx i v hv
 obtain ⟨t,ht⟩:=Zcj (fun b=>((imps ++ outs)[b]?).map fun x=>.ro x.cs) (imps ++ outs).length
 have hle:Ren.Le (z9 imps) (fun b=>((imps ++ outs)[b]?).map fun x=>⟨x.blk,x.off,none⟩):=fun b loc e=>by
  unfold z9 at e
  have hlt:b < imps.length:=by
   rcases Nat.lt_or_ge b imps.length with q | q
   ·exact q
   ·rw [List.getElem?_eq_none q] at e;cases e
  show ((imps ++ outs)[b]?).map _=_
  rw [List.getElem?_append_left hlt];exact e
 have hr:∀ (b:Nat) loc,((imps ++ outs)[b]?).map (fun x=>(⟨x.blk,x.off,none⟩:Loc))=some loc→∃ x,(imps ++ outs)[b]? = some x∧b < (imps ++ outs).length∧loc=⟨x.blk,x.off,none⟩∧t.get b=some (.ro x.cs):=by
  intro b loc e
  cases hx:(imps ++ outs)[b]? with
  | none=>rw [hx] at e;cases e
  | some x=>
   rw [hx] at e
   simp at e
   have hlt:=JK hx
   exact ⟨x,rfl,hlt,e.symm,by rw [ht,if_pos hlt,hx];rfl⟩
 have low:∀ {g o:Nat} {v:Value},w.cell? ⟨g,o,none⟩=some v→g < w.heap.size:=fun {g o v} hv=>by
  unfold World.cell? at hv
  rcases Nat.lt_or_ge g w.heap.size with q | q
  ·exact q
  ·rw [Array.getElem?_eq_none q] at hv;cases hv
 refine ⟨fun b=>((imps ++ outs)[b]?).map fun x=>⟨x.blk,x.off,none⟩,{ next:=(imps ++ outs).length,t },⟨?_,?_,?_,Nat.le_refl _⟩,rfl,?_,hle,?_⟩
 ·intro b loc e
  obtain ⟨x,hx,hlt,rfl,hg⟩:=hr b loc e
  refine ⟨hlt,?_⟩
  show Dm _ _ _ (t.get b)
  rw [hg]
  cases hc:x.cs with
  | nil=>exact .inl rfl
  | cons v l=>
   obtain ⟨v',h1,_⟩:=hall x (List.mem_of_getElem? hx) 0 v (by rw [hc];rfl)
   exact .inr (low h1)
 ·intro b loc o e eo
  obtain ⟨x,hx,hlt,rfl,hg⟩:=hr b loc e
  rw [hg] at eo;cases eo
  refine ⟨rfl,fun i v ev=>?_⟩
  obtain ⟨v',h1,h2⟩:=hall x (List.mem_of_getElem? hx) i v ev
  unfold World.cell? at h1
  simp only at h1
  split at h1
  ·rename_i C e' f hC
   exact ⟨C,e',f,v',hC,by simpa using h1,h2.mono hle⟩
  ·cases h1
 ·intro b b' loc loc' e e' _ hl _
  obtain ⟨x,hx,hlt,rfl,hg⟩:=hr b loc e
  obtain ⟨o,h1,h2,h3⟩:=hl
  have:t.get b=some o:=h1
  rw [hg] at this;cases this
  cases h3
 ·intro b loc e
  obtain ⟨x,hx,hlt,rfl,hg⟩:=hr b loc e
  exact hlt
 ·intro b x hx
  have hlt:=JK hx
  refine ⟨by simp only [hx,Option.map_some],?_⟩
  show t.get b=_
  rw [ht,if_pos hlt,hx];rfl

structure Zcu {α:Type} (w:World) (v:Value) (f:α→List Value) (l:List α) (x:Imp):Prop where
 ok:∀ (i:Nat) u,x.cs[i]? = some u→w.cell? ⟨x.blk,x.off+i,none⟩=some u∧Yx u=true
 cs:x.cs=l.flatMap f
 v:((v=.slice none 0 0∨∃ a',v=.slice (some a') 0 0)∧l=[])∨∃ cap,v=.slice (some ⟨x.blk,x.off,none⟩) l.length cap∧l.length≤cap
theorem Zcu.rel {α:Type} {w:World} {v:Value} {f:α→List Value} {l:List α} {x:Imp} (g:Zcu w v f l x) {r:Ren} {b:Nat} (hr:r b=some ⟨x.blk,x.off,none⟩) :
  ∃ a cap,VR r (.slice a l.length cap) v∧(∀ y,a=some ⟨y,0,none⟩→y=b)∧∀ H:Hp,b < H.next→H.t.get b=some (.ro x.cs)→Sl H a l.length cap (l.flatMap f):=by
 rcases g.v with ⟨rfl | ⟨a',rfl⟩,rfl⟩ | ⟨cap,rfl,hl⟩
 ·exact ⟨none,0,.nilSlice,fun y e=>by (cases e),fun H _ _=>.inl ⟨.inl rfl,rfl,rfl,rfl⟩⟩
 ·exact ⟨some ⟨0,0,some 0⟩,0,.weird (.inl rfl),fun y e=>by (cases e),fun H _ _=>.inl ⟨.inr rfl,rfl,rfl,rfl⟩⟩
 ·refine ⟨some ⟨b,0,none⟩,cap,?_,fun y e=>by (cases e;rfl),fun H hb hc=>.inr ⟨b,rfl,⟨hb,by unfold cellsOf;rw [hc,g.cs]⟩,hl⟩⟩
  have:=VR.slice (o:=0) (n:=l.length) (c:=cap) hr rfl hl
  simpa using this
structure RV where
 rv:Value
 l:List Int
 x:Imp
def RV.f (r:RV):List Value:=[r.rv]
def RV.Q (w:World) (r:RV):Prop:=Zcu w r.rv (fun n:Int=>[iv n]) r.l r.x
end Go.Ax

/-! What is flat as_ arguments. -/
namespace Go.Ax
open Go Go.RowKit Go.Proofs Go.ChangeShapes Go.WideShapes Go.Deep

theorem KK {P:Program} (pre:List Imp) {w:World} (h:∀ x∈pre,∀ (i:Nat) v,x.cs[i]? = some v→w.cell? ⟨x.blk,x.off+i,none⟩=some v∧Yx v=true) :
  ∃ (r:Ren) (H:Hp),Rel P r w.heap.size H w∧(∀ b loc,r b=some loc→b < H.next)∧(∀ (b:Nat) x,pre[b]? = some x→b < H.next∧r b=some ⟨x.blk,x.off,none⟩∧H.t.get b=some (.ro x.cs)):=by
 obtain ⟨r,H,h1,h2,h3,h4,h5⟩:=Zab (P:=P) pre [] w h (fun x hx=>by simp at hx)
 refine ⟨r,H,h1,h3,fun b x hx=>?_⟩
 have:=JK hx
 obtain ⟨a,c⟩:=h5 b x (by simpa using hx)
 exact ⟨by rw [h2];simpa using this,a,c⟩
end Go.Ax


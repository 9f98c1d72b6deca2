import Derived.Test.YtobbfhkodccclaaMe
set_option linter.all false
/-
 Pool: sums,quotas of members,how large they can be (45,31,25,52,51,50,29) (written by program).
-/
namespace Go.Ax
open Go Go.RowKit Go.Proofs

noncomputable section
structure Lst (p:Nat→Bool) (N m:Nat):Prop where
 le:m≤N
 lo:m=0∨p (m - 1)=false
 hi:m=N∨p m=true
theorem Lst.uniq {p:Nat→Bool} {N m m':Nat} (hp:∀ j k,j≤k→k < N→p j=true→p k=true) (h:Lst p N m) (h':Lst p N m'):m=m':=by
 have key:∀ {m m':Nat},Lst p N m→Lst p N m'→¬ m < m':=by
  intro m m' h h' q
  have h1:=h'.le
  rcases h.hi with e | e
  ·omega
  ·rcases h'.lo with e2 | e2
   ·omega
   ·have:=hp m (m' - 1) (by omega) (by omega) e
    rw [this] at e2;cases e2
 have a:=key h h'
 have b:=key h' h
 omega
theorem Y9 {α:Type} {l:List α} {z:α} {P:α→Prop} (h:∀ a∈l,P a) {i:Nat} (hi:i < l.length):P (l.getD i z):=by
 rw [List.getD_eq_getElem?_getD,List.getElem?_eq_getElem hi];exact h _ (List.getElem_mem hi)
def okM (m:Mb):Prop:=0≤m.g∧m.g≤1023∧0≤m.b∧m.b≤1099511627776
def okQ (q:Qt):Prop:=0≤q.a∧q.a≤2199023255552
theorem Vr {B:Int} {k:Nat} {l:List Int} (h:∀ a∈l,0≤a∧a≤B):0≤top k l∧top k l≤B * ((min k l.length:Nat):Int):=by
 have:=jh (lo:=0) (hi:=B) (l:=l.take k) fun x hx=>h x (List.mem_of_mem_take hx)
 rw [List.length_take] at this
 unfold top
 omega
theorem Zao {B:Int} {n:Nat} (hB:0≤B) (h:n≤400):B * ((n:Nat):Int)≤B * 400:=Int.mul_le_mul_of_nonneg_left (by omega) hB
theorem zl {α:Type} {l:List α} {f:α→Int} {z:α} {i:Nat} (h:i < l.length):(l.map f).getD i 0=f (l.getD i z):=by
 rw [List.getD_eq_getElem?_getD,List.getD_eq_getElem?_getD,List.getElem?_map,List.getElem?_eq_getElem h];rfl
def ZW (ms:List Mb):Int:=YQ (fun x=>x) (ms.map (·.b))
def Y5 (l:List Qt):Int:=YQ (fun x=>x) (l.map (·.a))
theorem KG {l:List Int}:top l.length l=YQ (fun x=>x) l:=by unfold top;rw [List.take_length]
theorem Zcq {ms:List Mb} (h:∀ m∈ms,okM m):∀ a∈ms.map (·.b),0≤a∧a≤1099511627776:=by
 intro a ha
 obtain ⟨m,hm,e⟩:=List.mem_map.1 ha
 have:=h m hm
 rw [← e];exact this.2.2
theorem qf {l:List Qt} (h:∀ q∈l,okQ q):∀ a∈l.map (·.a),0≤a∧a≤2199023255552:=by
 intro a ha
 obtain ⟨m,hm,e⟩:=List.mem_map.1 ha
 have:=h m hm
 rw [← e];exact this
theorem Zdv {ms:List Mb} {p:Int} (h:∀ m∈ms,okM m) (h0:0≤p) (h1:p≤1001):∀ q∈qtL p ms,okQ q:=by
 intro q hq
 obtain ⟨m,hm,e⟩:=List.mem_map.1 hq
 have k:=h m hm
 have:=jb k.2.2.1 k.2.2.2 h0 h1
 rw [← e]
 show 0≤m.b * p / 1000∧m.b * p / 1000≤_
 omega
section
variable {kn:Kn} {lo:Nat} {H:Hp}
set_option maxRecDepth 100000 in
theorem JR {ms:List Mb} {sa:Option Addr} {n cap:Nat} (hs:Sl H sa n cap (mbc ms)) (hl:ms.length=n) (hn:n≤400) (hlo:lo≤H.next) (hm:∀ m∈ms,okM m):∃ H',FnX Try.prog kn lo 31 [.slice sa n cap] H (iv (ZW ms)) H'∧Keep H H' []:=by
 have key:=Zp (kn:=kn) (lo:=lo) (H:=H) (args:=[.slice sa n cap]) (Q:=fun w H'=>w=iv (ZW ms)∧Keep H H' []) Try.func31 B31 N31 Z31 L31 (by simp) ?_
 ·obtain ⟨w,H',h,rfl,q⟩:=key;exact ⟨H',h,q⟩
 have hk:=Keep.refl H []
 have fs:=hs.old
 refine Zc<|Za rfl<|Zb<|Zc<|Za rfl<|Zb<|Zc<|Za rfl<|Z6 (m:=n) rfl<|Za rfl<|Zb ?_
 refine Zt (fn:=Try.f31) ZjP N31 ZjV (fun i:Nat=>[(3,iv (top i (ms.map (·.b)))),(6,.slice sa n cap),(7,iv (n:Int)),(8,iv (i:Int))])
  (fun k i H'=>i+k=n∧Keep H H' []∧Sl H' sa n cap (mbc ms)) n 0 ⟨by omega,hk,hs⟩ ⟨rfl,rfl,rfl,rfl,trivial⟩ ?_
 rintro k i L1 ⟨hik,hk,hs⟩
 have mk:=hk.1;have htp:=Vr (k:=i) (Zcq hm);have hmc:=Zao (B:=1099511627776) (n:=min i (ms.map (·.b)).length) (by omega) (by rw [List.length_map];omega);have htq:=Vr (k:=i+1) (Zcq hm);have hmd:=Zao (B:=1099511627776) (n:=min (i+1) (ms.map (·.b)).length) (by omega) (by rw [List.length_map];omega)
 refine Zc<|ZC (a:=(i:Int)) (b:=(n:Int)) rfl rfl<|Zb ?_
 refine And.intro (fun q1=>?_) (fun q1=>?_)
 ·have q1:(i:Int) < (n:Int):=of_decide_eq_true q1
  have hi:i < n:=by omega
  rcases id hs with ⟨_,h0s,_⟩ | ⟨sb,es,rs,_⟩
  ·omega
  have ls:=rs.1
  have hmi:=Y9 (z:=Mb.z) hm (show i < ms.length by omega);have hsx:top (i+1) (ms.map (·.b))=top i (ms.map (·.b))+(ms.getD i Mb.z).b:=by rw [Zca (by rw [List.length_map];omega),zl (z:=Mb.z) (by omega)]
  first | refine Zi ?_ | skip
  refine Zc<|YZ (b:=sb) (o:=0) (k:=i) (j:=(i:Int)) (by rw [← es];rfl) rfl rfl hi<|Y2 (b:=sb) (o:=0+i * 2) rfl rs (Q7 (by omega))<|WN ?_
  intro H1 kH1 nH1 c1
  have c1:Cl H1 L1.next [iv 0,iv 0]:=c1
  have mH1:=kH1.1
  have hk:=hk.trans kH1
  have hs:=kH1.sl0 hs
  have rs:=kH1.rd rs (by simp)
  refine W9 (b:=L1.next) (o:=0) rfl rfl c1 (by omega) rfl rfl (by simp) ?_
  intro H2 kH2 nH2 sH2
  have mH2:=kH2.1
  have hk:=hk.new kH2 (fun b hb=>by simp at hb ⊢;omega)
  have hs:=kH2.sl hs (fun b e=>by have:=fs b e;first | (simp;done) | (simp;omega))
  have rs:=kH2.rd rs (by first | (simp;done) | (simp;omega))
  have c1:Cl H2 L1.next [iv ((ms.getD i Mb.z).g),iv ((ms.getD i Mb.z).b)]:=sH2
  refine Zb ?_
  show Zl _ _ _ _ _ _ _ _
  refine Za rfl<|ZB (b:=L1.next) (o:=0) rfl<|ZZ (b:=L1.next) (o:=1) (v:=iv ((ms.getD i Mb.z).b)) rfl c1.rd rfl<|Zs (a:=(top i (ms.map (·.b)))) (b:=(ms.getD i Mb.z).b) rfl rfl ⟨by omega,by omega⟩<|Za rfl<|Zb ?_
  show Zl _ _ _ _ _ _ _ _
  refine Zs (a:=(i:Int)) (b:=1) rfl rfl ⟨by omega,by omega⟩<|Za rfl<|Zb ?_
  exact ⟨k - 1,i+1,by omega,⟨by omega,hk,hs⟩,(by show some (iv _)=some (iv _);rw [hsx]),rfl,rfl,rfl,trivial⟩
 ·have q1:¬ ((i:Int) < (n:Int)):=of_decide_eq_false q1
  first | (refine Zz ?_;show wC _ _ _ _ _ _ _ _ _) | skip
  refine Zc<|Za rfl<|Za rfl<|Zb ?_
  have ein:i=n:=by omega
  exact And.intro trivial (Exists.intro _ (And.intro rfl ⟨by unfold ZW;rw [← KG,ein,List.length_map,hl];rfl,hk⟩))
set_option maxRecDepth 100000 in
theorem Kf {l:List Qt} {sa:Option Addr} {n cap:Nat} (hs:Sl H sa n cap (qtc l)) (hl:l.length=n) (hn:n≤400) (hlo:lo≤H.next) (hq:∀ q∈l,okQ q):∃ H',FnX Try.prog kn lo 52 [.slice sa n cap] H (iv (Y5 l)) H'∧Keep H H' []:=by
 have key:=Zp (kn:=kn) (lo:=lo) (H:=H) (args:=[.slice sa n cap]) (Q:=fun w H'=>w=iv (Y5 l)∧Keep H H' []) Try.func52 B52 N52 Z52 L52 (by simp) ?_
 ·obtain ⟨w,H',h,rfl,q⟩:=key;exact ⟨H',h,q⟩
 have hk:=Keep.refl H []
 have fs:=hs.old
 refine Zc<|Za rfl<|Zb<|Zc<|Za rfl<|Zb<|Zc<|Za rfl<|Z6 (m:=n) rfl<|Za rfl<|Zb ?_
 refine Zt (fn:=Try.f52) Zjf N52 ZiW (fun i:Nat=>[(3,iv (top i (l.map (·.a)))),(6,.slice sa n cap),(7,iv (n:Int)),(8,iv (i:Int))])
  (fun k i H'=>i+k=n∧Keep H H' []∧Sl H' sa n cap (qtc l)) n 0 ⟨by omega,hk,hs⟩ ⟨rfl,rfl,rfl,rfl,trivial⟩ ?_
 rintro k i L1 ⟨hik,hk,hs⟩
 have mk:=hk.1;have htp:=Vr (k:=i) (qf hq);have hmc:=Zao (B:=2199023255552) (n:=min i (l.map (·.a)).length) (by omega) (by rw [List.length_map];omega);have htq:=Vr (k:=i+1) (qf hq);have hmd:=Zao (B:=2199023255552) (n:=min (i+1) (l.map (·.a)).length) (by omega) (by rw [List.length_map];omega)
 refine Zc<|ZC (a:=(i:Int)) (b:=(n:Int)) rfl rfl<|Zb ?_
 refine And.intro (fun q1=>?_) (fun q1=>?_)
 ·have q1:(i:Int) < (n:Int):=of_decide_eq_true q1
  have hi:i < n:=by omega
  rcases id hs with ⟨_,h0s,_⟩ | ⟨sb,es,rs,_⟩
  ·omega
  have ls:=rs.1
  have hmi:=Y9 (z:=Qt.z) hq (show i < l.length by omega);have hsx:top (i+1) (l.map (·.a))=top i (l.map (·.a))+(l.getD i Qt.z).a:=by rw [Zca (by rw [List.length_map];omega),zl (z:=Qt.z) (by omega)]
  first | refine Zi ?_ | skip
  refine Zc<|YZ (b:=sb) (o:=0) (k:=i) (j:=(i:Int)) (by rw [← es];rfl) rfl rfl hi<|Y2 (b:=sb) (o:=0+i * 3) rfl rs (UQ (by omega))<|WN ?_
  intro H1 kH1 nH1 c1
  have c1:Cl H1 L1.next [iv 0,iv 0,iv 0]:=c1
  have mH1:=kH1.1
  have hk:=hk.trans kH1
  have hs:=kH1.sl0 hs
  have rs:=kH1.rd rs (by simp)
  refine W9 (b:=L1.next) (o:=0) rfl rfl c1 (by omega) rfl rfl (by simp) ?_
  intro H2 kH2 nH2 sH2
  have mH2:=kH2.1
  have hk:=hk.new kH2 (fun b hb=>by simp at hb ⊢;omega)
  have hs:=kH2.sl hs (fun b e=>by have:=fs b e;first | (simp;done) | (simp;omega))
  have rs:=kH2.rd rs (by first | (simp;done) | (simp;omega))
  have c1:Cl H2 L1.next [iv ((l.getD i Qt.z).g),iv ((l.getD i Qt.z).b),iv ((l.getD i Qt.z).a)]:=sH2
  refine Zb ?_
  show Zl _ _ _ _ _ _ _ _
  refine Za rfl<|ZB (b:=L1.next) (o:=0) rfl<|ZZ (b:=L1.next) (o:=2) (v:=iv ((l.getD i Qt.z).a)) rfl c1.rd rfl<|Zs (a:=(top i (l.map (·.a)))) (b:=(l.getD i Qt.z).a) rfl rfl ⟨by omega,by omega⟩<|Za rfl<|Zb ?_
  show Zl _ _ _ _ _ _ _ _
  refine Zs (a:=(i:Int)) (b:=1) rfl rfl ⟨by omega,by omega⟩<|Za rfl<|Zb ?_
  exact ⟨k - 1,i+1,by omega,⟨by omega,hk,hs⟩,(by show some (iv _)=some (iv _);rw [hsx]),rfl,rfl,rfl,trivial⟩
 ·have q1:¬ ((i:Int) < (n:Int)):=of_decide_eq_false q1
  first | (refine Zz ?_;show wC _ _ _ _ _ _ _ _ _) | skip
  refine Zc<|Za rfl<|Za rfl<|Zb ?_
  have ein:i=n:=by omega
  exact And.intro trivial (Exists.intro _ (And.intro rfl ⟨by unfold Y5;rw [← KG,ein,List.length_map,hl];rfl,hk⟩))
set_option maxRecDepth 100000 in
theorem Zbu {xs:List Int} {sa:Option Addr} {M cap:Nat} (hs:Sl H sa M cap (cI xs)) (hM:0 < M) (hMl:M≤xs.length) (hn:xs.length≤400) (hlo:lo≤H.next) (hx:∀ a∈xs,0≤a∧a≤1099511627776):∃ H',FnX Try.prog kn lo 45 [.slice sa M cap] H (iv (top M xs / (M:Int))) H'∧Keep H H' []:=by
 have key:=Zp (kn:=kn) (lo:=lo) (H:=H) (args:=[.slice sa M cap]) (Q:=fun w H'=>w=iv (top M xs / (M:Int))∧Keep H H' []) Try.func45 B45 N45 Z45 L45 (by simp) ?_
 ·obtain ⟨w,H',h,rfl,q⟩:=key;exact ⟨H',h,q⟩
 have hk:=Keep.refl H []
 have fs:=hs.old
 refine Zc<|Za rfl<|Zb<|Zc<|Za rfl<|Zb<|Zc<|Za rfl<|Z6 (m:=M) rfl<|Za rfl<|Zb ?_
 refine Zt (fn:=Try.f45) ZiH N45 Zir (fun i:Nat=>[(0,.slice sa M cap),(3,iv (top i xs)),(6,.slice sa M cap),(7,iv (M:Int)),(8,iv (i:Int))])
  (fun k i H'=>i+k=M∧Keep H H' []∧Sl H' sa M cap (cI xs)) M 0 ⟨by omega,hk,hs⟩ ⟨rfl,rfl,rfl,rfl,rfl,trivial⟩ ?_
 rintro k i L1 ⟨hik,hk,hs⟩
 have mk:=hk.1;have htp:=Vr (k:=i) (hx);have hmc:=Zao (B:=1099511627776) (n:=min i (xs).length) (by omega) (by omega);have htq:=Vr (k:=i+1) (hx);have hmd:=Zao (B:=1099511627776) (n:=min (i+1) (xs).length) (by omega) (by omega)
 refine Zc<|ZC (a:=(i:Int)) (b:=(M:Int)) rfl rfl<|Zb ?_
 refine And.intro (fun q1=>?_) (fun q1=>?_)
 ·have q1:(i:Int) < (M:Int):=of_decide_eq_true q1
  have hi:i < M:=by omega
  rcases id hs with ⟨_,h0s,_⟩ | ⟨sb,es,rs,_⟩
  ·omega
  have ls:=rs.1
  have hgd:=KN hx (i:=i) (by omega);have hsx:top (i+1) xs=top i xs+xs.getD i 0:=Zca (by omega)
  first | refine Zi ?_ | skip
  refine Zc<|YZ (b:=sb) (o:=0) (k:=i) (j:=(i:Int)) (by rw [← es];rfl) rfl rfl hi<|ZZ (b:=sb) (o:=0+i * 1) (v:=iv (xs.getD i 0)) rfl rs (UB (by omega))<|Za rfl<|Zb ?_
  show Zl _ _ _ _ _ _ _ _
  refine Za rfl<|Za rfl<|Zs (a:=(top i xs)) (b:=(xs.getD i 0)) rfl rfl ⟨by omega,by omega⟩<|Za rfl<|Zb ?_
  show Zl _ _ _ _ _ _ _ _
  refine Zs (a:=(i:Int)) (b:=1) rfl rfl ⟨by omega,by omega⟩<|Za rfl<|Zb ?_
  exact ⟨k - 1,i+1,by omega,⟨by omega,hk,hs⟩,rfl,(by show some (iv _)=some (iv _);rw [hsx]),rfl,rfl,rfl,trivial⟩
 ·have q1:¬ ((i:Int) < (M:Int)):=of_decide_eq_false q1
  first | (refine Zz ?_;show wC _ _ _ _ _ _ _ _ _) | skip
  refine Zc<|Za rfl<|Za rfl<|Z6 (m:=M) rfl<|JU (a:=(top i xs)) (b:=(M:Int)) rfl rfl (by omega) (by omega) ⟨by omega,by omega⟩<|Za rfl<|Zb ?_
  have ein:i=M:=by omega
  exact And.intro trivial (Exists.intro _ (And.intro rfl ⟨by rw [ein];rfl,hk⟩))
set_option maxRecDepth 100000 in
set_option maxHeartbeats 1000000 in
theorem Us {ms:List Mb} {sa:Option Addr} {n cap:Nat} (hs:Sl H sa n cap (mbc ms)) (hl:ms.length=n) (hn:n≤400) (hlo:lo≤H.next) (hm:∀ m∈ms,okM m) {p:Int} (hp0:0≤p) (hp1:p≤1001):∃ v H',FnX Try.prog kn lo 25 [.slice sa n cap,iv p] H v H'∧Acc lo H.next 44 H' v (qtL p ms).length (qtc (qtL p ms))∧Keep H H' []:=by
 have key:=Zp (kn:=kn) (lo:=lo) (H:=H) (args:=[.slice sa n cap,iv p]) (Q:=fun w H'=>Acc lo H.next 44 H' w (qtL p ms).length (qtc (qtL p ms))∧Keep H H' []) Try.func25 B25 N25 Z25 L25 (by simp) ?_
 ·exact key
 have hk:=Keep.refl H []
 have fs:=hs.old
 refine Zc<|Za rfl<|Zb<|Zc<|Za rfl<|Zb<|Zc<|Za rfl<|Z6 (m:=n) rfl<|Za rfl<|Zb ?_
 refine Zt (fn:=Try.f25) ZhW N25 Zid (fun z:Nat × Value=>[(1,iv p),(5,z.2),(8,.slice sa n cap),(9,iv (n:Int)),(10,iv (z.1:Int))])
  (fun k z H'=>z.1+k=n∧Keep H H' []∧Sl H' sa n cap (mbc ms)∧Acc lo H.next 44 H' z.2 (qtL p (ms.take z.1)).length (qtc (qtL p (ms.take z.1)))) n (0,.slice none 0 0) ⟨by simp,hk,hs,.inl ⟨rfl,rfl,rfl⟩⟩ ⟨rfl,rfl,rfl,rfl,rfl,trivial⟩ ?_
 rintro k ⟨i,wv⟩ L1 ⟨hik,hk,hs,hacc⟩
 simp only [] at hik hacc
 have mk:=hk.1;have kacc:=Keep.refl L1 [];have hql:(qtL p (ms.take i)).length=i:=by unfold qtL;rw [List.length_map,List.length_take];omega
 refine Zc<|ZC (a:=(i:Int)) (b:=(n:Int)) rfl rfl<|Zb ?_
 refine And.intro (fun q1=>?_) (fun q1=>?_)
 ·have q1:(i:Int) < (n:Int):=of_decide_eq_true q1
  have hi:i < n:=by omega
  rcases id hs with ⟨_,h0s,_⟩ | ⟨sb,es,rs,_⟩
  ·omega
  have ls:=rs.1
  have lsb2:=fs sb es
  have hmi:=Y9 (z:=Mb.z) hm (show i < ms.length by omega);obtain ⟨hm1,hm2,hm3,hm4⟩:=hmi
  have hmul:=jb hm3 hm4 hp0 hp1
  first | refine Zi ?_ | skip
  refine Zc<|YZ (b:=sb) (o:=0) (k:=i) (j:=(i:Int)) (by rw [← es];rfl) rfl rfl hi<|Y2 (b:=sb) (o:=0+i * 2) rfl rs (Q7 (by omega))<|WN ?_
  intro H1 kH1 nH1 c1
  have c1:Cl H1 L1.next [iv 0,iv 0]:=c1
  have mH1:=kH1.1
  have hk:=hk.trans kH1
  have hs:=kH1.sl0 hs
  have kacc:=kacc.trans kH1
  have rs:=kH1.rd rs (by simp)
  refine W9 (b:=L1.next) (o:=0) rfl rfl c1 (by omega) rfl rfl (by simp) ?_
  intro H2 kH2 nH2 sH2
  have mH2:=kH2.1
  have hk:=hk.new kH2 (fun b hb=>by simp at hb ⊢;omega)
  have hs:=kH2.sl hs (fun b e=>by have:=fs b e;first | (simp;done) | (simp;omega))
  have kacc:=kacc.new kH2 (fun b hb=>by simp at hb ⊢;omega)
  have rs:=kH2.rd rs (by first | (simp;done) | (simp;omega))
  have c1:Cl H2 L1.next [iv ((ms.getD i Mb.z).g),iv ((ms.getD i Mb.z).b)]:=sH2
  refine Zb ?_
  show Zl _ _ _ _ _ _ _ _
  refine Za rfl<|ZB (b:=L1.next) (o:=0) rfl<|ZZ (b:=L1.next) (o:=0) (v:=iv ((ms.getD i Mb.z).g)) rfl c1.rd rfl<|ZB (b:=L1.next) (o:=0) rfl<|ZZ (b:=L1.next) (o:=1) (v:=iv ((ms.getD i Mb.z).b)) rfl c1.rd rfl<|ZB (b:=L1.next) (o:=0) rfl<|ZZ (b:=L1.next) (o:=1) (v:=iv ((ms.getD i Mb.z).b)) rfl c1.rd rfl<|Za rfl<|Wp (a:=(ms.getD i Mb.z).b) (b:=p) rfl rfl ⟨by omega,by omega⟩<|JU (a:=((ms.getD i Mb.z).b) * p) (b:=1000) rfl rfl (by omega) (by omega) ⟨by omega,by omega⟩<|Zg (v:=.agg #[iv ((ms.getD i Mb.z).g),iv ((ms.getD i Mb.z).b),iv ((((ms.getD i Mb.z).b) * p) / 1000)]) rfl (by kernel_rfl) ?_
  obtain ⟨H3,hH3⟩:∃ H3,H2.new (.cells [iv ((ms.getD i Mb.z).g),iv ((ms.getD i Mb.z).b),iv ((((ms.getD i Mb.z).b) * p) / 1000)] 44 false)=H3:=⟨_,rfl⟩
  refine Yy (H':=H3) (k:=.heavy) rfl (by kernel_rfl) ((YU (v:=.agg #[iv ((ms.getD i Mb.z).g),iv ((ms.getD i Mb.z).b),iv ((((ms.getD i Mb.z).b) * p) / 1000)]) Zcw Zhs rfl rfl rfl (by decide)).trans (by rw [← hH3];rfl)) (fun b e=>by cases e) ?_
  obtain ⟨kH3,nH3,c3⟩:=ZD hH3;clear hH3
  have c3:Cl H3 H2.next [iv ((ms.getD i Mb.z).g),iv ((ms.getD i Mb.z).b),iv ((((ms.getD i Mb.z).b) * p) / 1000)]:=c3
  have mH3:=kH3.1
  have hk:=hk.trans kH3
  have hs:=kH3.sl0 hs
  have kacc:=kacc.trans kH3
  have rs:=kH3.rd rs (by simp)
  have c1:=kH3.cl c1 (by simp)
  obtain ⟨H4,kdH4,eH4,dH4,aH4,kbH4⟩:=Yw (P:=Try.prog) (lo:=lo) (k:=(qtL p (ms.take i)).length) (t1:=27) Zcw Zhu (c3.sl (Nat.le_refl 1)) rfl (by decide) rfl (by rw [U5]) (by omega) (hacc.keep kacc) (by omega) (by omega)
  refine Yy (k:=kdH4) rfl (by cases wv<;>kernel_rfl) (eH4 _ _ _ _ _ _ _ rfl rfl) (Qx dH4 _) ?_
  have hk:=kbH4.keep hk (by omega)
  have hs:=kbH4.sl hs (fun b e=>by have:=fs b e;omega)
  have mH4:=kbH4.1
  refine Za rfl<|Zb ?_
  show Zl _ _ _ _ _ _ _ _
  refine Zs (a:=(i:Int)) (b:=1) rfl rfl ⟨by omega,by omega⟩<|Za rfl<|Zb ?_
  have hU:ms.take (i+1)=ms.take i ++ [(ms.getD i Mb.z)]:=Y4 (by omega)
  have hacc2:Acc lo H.next 44 H4 (.slice (some ⟨H3.next,0,none⟩) ((qtL p (ms.take i)).length+1) ((qtL p (ms.take i)).length+1)) (qtL p (ms.take (i+1))).length (qtc (qtL p (ms.take (i+1)))):=by unfold qtL qtc at *;rw [hU,List.map_append,List.flatMap_append,List.length_append];exact aH4
  exact ⟨k - 1,(i+1,_),by omega,⟨by simp only [];omega,hk,hs,hacc2⟩,rfl,rfl,rfl,rfl,rfl,trivial⟩
 ·have q1:¬ ((i:Int) < (n:Int)):=of_decide_eq_false q1
  first | (refine Zz ?_;show wC _ _ _ _ _ _ _ _ _) | skip
  refine Zc<|Za rfl<|Za rfl<|Zb ?_
  have ein:i=n:=by omega
  rw [ein,← hl,List.take_length] at hacc
  exact And.intro trivial (Exists.intro _ (And.intro rfl ⟨hacc,hk⟩))
theorem ZcZ {n:Nat} {F:FuncId} {caps:Array Value} (p:Nat→Bool) (hn:n≤1099511627776) (hf:∀ k H1,Keep H H1 []→k < n→∃ H2,XN Try.prog kn lo (.fn (.func F) caps) [iv (k:Int)] H1 (.bool (p k)) H2∧Keep H1 H2 []) :
  ∃ (m:Nat) (H':Hp),FnX Try.prog kn lo 50 [iv n,.func (.func F) #[] caps] H (iv m) H'∧Keep H H' []∧Lst p n m:=by
 have key:=Zp (kn:=kn) (lo:=lo) (H:=H) (args:=[iv n,.func (.func F) #[] caps]) (Q:=fun v H'=>∃ m:Nat,v=iv m∧Keep H H' []∧Lst p n m) Try.func50 B50 N50 Z50 L50 (by simp) ?_
 ·obtain ⟨v,H',h,m,rfl,q⟩:=key;exact ⟨m,H',h,q⟩
 refine Zc (Za rfl (Zb (Zc (Za rfl (Za rfl (Za rfl (Zb (Wx (W4 (QT ?_)))))))))) 
 refine Zt (fn:=Try.f50) Zii N50 Zie (fun a:Nat × Nat=>[(1,.func (.func F) #[] caps),(5,iv (a.1:Int)),(6,iv (a.2:Int))])
  (fun k a H1=>k=a.2 - a.1∧a.1≤a.2∧a.2≤n∧(a.1=0∨p (a.1 - 1)=false)∧(a.2=n∨p a.2=true)∧Keep H H1 []) (n - 0) (0,n) ⟨rfl,Nat.zero_le _,Nat.le_refl _,.inl rfl,.inl rfl,Keep.refl _ _⟩ ⟨rfl,rfl,rfl,trivial⟩ ?_
 rintro k ⟨i,j⟩ H1 ⟨rfl,hij,hjn,hi,hj,hk⟩
 simp only at hij hjn hi hj
 refine Wx (Zc (Za rfl (Za rfl (ZC (a:=(i:Int)) (b:=(j:Int)) rfl rfl (Zb (Wv (t:=decide ((i:Int) < (j:Int))) rfl (fun hlt=>?_) (fun hge=>?_)))))))
 ·have hlt:=of_decide_eq_true hlt
  refine Zi (W4 (Zc (Za rfl (Za rfl (Zs (a:=(i:Int)) (b:=(j:Int)) rfl rfl ⟨by omega,by omega⟩ ?_)))))
  refine Zg (v:=.int .u64 ((i+j:Nat):Int)) rfl (zC (n:=i+j) (j:=(i:Int)+(j:Int)) (by omega) rfl (by omega))<|Zg (v:=.int .u64 (((i+j) / 2:Nat):Int)) rfl (Qg (m:=i+j) (d:=1) (by decide) rfl rfl) ?_
  have h1:i≤(i+j) / 2:=by omega
  have h2:(i+j) / 2 < j:=by omega
  generalize (i+j) / 2=h at h1 h2 ⊢
  refine Zg (v:=iv (h:Int)) rfl (ju (n:=h) (j:=(h:Int)) (by omega) rfl rfl) (Za rfl (Zb ?_))
  obtain ⟨H2,f2,k2⟩:=hf h H1 hk (by omega)
  refine Wx (Zc (Za rfl (Za rfl (Zu rfl f2 (Zg (v:=.bool (!p h)) rfl (by kernel_rfl) (Zb ?_)))))) 
  cases hg:p h with
  | false=>
   refine Wv (t:=true) rfl (fun _=>?_) (fun e=>by cases e)
   refine z9 (Za rfl (Zs (a:=(h:Int)) (b:=1) rfl rfl ⟨by omega,by omega⟩ (Za rfl (Zb ?_))))
   exact ⟨j - (h+1),(h+1,j),by simp only;omega,⟨rfl,by simp only;omega,hjn,.inr hg,hj,hk.trans k2⟩,rfl,ivq (by simp only [];omega),rfl,trivial⟩
  | true=>
   refine Wv (t:=false) rfl (fun e=>by cases e) (fun _=>?_)
   refine z9 (Za rfl (Za rfl (Zb ?_)))
   exact ⟨h - i,(i,h),by simp only;omega,⟨rfl,h1,by simp only;omega,hi,.inr hg,hk.trans k2⟩,rfl,rfl,rfl,trivial⟩
 ·have hge:=of_decide_eq_false hge
  have hij:i=j:=by omega
  subst hij
  refine Zz (Zc (Za rfl (Za rfl (Zb ?_))))
  exact And.intro trivial (Exists.intro _ (And.intro rfl ⟨i,rfl,hk,hjn,hi,hj⟩))
set_option maxRecDepth 100000 in
theorem Zhx {ms:List Mb} {sa:Option Addr} {n cap:Nat} (hs:Sl H sa n cap (mbc ms)) (hl:ms.length=n) (hn:n≤400) (hlo:lo≤H.next) (hm:∀ m∈ms,okM m) {k:Nat} (hkk:k≤1000) {dm:Int} {c1 c2:Nat} (r1:Rd H c1 [.slice sa n cap]) (r2:Rd H c2 [iv dm]):∃ H',FnX Try.prog kn lo 51 [iv (k:Int),.pointer (some ⟨c1,0,none⟩),.pointer (some ⟨c2,0,none⟩)] H (.bool (decide (Y5 (qtL ((k:Int)+1) ms) > dm))) H'∧Keep H H' []:=by
 have key:=Zp (kn:=kn) (lo:=lo) (H:=H) (args:=[iv (k:Int),.pointer (some ⟨c1,0,none⟩),.pointer (some ⟨c2,0,none⟩)]) (Q:=fun w H'=>w=.bool (decide (Y5 (qtL ((k:Int)+1) ms) > dm))∧Keep H H' []) Try.func51 B51 N51 Z51 L51 (by simp) ?_
 ·obtain ⟨w,H',h,rfl,q⟩:=key;exact ⟨H',h,q⟩
 have hk:=Keep.refl H []
 have fs:=hs.old
 have l1:=r1.1;have l2:=r2.1
 refine Zc<|Za rfl<|Zb<|YF<|ZM (b:=c1) (o:=0) (v:=.slice sa n cap) rfl r1 rfl<|Ze rfl<|XX (a:=(k:Int)) (b:=1) rfl rfl ⟨by omega,by omega⟩ ?_
 obtain ⟨qv,H1,fH1,hqa,kH1⟩:=Us (kn:=kn) (lo:=H.next) (H:=H) hs hl hn (Nat.le_refl _) hm (p:=(k:Int)+1) (by omega) (by omega)
 obtain ⟨qa,qc,rfl,hqs,_⟩:=hqa.sl
 have fq:=hqs.old
 have hqn:(qtL ((k:Int)+1) ms).length=n:=by unfold qtL;rw [List.length_map,hl]
 rw [hqn] at hqs fH1
 refine WL (vs:=[.slice sa n cap,iv ((k:Int)+1)]) rfl rfl (Zh fH1) ?_
 have mH1:=kH1.1
 have hk:=hk.trans kH1
 have hs:=kH1.sl0 hs
 have r1:=kH1.rd r1 (by simp)
 have r2:=kH1.rd r2 (by simp)
 obtain ⟨H2,fH2,kH2⟩:=Kf (kn:=kn) (lo:=H1.next) (H:=H1) hqs hqn hn (Nat.le_refl _) (Zdv hm (by omega) (by omega))
 refine WL (vs:=[.slice qa n qc]) rfl rfl (Zh fH2) ?_
 have mH2:=kH2.1
 have hk:=hk.trans kH2
 have hs:=kH2.sl0 hs
 have r1:=kH2.rd r1 (by simp)
 have r2:=kH2.rd r2 (by simp)
 have hqs:=kH2.sl0 hqs
 refine ZM (b:=c2) (o:=0) (v:=iv dm) rfl r2 rfl<|ZdV (a:=(Y5 (qtL ((k:Int)+1) ms))) (b:=dm) rfl rfl<|Ze rfl ?_
 refine ZH (by repeat' first | exact True.intro | exact (fun h=>h) | refine And.intro ?_ ?_ | (intro h;have h:(_:Nat)=_:=h;omega)) ?_
 exact And.intro trivial (Exists.intro _ (And.intro rfl ⟨rfl,hk⟩))
def ZdS (ms:List Mb) (dm:Int) (k:Nat):Bool:=decide (Y5 (qtL ((k:Int)+1) ms) > dm)
theorem jT {ms:List Mb} {sa:Option Addr} {n cap:Nat} (hs:Sl H sa n cap (mbc ms)) (hl:ms.length=n) (hn:n≤400) (hlo:lo≤H.next) (hm:∀ m∈ms,okM m) {dm:Int}:∃ (m:Nat) (H':Hp),FnX Try.prog kn lo 29 [.slice sa n cap,iv dm] H (iv m) H'∧Lst (ZdS ms dm) 1000 m∧Keep H H' []:=by
 have key:=Zp (kn:=kn) (lo:=lo) (H:=H) (args:=[.slice sa n cap,iv dm]) (Q:=fun w H'=>∃ m:Nat,w=iv m∧Lst (ZdS ms dm) 1000 m∧Keep H H' []) Try.func29 B29 N29 Z29 L29 (by simp) ?_
 ·obtain ⟨w,H',h,m,rfl,r⟩:=key;exact ⟨m,H',h,r⟩
 have hk:=Keep.refl H []
 have fs:=hs.old
 refine Zc<|YD (v:=.slice sa n cap) rfl ?_
 intro H1 kH1 nH1 c1
 have c1:Cl H1 H.next [.slice sa n cap]:=c1
 have mH1:=kH1.1
 have hk:=hk.trans kH1
 have hs:=kH1.sl0 hs
 refine YD (v:=iv dm) rfl ?_
 intro H2 kH2 nH2 c2
 have c2:Cl H2 H1.next [iv dm]:=c2
 have mH2:=kH2.1
 have hk:=hk.trans kH2
 have hs:=kH2.sl0 hs
 have c1:=kH2.cl c1 (by simp)
 refine Za rfl<|Zb<|Zc<|Zg (v:=.func (.func 51) #[] #[pt H.next,pt H1.next]) rfl (by kernel_rfl) ?_
 obtain ⟨m,H3,fH3,kH3,hmm⟩:=ZcZ (kn:=kn) (lo:=lo) (H:=H2) (n:=1000) (F:=51) (caps:=#[.pointer (some ⟨H.next,0,none⟩),.pointer (some ⟨H1.next,0,none⟩)]) (ZdS ms dm) (by omega) (fun kk HH kH hkk=>by
  obtain ⟨H9,f9,k9⟩:=Zhx (kn:=kn) (lo:=lo) (H:=HH) (kH.sl0 hs) hl hn (by have:=kH.1;omega) hm (k:=kk) (by omega) (dm:=dm) (kH.rd c1.rd (by simp)) (kH.rd c2.rd (by simp))
  have f9:FnX Try.prog kn lo 51 _ _ (.bool (ZdS ms dm kk)) _:=f9
  exact ⟨H9,YN rfl (by simpa using f9),k9⟩)
 refine Zu (vs:=[iv 1000,.func (.func 51) #[] #[pt H.next,pt H1.next]]) rfl (Zh fH3) ?_
 have mH3:=kH3.1
 have hk:=hk.trans kH3
 have hs:=kH3.sl0 hs
 have c1:=kH3.cl c1 (by simp)
 have c2:=kH3.cl c2 (by simp)
 refine Za rfl<|Zb ?_
 exact And.intro trivial (Exists.intro _ (And.intro rfl ⟨m,rfl,hmm,hk⟩))
end
end
end Go.Ax

/-
 Pool: sorting that keeps the order: swaps,turns,insertion (written by program).
-/
namespace Go.Ax
open Go Go.RowKit Go.Proofs

noncomputable section
theorem PRm.dom {a b n:Nat} {g g':Nat→Nat} (p:PRm a b g g') (h:∀ k,k < n→g k < n) (hb:b≤n):∀ k,k < n→g' k < n:=fun k hk=>by
 by_cases q:a≤k∧k < b
 ·obtain ⟨j,_,j2,e⟩:=p.mem q.1 q.2
  rw [e];exact h j (by omega)
 ·rw [p.out k (by omega)];exact h k hk
theorem ZeI {a b i:Nat} {g g':Nat→Nat} (p:PRm a i g g') (hid:∀ i j,a≤i→i < j→j < b→g i < g j) (hi:i < b):∀ q,a≤q→q < i→g' q < g' i:=fun q h1 h2=>by
 obtain ⟨j,j1,j2,e⟩:=p.mem h1 h2
 rw [e,p.out i (.inr (Nat.le_refl _))];exact hid j i j1 j2 hi
theorem Jc {g:Nat→Nat} {s m e:Nat} (h:s=m∨e=m) (h1:s≤m) (h2:m≤e):rot g s m e=g:=by
 funext k
 unfold rot
 by_cases c1:s≤k∧k < s+(e - m)
 ·rw [if_pos c1];congr 1;omega
 ·rw [if_neg c1]
  by_cases c2:s+(e - m)≤k∧k < e
  ·rw [if_pos c2];congr 1;omega
  ·rw [if_neg c2]
section
variable {kn:Kn} {lo:Nat} {H:Hp}
set_option maxRecDepth 100000 in
set_option maxHeartbeats 2000000 in
theorem qC (hlo:lo≤H.next) {bd cap n:Nat} {g:Nat→Nat} {v:Nat→Int} (hlb:lo≤bd) (hn:n≤1000000) (hc:Cl H bd (cG (fun x=>[iv (v x)]) n g)) {cv:Value} {a b c:Nat} (hab:a+c≤b) (hb:b+c≤n):∃ H',FnX Try.prog kn lo 107 [.slice (some ⟨bd,0,none⟩) n cap,iv (a:Int),iv (b:Int),iv (c:Int),cv] H (.tuple #[]) H'∧PRm a (b+c) g (swr g a b c)∧KT bd H H'∧Cl H' bd (cG (fun x=>[iv (v x)]) n (swr g a b c)):=by
 have key_:=Zp (kn:=kn) (lo:=lo) (H:=H) (args:=[.slice (some ⟨bd,0,none⟩) n cap,iv (a:Int),iv (b:Int),iv (c:Int),cv]) (Q:=fun w H'=>w=.tuple #[]∧PRm a (b+c) g (swr g a b c)∧KT bd H H'∧Cl H' bd (cG (fun x=>[iv (v x)]) n (swr g a b c))) Try.func107 Zkr ZiG ZkK ZkF (by simp) ?_
 ·obtain ⟨w,H',h,rfl,r⟩:=key_;exact ⟨H',h,r⟩
 have hk:=KT.refl (H:=H) hc.1
 refine Zc<|Za rfl<|Zb ?_
 refine Zt (fn:=Try.f107) ZhK ZiG ZgY (fun i:Nat=>[(0,.slice (some ⟨bd,0,none⟩) n cap),(1,iv (a:Int)),(2,iv (b:Int)),(3,iv (c:Int)),(10,iv (i:Int))])
  (fun k i H'=>i+k=c∧PRm a (b+c) g (swr g a b i)∧KT bd H H'∧Cl H' bd (cG (fun x=>[iv (v x)]) n (swr g a b i))) c 0 ⟨by omega,by rw [Ju];exact PRm.refl _ _ _,hk,by rw [Ju];exact hc⟩ ⟨rfl,rfl,rfl,rfl,rfl,trivial⟩ ?_
 rintro k i L1 ⟨hik,hp,hk,hc⟩
 refine Zc<|Za rfl<|Za rfl<|ZC (a:=(i:Int)) (b:=(c:Int)) rfl rfl<|Zb ?_
 refine And.intro (fun q1=>?_) (fun q1=>?_)
 ·have q1:(i:Int) < (c:Int):=of_decide_eq_true q1
  first | refine Zi ?_ | skip
  first | refine Ye ?_ | refine Wu ?_ | refine Vw ?_ | (refine YY ?_;refine Ye ?_)
  refine Ze rfl<|Ze rfl<|Ze rfl<|XX (a:=(a:Int)) (b:=(i:Int)) rfl rfl ⟨by omega,by omega⟩<|Ze rfl<|Ze rfl<|Ze rfl<|XX (a:=(b:Int)) (b:=(i:Int)) rfl rfl ⟨by omega,by omega⟩<|Ze rfl<|Ze rfl<|Ze rfl<|XX (a:=(b:Int)) (b:=(i:Int)) rfl rfl ⟨by omega,by omega⟩<|ZA (b:=bd) (o:=0) (k:=b+i) (j:=(b:Int)+(i:Int)) rfl rfl (by omega) (by omega)<|ZM (b:=bd) (o:=0+(b+i) * 1) (v:=iv (v ((swr g a b i) (b+i)))) rfl hc.rd (WQ (fun _=>rfl) (by omega) rfl)<|Ze rfl<|Ze rfl<|Ze rfl<|XX (a:=(a:Int)) (b:=(i:Int)) rfl rfl ⟨by omega,by omega⟩<|ZA (b:=bd) (o:=0) (k:=a+i) (j:=(a:Int)+(i:Int)) rfl rfl (by omega) (by omega)<|ZM (b:=bd) (o:=0+(a+i) * 1) (v:=iv (v ((swr g a b i) (a+i)))) rfl hc.rd (WQ (fun _=>rfl) (by omega) rfl)<|ZA (b:=bd) (o:=0) (k:=a+i) (j:=(a:Int)+(i:Int)) rfl rfl (by omega) (by omega)<|UA (b:=bd) (o:=0+(a+i) * 1) rfl rfl hc hlb rfl rfl (by rw [XO (z:=1) (fun _=>rfl)];omega) ?_
  intro H1 kH1 nH1 sH1 tH1
  have mH1:=kH1.1
  have hk:=hk.put kH1 tH1
  have hc:Cl H1 bd (cG (fun x=>[iv (v x)]) n (upd (swr g a b i) (a+i) ((swr g a b i) (b+i)))):=by rw [← UJ (fun _=>rfl) (by omega) rfl];exact sH1
  refine ZA (b:=bd) (o:=0) (k:=b+i) (j:=(b:Int)+(i:Int)) rfl rfl (by omega) (by omega)<|UA (b:=bd) (o:=0+(b+i) * 1) rfl rfl hc hlb rfl rfl (by rw [XO (z:=1) (fun _=>rfl)];omega) ?_
  intro H2 kH2 nH2 sH2 tH2
  have mH2:=kH2.1
  have hk:=hk.put kH2 tH2
  have hc:Cl H2 bd (cG (fun x=>[iv (v x)]) n (upd (upd (swr g a b i) (a+i) ((swr g a b i) (b+i))) (b+i) ((swr g a b i) (a+i)))):=by rw [← UJ (fun _=>rfl) (by omega) rfl];exact sH2
  have hc:Cl H2 bd (cG (fun x=>[iv (v x)]) n (swp (swr g a b i) (a+i) (b+i))):=hc
  refine ZH (by repeat' first | exact True.intro | exact (fun h=>h) | refine And.intro ?_ ?_ | (intro h;have h:(_:Nat)=_:=h;omega)) ?_
  show Zl _ _ _ _ _ _ _ _
  refine Za rfl<|Zs (a:=(i:Int)) (b:=1) rfl rfl ⟨by omega,by omega⟩<|Za rfl<|Zb ?_
  rw [Q1 hab (by omega)] at hc
  exact ⟨k - 1,i+1,by omega,⟨by omega,by rw [← Q1 hab (by omega)];exact hp.trans (PRm.swap (by omega) (by omega) (by omega) (by omega)),hk,hc⟩,rfl,rfl,rfl,rfl,ivq (by omega),trivial⟩
 ·have q1:¬ ((i:Int) < (c:Int)):=of_decide_eq_false q1
  first | (refine Zz ?_;show wC _ _ _ _ _ _ _ _ _) | skip
  obtain rfl:i=c:=by omega
  exact And.intro trivial (Exists.intro _ (And.intro rfl ⟨rfl,hp,hk,hc⟩))
set_option maxRecDepth 100000 in
set_option maxHeartbeats 2000000 in
theorem Ze1 (hlo:lo≤H.next) {bd cap n:Nat} {g:Nat→Nat} {v:Nat→Int} (hlb:lo≤bd) (hn:n≤1000000) (hc:Cl H bd (cG (fun x=>[iv (v x)]) n g)) {cv:Value} {a m b:Nat} (ham:a < m) (hmb:m < b) (hb:b≤n):∃ H',FnX Try.prog kn lo 104 [.slice (some ⟨bd,0,none⟩) n cap,iv (a:Int),iv (m:Int),iv (b:Int),cv] H (.tuple #[]) H'∧PRm a b g (rot g a m b)∧KT bd H H'∧Cl H' bd (cG (fun x=>[iv (v x)]) n (rot g a m b)):=by
 have key_:=Zp (kn:=kn) (lo:=lo) (H:=H) (args:=[.slice (some ⟨bd,0,none⟩) n cap,iv (a:Int),iv (m:Int),iv (b:Int),cv]) (Q:=fun w H'=>w=.tuple #[]∧PRm a b g (rot g a m b)∧KT bd H H'∧Cl H' bd (cG (fun x=>[iv (v x)]) n (rot g a m b))) Try.func104 ZkA Ziz ZkS Zka (by simp) ?_
 ·obtain ⟨w,H',h,rfl,r⟩:=key_;exact ⟨H',h,r⟩
 have hk:=KT.refl (H:=H) hc.1
 refine Zc<|Za rfl<|Za rfl<|Z4 (a:=(m:Int)) (b:=(a:Int)) rfl rfl ⟨by omega,by omega⟩<|Za rfl<|Zb<|Zc<|Za rfl<|Za rfl<|Z4 (a:=(b:Int)) (b:=(m:Int)) rfl rfl ⟨by omega,by omega⟩<|Za rfl<|Zb ?_
 refine Zt (fn:=Try.f104) Zg2 Ziz Zhn (fun x:Nat × Nat=>[(0,.slice (some ⟨bd,0,none⟩) n cap),(2,iv (m:Int)),(4,cv),(10,iv (x.1:Int)),(11,iv (x.2:Int))])
  (fun k x H'=>k=x.1+x.2∧0 < x.1∧0 < x.2∧x.1≤m - a∧x.2≤b - m∧∃ g',rot g' (m - x.1) m (m+x.2)=rot g a m b∧PRm a b g g'∧KT bd H H'∧Cl H' bd (cG (fun x=>[iv (v x)]) n g')) _ (m - a,b - m) ⟨rfl,by simp only [];omega,by simp only [];omega,Nat.le_refl _,Nat.le_refl _,g,by simp only [];rw [show m - (m - a)=a by omega,show m+(b - m)=b by omega],PRm.refl _ _ _,hk,hc⟩ ⟨rfl,rfl,rfl,ivq (by simp only [];omega),ivq (by simp only [];omega),trivial⟩ ?_
 rintro k ⟨i,j⟩ L1 ⟨rfl,hi1,hj1,hi2,hj2,gx,hr,hp,hk,hc⟩
 simp only [] at hi1 hj1 hi2 hj2 hr
 refine Zc<|Za rfl<|Za rfl<|UC (a:=(i:Int)) (b:=(j:Int)) rfl rfl<|Zb ?_
 refine And.intro (fun q1=>?_) (fun q1=>?_)
 ·have q1:(i:Int)≠(j:Int):=by simpa using q1
  first | refine Zi ?_ | skip
  refine Zc<|Za rfl<|Za rfl<|WC (a:=(i:Int)) (b:=(j:Int)) rfl rfl<|Zb ?_
  refine And.intro (fun q2=>?_) (fun q2=>?_)
  ·have q2:(i:Int) > (j:Int):=of_decide_eq_true q2
   refine Zc<|Za rfl<|Za rfl<|Za rfl<|Z4 (a:=(m:Int)) (b:=(i:Int)) rfl rfl ⟨by omega,by omega⟩<|Za rfl<|Za rfl<|Za rfl ?_
   obtain ⟨H1,fH1,pH1,kH1,cH1⟩:=qC (kn:=kn) (lo:=lo) (H:=L1) (by have:=hk.1;omega) hlb hn (cap:=cap) hc (cv:=cv) (a:=m - i) (b:=m) (c:=j) (by omega) (by omega)
   refine Zu (vs:=[.slice (some ⟨bd,0,none⟩) n cap,iv ((m:Int) - (i:Int)),iv (m:Int),iv (j:Int),cv]) rfl (by have q:=Zh fH1;rw [show ((m - i:Nat):Int)=(m:Int) - (i:Int) by omega] at q;exact q) ?_
   have mH1:=kH1.1
   have hk:=hk.trans kH1
   have hc:=cH1
   have hp:=hp.trans (pH1.mono (by omega) (by omega) (by omega))
   refine Zb ?_
   show Zl _ _ _ _ _ _ _ _
   refine Za rfl<|Za rfl<|Z4 (a:=(i:Int)) (b:=(j:Int)) rfl rfl ⟨by omega,by omega⟩<|Za rfl<|Zb ?_
   rw [ZaF (i:=i) (j:=j) (by omega) (by omega)] at hr
   exact ⟨_,(i - j,j),by simp only [];omega,⟨rfl,by omega,by omega,by simp only [];omega,by omega,_,hr,hp,hk,hc⟩,rfl,rfl,rfl,ivq (by simp only [];omega),rfl,trivial⟩
  ·have q2:¬ ((i:Int) > (j:Int)):=of_decide_eq_false q2
   refine Zc<|Za rfl<|Za rfl<|Za rfl<|Z4 (a:=(m:Int)) (b:=(i:Int)) rfl rfl ⟨by omega,by omega⟩<|Za rfl<|Za rfl<|Zs (a:=(m:Int)) (b:=(j:Int)) rfl rfl ⟨by omega,by omega⟩<|Za rfl<|Z4 (a:=(m:Int)+(j:Int)) (b:=(i:Int)) rfl rfl ⟨by omega,by omega⟩<|Za rfl<|Za rfl ?_
   obtain ⟨H2,fH2,pH2,kH2,cH2⟩:=qC (kn:=kn) (lo:=lo) (H:=L1) (by have:=hk.1;omega) hlb hn (cap:=cap) hc (cv:=cv) (a:=m - i) (b:=(m+j) - i) (c:=i) (by omega) (by omega)
   refine Zu (vs:=[.slice (some ⟨bd,0,none⟩) n cap,iv ((m:Int) - (i:Int)),iv (((m:Int)+(j:Int)) - (i:Int)),iv (i:Int),cv]) rfl (by have q:=Zh fH2;rw [show ((m - i:Nat):Int)=(m:Int) - (i:Int) by omega] at q;rw [show (((m+j) - i:Nat):Int)=((m:Int)+(j:Int)) - (i:Int) by omega] at q;exact q) ?_
   have mH2:=kH2.1
   have hk:=hk.trans kH2
   have hc:=cH2
   have hp:=hp.trans (pH2.mono (by omega) (by omega) (by omega))
   refine Zb ?_
   show Zl _ _ _ _ _ _ _ _
   refine Za rfl<|Za rfl<|Z4 (a:=(j:Int)) (b:=(i:Int)) rfl rfl ⟨by omega,by omega⟩<|Za rfl<|Zb ?_
   rw [yH (i:=i) (j:=j) (by omega) (by omega)] at hr
   exact ⟨_,(i,j - i),by simp only [];omega,⟨rfl,by omega,by omega,by omega,by simp only [];omega,_,hr,hp,hk,hc⟩,rfl,rfl,rfl,rfl,ivq (by simp only [];omega),trivial⟩
 ·have q1:¬ ((i:Int)≠(j:Int)):=by simpa using q1
  first | (refine Zz ?_;show wC _ _ _ _ _ _ _ _ _) | skip
  show Zl _ _ _ _ _ _ _ _
  refine Za rfl<|Za rfl<|Za rfl<|Z4 (a:=(m:Int)) (b:=(i:Int)) rfl rfl ⟨by omega,by omega⟩<|Za rfl<|Za rfl<|Za rfl ?_
  obtain ⟨H3,fH3,pH3,kH3,cH3⟩:=qC (kn:=kn) (lo:=lo) (H:=L1) (by have:=hk.1;omega) hlb hn (cap:=cap) hc (cv:=cv) (a:=m - i) (b:=m) (c:=i) (by omega) (by omega)
  refine Zu (vs:=[.slice (some ⟨bd,0,none⟩) n cap,iv ((m:Int) - (i:Int)),iv (m:Int),iv (i:Int),cv]) rfl (by have q:=Zh fH3;rw [show ((m - i:Nat):Int)=(m:Int) - (i:Int) by omega] at q;exact q) ?_
  have mH3:=kH3.1
  have hk:=hk.trans kH3
  have hc:=cH3
  have hp:=hp.trans (pH3.mono (by omega) (by omega) (by omega))
  refine Zb ?_
  obtain rfl:i=j:=by omega
  rw [ZaK (by omega),hr] at hc hp
  exact And.intro trivial (Exists.intro _ (And.intro rfl ⟨rfl,hp,hk,hc⟩))
set_option maxRecDepth 100000 in
set_option maxHeartbeats 2000000 in
theorem Zch (hlo:lo≤H.next) {bd cap n:Nat} {g:Nat→Nat} {v:Nat→Int} (hlb:lo≤bd) (hn:n≤1000000) (hc:Cl H bd (cG (fun x=>[iv (v x)]) n g)) (hd:∀ k,k < n→g k < n) {fc:FuncId} {caps:Array Value} {key:Nat→Int} (hcmp:Uh Try.prog kn lo bd fc caps (fun x=>iv (v x)) n key H) {a b:Nat} (hab:a≤b) (hb:b≤n) (hid:∀ i j,a≤i→i < j→j < b→g i < g j):∃ H' g',FnX Try.prog kn lo 96 [.slice (some ⟨bd,0,none⟩) n cap,iv (a:Int),iv (b:Int),.func (.func fc) #[] caps] H (.tuple #[]) H'∧PRm a b g g'∧So key a b g'∧KT bd H H'∧Cl H' bd (cG (fun x=>[iv (v x)]) n g'):=by
 have key_:=Zp (kn:=kn) (lo:=lo) (H:=H) (args:=[.slice (some ⟨bd,0,none⟩) n cap,iv (a:Int),iv (b:Int),.func (.func fc) #[] caps]) (Q:=fun w H'=>w=.tuple #[]∧∃ g',PRm a b g g'∧So key a b g'∧KT bd H H'∧Cl H' bd (cG (fun x=>[iv (v x)]) n g')) Try.func96 B96 N96 Z96 L96 (by simp) ?_
 ·obtain ⟨w,H',h,rfl,g',r⟩:=key_;exact ⟨H',g',h,r⟩
 have hk:=KT.refl (H:=H) hc.1
 refine Zc<|Za rfl<|Zs (a:=(a:Int)) (b:=1) rfl rfl ⟨by omega,by omega⟩<|Za rfl<|Zb ?_
 refine Zt (fn:=Try.f96) ZiC N96 ZjQ (fun i:Nat=>[(0,.slice (some ⟨bd,0,none⟩) n cap),(1,iv (a:Int)),(2,iv (b:Int)),(3,.func (.func fc) #[] caps),(8,iv (i:Int))])
  (fun k i H'=>k=b+1 - i∧a+1≤i∧∃ g':Nat→Nat,PRm a (min i b) g g'∧So key a i g'∧KT bd H H'∧Cl H' bd (cG (fun x=>[iv (v x)]) n g')) _ (a+1) ⟨rfl,Nat.le_refl _,g,PRm.refl _ _ _,So.one,hk,hc⟩ ⟨rfl,rfl,rfl,rfl,ivq (by omega),trivial⟩ ?_
 rintro k i L1 ⟨rfl,hi1,gx1,hp,hs,hk,hc⟩
 refine Zc<|Za rfl<|Za rfl<|ZC (a:=(i:Int)) (b:=(b:Int)) rfl rfl<|Zb ?_
 refine And.intro (fun q1=>?_) (fun q1=>?_)
 ·have q1:(i:Int) < (b:Int):=of_decide_eq_true q1
  first | refine Zi ?_ | skip
  refine Zc<|Za rfl<|Za rfl<|Zb ?_
  rw [Nat.min_eq_left (by omega)] at hp
  have hib:i < b:=by omega
  refine Zt (fn:=Try.f96) Zh1 N96 ZjA (fun j:Nat=>[(0,.slice (some ⟨bd,0,none⟩) n cap),(1,iv (a:Int)),(2,iv (b:Int)),(3,.func (.func fc) #[] caps),(8,iv (i:Int)),(9,iv (j:Int))])
   (fun k j H'=>k=j+1∧∃ g':Nat→Nat,PRm a (i+1) g g'∧Inl key a i j g'∧KT bd H H'∧Cl H' bd (cG (fun x=>[iv (v x)]) n g')) _ i ⟨rfl,gx1,hp.mono (Nat.le_refl _) (by omega) (by omega),Inl.init hs (ZeI hp hid hib) (by omega),hk,hc⟩ ⟨rfl,rfl,rfl,rfl,rfl,rfl,trivial⟩ ?_
  rintro k j L2 ⟨rfl,gx2,hp,hin,hk,hc⟩
  have qaj:=hin.aj;have qji:=hin.ji;have hdm:=hp.dom hd (by omega)
  refine YF<|Ze rfl<|Ze rfl<|Q4 (a:=(j:Int)) (b:=(a:Int)) rfl rfl ?_
  intro t2 g2;cases t2
  ·have g2:¬ ((j:Int) > (a:Int)):=of_decide_eq_false g2
   refine Ze rfl<|ZE rfl<|ZE rfl<|ZE rfl<|ZE rfl<|ZE rfl<|ZE rfl<|ZE rfl<|ZE rfl<|ZE rfl<|ZE rfl<|ZE rfl<|ZE rfl<|Yl (v:=.bool false) rfl rfl ?_
   refine ZH (by repeat' first | exact True.intro | exact (fun h=>h) | refine And.intro ?_ ?_ | (intro h;have h:(_:Nat)=_:=h;omega)) ?_
   refine ZP ?_
   first | (refine Zz ?_;show wC _ _ _ _ _ _ _ _ _) | skip
   show Zl _ _ _ _ _ _ _ _
   refine Za rfl<|Zs (a:=(i:Int)) (b:=1) rfl rfl ⟨by omega,by omega⟩<|Za rfl<|Zb ?_
   exact ⟨_,i+1,by omega,⟨rfl,by omega,gx2,by rw [Nat.min_eq_left (by omega)];exact hp,hin.done (fun h=>by omega),hk,hc⟩,rfl,rfl,rfl,rfl,ivq (by omega),trivial⟩
  ·have g2:(j:Int) > (a:Int):=of_decide_eq_true g2
   refine Ze rfl ?_
   refine ZY rfl (Ze rfl ?_)
   refine ZY rfl (Ze rfl ?_)
   refine ZY rfl (Ze rfl ?_)
   refine ZY rfl (ZA (b:=bd) (o:=0) (k:=j) (j:=(j:Int)) rfl rfl (by omega) (by omega) ?_)
   refine ZY rfl (ZM (b:=bd) (o:=0+j * 1) (v:=iv (v (gx2 j))) rfl hc.rd (WQ (fun _=>rfl) (by omega) rfl) ?_)
   refine ZY rfl (Ze rfl ?_)
   refine ZY rfl (Ze rfl ?_)
   refine ZY rfl (Xm (a:=(j:Int)) (b:=1) rfl rfl ⟨by omega,by omega⟩ ?_)
   refine ZY rfl (ZA (b:=bd) (o:=0) (k:=j - 1) (j:=(j:Int) - 1) rfl rfl (by omega) (by omega) ?_)
   refine ZY rfl (ZM (b:=bd) (o:=0+(j - 1) * 1) (v:=iv (v (gx2 (j - 1)))) rfl hc.rd (WQ (fun _=>rfl) (by omega) rfl) ?_)
   obtain ⟨rH1,H1,fH1,kH1,qH1⟩:=hcmp L2 hk.kp (gx2 j) (gx2 (j - 1)) (hdm _ (by omega)) (hdm _ (by omega))
   refine ZY rfl (YC (vs:=[iv (v (gx2 j)),iv (v (gx2 (j - 1)))]) rfl fH1 ?_)
   have mH1:=kH1.1
   have hc:=kH1.cl hc (by simp)
   have hk:=hk.keep kH1
   refine ZY rfl (Jg (a:=rH1) (b:=0) rfl rfl ?_)
   intro t3 g3;cases t3
   ·have g3:¬ (rH1 < 0):=of_decide_eq_false g3
    refine Yl (v:=.bool false) rfl rfl ?_
    refine ZH (by repeat' first | exact True.intro | exact (fun h=>h) | refine And.intro ?_ ?_ | (intro h;have h:(_:Nat)=_:=h;omega)) ?_
    refine ZP ?_
    first | (refine Zz ?_;show wC _ _ _ _ _ _ _ _ _) | skip
    show Zl _ _ _ _ _ _ _ _
    refine Za rfl<|Zs (a:=(i:Int)) (b:=1) rfl rfl ⟨by omega,by omega⟩<|Za rfl<|Zb ?_
    exact ⟨_,i+1,by omega,⟨rfl,by omega,gx2,by rw [Nat.min_eq_left (by omega)];exact hp,hin.done (fun h=>by omega),hk,hc⟩,rfl,rfl,rfl,rfl,ivq (by omega),trivial⟩
   ·have g3:rH1 < 0:=of_decide_eq_true g3
    refine Yl (v:=.bool true) rfl rfl ?_
    refine ZH (by repeat' first | exact True.intro | exact (fun h=>h) | refine And.intro ?_ ?_ | (intro h;have h:(_:Nat)=_:=h;omega)) ?_
    refine Yz ?_
    first | refine Zi ?_ | skip
    first | refine Ye ?_ | refine Wu ?_ | refine Vw ?_ | (refine YY ?_;refine Ye ?_)
    refine Ze rfl<|Ze rfl<|Ze rfl<|Ze rfl<|Xm (a:=(j:Int)) (b:=1) rfl rfl ⟨by omega,by omega⟩<|Ze rfl<|Ze rfl<|Xm (a:=(j:Int)) (b:=1) rfl rfl ⟨by omega,by omega⟩<|ZA (b:=bd) (o:=0) (k:=j - 1) (j:=(j:Int) - 1) rfl rfl (by omega) (by omega)<|ZM (b:=bd) (o:=0+(j - 1) * 1) (v:=iv (v (gx2 (j - 1)))) rfl hc.rd (WQ (fun _=>rfl) (by omega) rfl)<|Ze rfl<|Ze rfl<|ZA (b:=bd) (o:=0) (k:=j) (j:=(j:Int)) rfl rfl (by omega) (by omega)<|ZM (b:=bd) (o:=0+j * 1) (v:=iv (v (gx2 j))) rfl hc.rd (WQ (fun _=>rfl) (by omega) rfl)<|ZA (b:=bd) (o:=0) (k:=j) (j:=(j:Int)) rfl rfl (by omega) (by omega)<|UA (b:=bd) (o:=0+j * 1) rfl rfl hc hlb rfl rfl (by rw [XO (z:=1) (fun _=>rfl)];omega) ?_
    intro H2 kH2 nH2 sH2 tH2
    have mH2:=kH2.1
    have hk:=hk.put kH2 tH2
    have hc:Cl H2 bd (cG (fun x=>[iv (v x)]) n (upd gx2 j (gx2 (j - 1)))):=by rw [← UJ (fun _=>rfl) (by omega) rfl];exact sH2
    refine ZA (b:=bd) (o:=0) (k:=j - 1) (j:=(j:Int) - 1) rfl rfl (by omega) (by omega)<|UA (b:=bd) (o:=0+(j - 1) * 1) rfl rfl hc hlb rfl rfl (by rw [XO (z:=1) (fun _=>rfl)];omega) ?_
    intro H3 kH3 nH3 sH3 tH3
    have mH3:=kH3.1
    have hk:=hk.put kH3 tH3
    have hc:Cl H3 bd (cG (fun x=>[iv (v x)]) n (upd (upd gx2 j (gx2 (j - 1))) (j - 1) (gx2 j))):=by rw [← UJ (fun _=>rfl) (by omega) rfl];exact sH3
    have hc:Cl H3 bd (cG (fun x=>[iv (v x)]) n (swp gx2 j (j - 1))):=hc
    refine ZH (by repeat' first | exact True.intro | exact (fun h=>h) | refine And.intro ?_ ?_ | (intro h;have h:(_:Nat)=_:=h;omega)) ?_
    show Zl _ _ _ _ _ _ _ _
    refine Za rfl<|Z4 (a:=(j:Int)) (b:=1) rfl rfl ⟨by omega,by omega⟩<|Za rfl<|Zb ?_
    exact ⟨_,j - 1,by omega,⟨rfl,_,hp.trans (PRm.swap (by omega) (by omega) (by omega) (by omega)),hin.step (by omega) (by omega),hk,hc⟩,rfl,rfl,rfl,rfl,rfl,ivq (by omega),trivial⟩
 ·have q1:¬ ((i:Int) < (b:Int)):=of_decide_eq_false q1
  first | (refine Zz ?_;show wC _ _ _ _ _ _ _ _ _) | skip
  exact And.intro trivial (Exists.intro _ (And.intro rfl ⟨rfl,gx1,by rw [Nat.min_eq_right (by omega)] at hp;exact hp,hs.mono (Nat.le_refl _) (by omega),hk,hc⟩))
end
end
end Go.Ax

/-
 Pool: sorting that keeps the order: merging in place (written by program).
-/
namespace Go.Ax
open Go Go.RowKit Go.Proofs

noncomputable section
noncomputable def R97v:RC:=(.seq (.seq (.reg [oM 25 2,oM 26 1,oS 27 .sub 25 26,oQ 28 .eql 27 1])
 (.cond (.tmp 28) (.seq (.reg [oM 29 2,oM 10 29])
 (.seq (.reg [oM 30 3,oM 11 30])
 (.seq (.block 0 (.other (at_ Try.f97 [0,1,0,1,1,0,0])))
 (.seq (.seq (.reg [oM 54 1,oM 13 54])
 (.block 2 (.other (at_ Try.f97 [0,1,0,1,1,1,0,1,0]))))
 .ret))))
 .skip))
 (.seq (.seq (.reg [oM 77 3,oM 78 2,oS 79 .sub 77 78,oQ 80 .eql 79 1])
 (.cond (.tmp 80) (.seq (.reg [oM 81 1,oM 14 81])
 (.seq (.reg [oM 82 2,oM 15 82])
 (.seq (.block 4 (.other (at_ Try.f97 [1,0,1,0,1,1,0,0])))
 (.seq (.seq (.reg [oM 107 2,oM 17 107])
 (.block 6 (.other (at_ Try.f97 [1,0,1,0,1,1,1,0,1,0]))))
 .ret))))
 .skip))
 (.seq (.reg [oM 129 1, oM 130 3, oS 131 .add 129 130, ⟨some 132, none, (.pur ⟨some 132, (.convert 3 109 (.tmp 131)), 109, "", #[], none⟩)⟩, ⟨some 133, none, (.pur ⟨some 133, (.binOp .shr 109 (.tmp 132) (.const (.int .u64 1)) 109), 109, "", #[], none⟩)⟩, ⟨some 134, none, (.pur ⟨some 134, (.convert 109 3 (.tmp 133)), 3, "", #[], none⟩)⟩, oM 18 134])
 (.seq (.reg [oM 135 18,oM 136 2,oS 137 .add 135 136,oM 19 137])
 (.seq (.reg [oN 20 0,oN 21 0])
 (.seq (.seq (.reg [oM 138 2,oM 139 18,⟨some 140,none,(.cmp .gtr (.tmp 138) (.tmp 139))⟩])
 (.cond (.tmp 140) (.seq (.reg [oM 141 19,oM 142 3,oS 143 .sub 141 142,oM 20 143])
 (.reg [oM 144 18,oM 21 144]))
 (.seq (.reg [oM 145 1,oM 20 145])
 (.reg [oM 146 2,oM 21 146]))))
 (.other (at_ Try.f97 [1,1,1,1,1,1]))))))))
theorem V97:LV Try.prog 220 (at_ Try.f97 []) R97v:=by
 have e:at_ Try.f97 []=(.seq (at_ Try.f97 [0]) (.seq (at_ Try.f97 [1,0]) (.seq (at_ Try.f97 [1,1,0]) (.seq (at_ Try.f97 [1,1,1,0]) (.seq (at_ Try.f97 [1,1,1,1,0]) (.seq (at_ Try.f97 [1,1,1,1,1,0]) (at_ Try.f97 [1,1,1,1,1,1]))))))):=by kernel_rfl
 rw [e]
 exact (.seq (.low (by kernel_rfl)) (.seq (.low (by kernel_rfl)) (.seq (.low (by kernel_rfl)) (.seq (.low (by kernel_rfl)) (.seq (.low (by kernel_rfl)) (.seq (.low (by kernel_rfl)) (.other _)))))))
noncomputable def R97Gv:RC:=(.seq (.reg [oM 147 19,oR 148 .sub 147 1,oM 22 148])
 (.seq (.block 8 (.other (at_ Try.f97 [1,1,1,1,1,1,1,0,0])))
 (.seq (.reg [oM 175 19,oM 176 20,oS 177 .sub 175 176,oM 24 177])
 (.seq (.other (at_ Try.f97 [1,1,1,1,1,1,1,1,1,0]))
 (.seq (.other (at_ Try.f97 [1,1,1,1,1,1,1,1,1,1,0]))
 (.other (at_ Try.f97 [1,1,1,1,1,1,1,1,1,1,1])))))))
theorem Zkf:LV Try.prog 220 (at_ Try.f97 [1,1,1,1,1,1]) R97Gv:=by
 have e:at_ Try.f97 [1,1,1,1,1,1]=(.seq (at_ Try.f97 [1,1,1,1,1,1,0]) (.seq (at_ Try.f97 [1,1,1,1,1,1,1,0]) (.seq (at_ Try.f97 [1,1,1,1,1,1,1,1,0]) (.seq (at_ Try.f97 [1,1,1,1,1,1,1,1,1,0]) (.seq (at_ Try.f97 [1,1,1,1,1,1,1,1,1,1,0]) (at_ Try.f97 [1,1,1,1,1,1,1,1,1,1,1])))))):=by kernel_rfl
 rw [e]
 exact (.seq (.low (by kernel_rfl)) (.seq (.low (by kernel_rfl)) (.seq (.low (by kernel_rfl)) (.seq (.other _) (.seq (.other _) (.other _))))))
noncomputable def R97A:RC:=(.seq (.reg [oM 178 20,oM 179 2,⟨some 180,none,(.cmpb .lss (.tmp 178) (.tmp 179))⟩,oM 181 180,oG 182 181 true 2,oG 183 181 true 24,⟨some 184,(some (181,true)),(.cmpb .lss (.tmp 182) (.tmp 183))⟩,oA 185 181 184])
 (.cond (.tmp 185) (.reg [oM 186 0,oM 187 20,oM 188 2,oM 189 24,oM 190 4,oC 191 104 #[(.tmp 186),(.tmp 187),(.tmp 188),(.tmp 189),(.tmp 190)] #[67,3,3,3,106]])
 .skip))
theorem Zkp:low Try.prog 220 (at_ Try.f97 [1,1,1,1,1,1,1,1,1,0])=some R97A:=by kernel_rfl
noncomputable def R97B:RC:=(.seq (.reg [oM 192 1,oM 193 20,⟨some 194,none,(.cmpb .lss (.tmp 192) (.tmp 193))⟩,oM 195 194,oG 196 195 true 20,oG 197 195 true 18,⟨some 198,(some (195,true)),(.cmpb .lss (.tmp 196) (.tmp 197))⟩,oA 199 195 198])
 (.cond (.tmp 199) (.reg [oM 200 0,oM 201 1,oM 202 20,oM 203 18,oM 204 4,oC 205 97 #[(.tmp 200),(.tmp 201),(.tmp 202),(.tmp 203),(.tmp 204)] #[67,3,3,3,106]])
 .skip))
theorem ZkJ:low Try.prog 220 (at_ Try.f97 [1,1,1,1,1,1,1,1,1,1,0])=some R97B:=by kernel_rfl
noncomputable def R97C:RC:=(.seq (.reg [oM 206 18,oM 207 24,⟨some 208,none,(.cmpb .lss (.tmp 206) (.tmp 207))⟩,oM 209 208,oG 210 209 true 24,oG 211 209 true 3,⟨some 212,(some (209,true)),(.cmpb .lss (.tmp 210) (.tmp 211))⟩,oA 213 209 212])
 (.cond (.tmp 213) (.reg [oM 214 0,oM 215 18,oM 216 24,oM 217 3,oM 218 4,oC 219 97 #[(.tmp 214),(.tmp 215),(.tmp 216),(.tmp 217),(.tmp 218)] #[67,3,3,3,106]])
 .skip))
theorem Zkg:low Try.prog 220 (at_ Try.f97 [1,1,1,1,1,1,1,1,1,1,1])=some R97C:=by kernel_rfl
section
variable {kn:Kn} {lo:Nat} {H:Hp}
set_option maxRecDepth 100000 in
set_option maxHeartbeats 2000000 in
theorem Zh2 {bd cap n:Nat} {g:Nat→Nat} {v:Nat→Int} {Hr:Hp} (hlb:lo≤bd) (hn:n≤1000000) (hlo:lo≤Hr.next) (hk:KT bd Hr H) (hc:Cl H bd (cG (fun x=>[iv (v x)]) n g)) {fc:FuncId} {caps:Array Value} {a m b mid s e:Nat} (hsm:s≤m) (hme:m≤e) (heb:e≤n) {S:Rg} {K:Exit→Rg→Hp→Prop} (hS:WB [(0,.slice (some ⟨bd,0,none⟩) n cap),(1,iv (a:Int)),(2,iv (m:Int)),(3,iv (b:Int)),(4,.func (.func fc) #[] caps),(18,iv (mid:Int)),(20,iv (s:Int)),(24,iv (e:Int))] S) (hN:∀ H' S',PRm s e g (rot g s m e)→KT bd Hr H'→Cl H' bd (cG (fun x=>[iv (v x)]) n (rot g s m e))→WB [(0,.slice (some ⟨bd,0,none⟩) n cap),(1,iv (a:Int)),(2,iv (m:Int)),(3,iv (b:Int)),(4,.func (.func fc) #[] caps),(18,iv (mid:Int)),(20,iv (s:Int)),(24,iv (e:Int))] S'→K .normal S' H'):Tri Try.prog kn lo 220 false (at_ Try.f97 [1,1,1,1,1,1,1,1,1,0]) S H K:=by
 refine WZ Zkp hS ?_
 refine Zc<|Za rfl<|Za rfl<|Xh (a:=(s:Int)) (b:=(m:Int)) rfl rfl ?_
 intro t1 g1;cases t1
 ·have g1:¬ ((s:Int) < (m:Int)):=of_decide_eq_false g1
  refine Za rfl<|Zm rfl<|Zm rfl<|Zm rfl<|Zg (v:=.bool false) rfl rfl<|Zb<|ZP ?_
  first | refine Zi ?_ | skip
  have er:=Jc (g:=g) (s:=s) (m:=m) (e:=e) (by omega) (by omega) (by omega)
  exact hN _ _ (by rw [er];exact PRm.refl _ _ _) hk (by rw [er];exact hc) ⟨rfl,rfl,rfl,rfl,rfl,rfl,rfl,rfl,trivial⟩
 ·have g1:(s:Int) < (m:Int):=of_decide_eq_true g1
  refine Za rfl ?_
  refine ZF rfl (Za rfl ?_)
  refine ZF rfl (Za rfl ?_)
  refine ZF rfl (Xh (a:=(m:Int)) (b:=(e:Int)) rfl rfl ?_)
  intro t2 g2;cases t2
  ·have g2:¬ ((m:Int) < (e:Int)):=of_decide_eq_false g2
   refine Zg (v:=.bool false) rfl rfl<|Zb<|ZP ?_
   first | refine Zi ?_ | skip
   have er:=Jc (g:=g) (s:=s) (m:=m) (e:=e) (by omega) (by omega) (by omega)
   exact hN _ _ (by rw [er];exact PRm.refl _ _ _) hk (by rw [er];exact hc) ⟨rfl,rfl,rfl,rfl,rfl,rfl,rfl,rfl,trivial⟩
  ·have g2:(m:Int) < (e:Int):=of_decide_eq_true g2
   refine Zg (v:=.bool true) rfl rfl<|Zb<|Yz ?_
   show Zl _ _ _ _ _ _ _ _
   refine Za rfl<|Za rfl<|Za rfl<|Za rfl<|Za rfl ?_
   obtain ⟨H1,fH1,pH1,kH1,cH1⟩:=Ze1 (kn:=kn) (lo:=lo) (H:=H) (by have:=hk.1;omega) hlb hn (cap:=cap) hc (cv:=.func (.func fc) #[] caps) (a:=s) (m:=m) (b:=e) (by omega) (by omega) (by omega)
   refine Zu (vs:=[.slice (some ⟨bd,0,none⟩) n cap,iv (s:Int),iv (m:Int),iv (e:Int),.func (.func fc) #[] caps]) rfl (Zh fH1) ?_
   have mH1:=kH1.1
   have hk:=hk.trans kH1
   have hc:=cH1
   refine Zb ?_
   exact hN _ _ pH1 hk hc ⟨rfl,rfl,rfl,rfl,rfl,rfl,rfl,rfl,trivial⟩
set_option maxRecDepth 100000 in
set_option maxHeartbeats 2000000 in
theorem ZhT {bd cap n:Nat} {g:Nat→Nat} {v:Nat→Int} {Hr:Hp} (hlb:lo≤bd) (hn:n≤1000000) (hlo:lo≤Hr.next) (hk:KT bd Hr H) (hc:Cl H bd (cG (fun x=>[iv (v x)]) n g)) {fc:FuncId} {caps:Array Value} {M a m b mid s e:Nat} {key:Nat→Int} (ih:∀ (H1:Hp) (a m b:Nat) (g:Nat→Nat),KT bd Hr H1→a < m→m < b→b≤n→b - a < M→(∀ k,k < n→g k < n)→So key a m g→So key m b g→Cr a m b g→Cl H1 bd (cG (fun x=>[iv (v x)]) n g)→∃ H' g',FnX Try.prog kn lo 97 [.slice (some ⟨bd,0,none⟩) n cap,iv (a:Int),iv (m:Int),iv (b:Int),.func (.func fc) #[] caps] H1 (.tuple #[]) H'∧PRm a b g g'∧So key a b g'∧KT bd H1 H'∧Cl H' bd (cG (fun x=>[iv (v x)]) n g')) (h1:a≤s) (h2:s≤mid) (hz:mid≤n) (hM:mid - a < M) (hd:∀ k,k < n→g k < n) (hp1:So key a s g) (hp2:So key s mid g) (hcr:Cr a s mid g) {S:Rg} {K:Exit→Rg→Hp→Prop} (hS:WB [(0,.slice (some ⟨bd,0,none⟩) n cap),(1,iv (a:Int)),(2,iv (m:Int)),(3,iv (b:Int)),(4,.func (.func fc) #[] caps),(18,iv (mid:Int)),(20,iv (s:Int)),(24,iv (e:Int))] S) (hN:∀ H' S' g',PRm a mid g g'→So key a mid g'→KT bd Hr H'→Cl H' bd (cG (fun x=>[iv (v x)]) n g')→WB [(0,.slice (some ⟨bd,0,none⟩) n cap),(1,iv (a:Int)),(2,iv (m:Int)),(3,iv (b:Int)),(4,.func (.func fc) #[] caps),(18,iv (mid:Int)),(20,iv (s:Int)),(24,iv (e:Int))] S'→K .normal S' H'):Tri Try.prog kn lo 220 false (at_ Try.f97 [1,1,1,1,1,1,1,1,1,1,0]) S H K:=by
 refine WZ ZkJ hS ?_
 refine Zc<|Za rfl<|Za rfl<|Xh (a:=(a:Int)) (b:=(s:Int)) rfl rfl ?_
 intro t1 g1;cases t1
 ·have g1:¬ ((a:Int) < (s:Int)):=of_decide_eq_false g1
  refine Za rfl<|Zm rfl<|Zm rfl<|Zm rfl<|Zg (v:=.bool false) rfl rfl<|Zb<|ZP ?_
  first | refine Zi ?_ | skip
  exact hN _ _ g (PRm.refl _ _ _) (by rcases Nat.lt_or_ge a s with c | c;exact hp1.mono (Nat.le_refl _) (by omega);exact hp2.mono (by omega) (Nat.le_refl _)) hk hc ⟨rfl,rfl,rfl,rfl,rfl,rfl,rfl,rfl,trivial⟩
 ·have g1:(a:Int) < (s:Int):=of_decide_eq_true g1
  refine Za rfl ?_
  refine ZF rfl (Za rfl ?_)
  refine ZF rfl (Za rfl ?_)
  refine ZF rfl (Xh (a:=(s:Int)) (b:=(mid:Int)) rfl rfl ?_)
  intro t2 g2;cases t2
  ·have g2:¬ ((s:Int) < (mid:Int)):=of_decide_eq_false g2
   refine Zg (v:=.bool false) rfl rfl<|Zb<|ZP ?_
   first | refine Zi ?_ | skip
   exact hN _ _ g (PRm.refl _ _ _) (by rcases Nat.lt_or_ge a s with c | c;exact hp1.mono (Nat.le_refl _) (by omega);exact hp2.mono (by omega) (Nat.le_refl _)) hk hc ⟨rfl,rfl,rfl,rfl,rfl,rfl,rfl,rfl,trivial⟩
  ·have g2:(s:Int) < (mid:Int):=of_decide_eq_true g2
   refine Zg (v:=.bool true) rfl rfl<|Zb<|Yz ?_
   show Zl _ _ _ _ _ _ _ _
   refine Za rfl<|Za rfl<|Za rfl<|Za rfl<|Za rfl ?_
   obtain ⟨H1,gH1,fH1,pH1,sH1,kH1,cH1⟩:=ih H a s mid g hk (by omega) (by omega) (by omega) (by omega) hd hp1 hp2 hcr hc
   refine Zu (vs:=[.slice (some ⟨bd,0,none⟩) n cap,iv (a:Int),iv (s:Int),iv (mid:Int),.func (.func fc) #[] caps]) rfl (Zh fH1) ?_
   have mH1:=kH1.1
   have hk:=hk.trans kH1
   have hc:=cH1
   refine Zb ?_
   exact hN _ _ _ pH1 sH1 hk hc ⟨rfl,rfl,rfl,rfl,rfl,rfl,rfl,rfl,trivial⟩
set_option maxRecDepth 100000 in
set_option maxHeartbeats 2000000 in
theorem ZhU {bd cap n:Nat} {g:Nat→Nat} {v:Nat→Int} {Hr:Hp} (hlb:lo≤bd) (hn:n≤1000000) (hlo:lo≤Hr.next) (hk:KT bd Hr H) (hc:Cl H bd (cG (fun x=>[iv (v x)]) n g)) {fc:FuncId} {caps:Array Value} {M a m b mid s e:Nat} {key:Nat→Int} (ih:∀ (H1:Hp) (a m b:Nat) (g:Nat→Nat),KT bd Hr H1→a < m→m < b→b≤n→b - a < M→(∀ k,k < n→g k < n)→So key a m g→So key m b g→Cr a m b g→Cl H1 bd (cG (fun x=>[iv (v x)]) n g)→∃ H' g',FnX Try.prog kn lo 97 [.slice (some ⟨bd,0,none⟩) n cap,iv (a:Int),iv (m:Int),iv (b:Int),.func (.func fc) #[] caps] H1 (.tuple #[]) H'∧PRm a b g g'∧So key a b g'∧KT bd H1 H'∧Cl H' bd (cG (fun x=>[iv (v x)]) n g')) (h1:mid≤e) (h2:e≤b) (hz:b≤n) (hM:b - mid < M) (hd:∀ k,k < n→g k < n) (hp1:So key mid e g) (hp2:So key e b g) (hcr:Cr mid e b g) {S:Rg} {K:Exit→Rg→Hp→Prop} (hS:WB [(0,.slice (some ⟨bd,0,none⟩) n cap),(1,iv (a:Int)),(2,iv (m:Int)),(3,iv (b:Int)),(4,.func (.func fc) #[] caps),(18,iv (mid:Int)),(20,iv (s:Int)),(24,iv (e:Int))] S) (hN:∀ H' S' g',PRm mid b g g'→So key mid b g'→KT bd Hr H'→Cl H' bd (cG (fun x=>[iv (v x)]) n g')→WB [(0,.slice (some ⟨bd,0,none⟩) n cap),(1,iv (a:Int)),(2,iv (m:Int)),(3,iv (b:Int)),(4,.func (.func fc) #[] caps),(18,iv (mid:Int)),(20,iv (s:Int)),(24,iv (e:Int))] S'→K .normal S' H'):Tri Try.prog kn lo 220 false (at_ Try.f97 [1,1,1,1,1,1,1,1,1,1,1]) S H K:=by
 refine WZ Zkg hS ?_
 refine Zc<|Za rfl<|Za rfl<|Xh (a:=(mid:Int)) (b:=(e:Int)) rfl rfl ?_
 intro t1 g1;cases t1
 ·have g1:¬ ((mid:Int) < (e:Int)):=of_decide_eq_false g1
  refine Za rfl<|Zm rfl<|Zm rfl<|Zm rfl<|Zg (v:=.bool false) rfl rfl<|Zb<|ZP ?_
  first | refine Zi ?_ | skip
  exact hN _ _ g (PRm.refl _ _ _) (by rcases Nat.lt_or_ge mid e with c | c;exact hp1.mono (Nat.le_refl _) (by omega);exact hp2.mono (by omega) (Nat.le_refl _)) hk hc ⟨rfl,rfl,rfl,rfl,rfl,rfl,rfl,rfl,trivial⟩
 ·have g1:(mid:Int) < (e:Int):=of_decide_eq_true g1
  refine Za rfl ?_
  refine ZF rfl (Za rfl ?_)
  refine ZF rfl (Za rfl ?_)
  refine ZF rfl (Xh (a:=(e:Int)) (b:=(b:Int)) rfl rfl ?_)
  intro t2 g2;cases t2
  ·have g2:¬ ((e:Int) < (b:Int)):=of_decide_eq_false g2
   refine Zg (v:=.bool false) rfl rfl<|Zb<|ZP ?_
   first | refine Zi ?_ | skip
   exact hN _ _ g (PRm.refl _ _ _) (by rcases Nat.lt_or_ge mid e with c | c;exact hp1.mono (Nat.le_refl _) (by omega);exact hp2.mono (by omega) (Nat.le_refl _)) hk hc ⟨rfl,rfl,rfl,rfl,rfl,rfl,rfl,rfl,trivial⟩
  ·have g2:(e:Int) < (b:Int):=of_decide_eq_true g2
   refine Zg (v:=.bool true) rfl rfl<|Zb<|Yz ?_
   show Zl _ _ _ _ _ _ _ _
   refine Za rfl<|Za rfl<|Za rfl<|Za rfl<|Za rfl ?_
   obtain ⟨H1,gH1,fH1,pH1,sH1,kH1,cH1⟩:=ih H mid e b g hk (by omega) (by omega) (by omega) (by omega) hd hp1 hp2 hcr hc
   refine Zu (vs:=[.slice (some ⟨bd,0,none⟩) n cap,iv (mid:Int),iv (e:Int),iv (b:Int),.func (.func fc) #[] caps]) rfl (Zh fH1) ?_
   have mH1:=kH1.1
   have hk:=hk.trans kH1
   have hc:=cH1
   refine Zb ?_
   exact hN _ _ _ pH1 sH1 hk hc ⟨rfl,rfl,rfl,rfl,rfl,rfl,rfl,rfl,trivial⟩
set_option maxRecDepth 100000 in
set_option maxHeartbeats 2000000 in
theorem Zgz {bd cap n:Nat} {g:Nat→Nat} {v:Nat→Int} {Hr:Hp} (hlb:lo≤bd) (hn:n≤1000000) (hlo:lo≤Hr.next) (hk:KT bd Hr H) (hc:Cl H bd (cG (fun x=>[iv (v x)]) n g)) {fc:FuncId} {caps:Array Value} {M a m b mid nn s0 r0:Nat} {key:Nat→Int} (ih:∀ (H1:Hp) (a m b:Nat) (g:Nat→Nat),KT bd Hr H1→a < m→m < b→b≤n→b - a < M→(∀ k,k < n→g k < n)→So key a m g→So key m b g→Cr a m b g→Cl H1 bd (cG (fun x=>[iv (v x)]) n g)→∃ H' g',FnX Try.prog kn lo 97 [.slice (some ⟨bd,0,none⟩) n cap,iv (a:Int),iv (m:Int),iv (b:Int),.func (.func fc) #[] caps] H1 (.tuple #[]) H'∧PRm a b g g'∧So key a b g'∧KT bd H1 H'∧Cl H' bd (cG (fun x=>[iv (v x)]) n g')) (hcmp:Uh Try.prog kn lo bd fc caps (fun x=>iv (v x)) n key Hr) (ham:a < m) (hmb:m < b) (hb:b≤n) (hM:b - a≤M) (hmid:mid=(a+b) / 2) (hnn:nn=mid+m) (hs0:(mid < m∧s0+b=nn∧r0=mid)∨(m≤mid∧s0=a∧r0=m)) (h2:2≤m - a) (hd:∀ k,k < n→g k < n) (hp1:So key a m g) (hp2:So key m b g) (hcr:Cr a m b g) {S:Rg} {K:Exit→Rg→Hp→Prop} (hS:WB [(0,.slice (some ⟨bd,0,none⟩) n cap),(1,iv (a:Int)),(2,iv (m:Int)),(3,iv (b:Int)),(4,.func (.func fc) #[] caps),(18,iv (mid:Int)),(19,iv (nn:Int)),(20,iv (s0:Int)),(21,iv (r0:Int))] S) (hN:∀ H' S' g',PRm a b g g'→So key a b g'→KT bd Hr H'→Cl H' bd (cG (fun x=>[iv (v x)]) n g')→K .normal S' H'):Tri Try.prog kn lo 220 false (at_ Try.f97 [1,1,1,1,1,1]) S H K:=by
 refine Zc4 Zkf hS ?_
 refine Zc<|Za rfl<|Z4 (a:=(nn:Int)) (b:=1) rfl rfl ⟨by omega,by omega⟩<|Za rfl<|Zb ?_
 obtain ⟨pp,hpp⟩:∃ pp,pp+1=nn:=⟨nn - 1,by omega⟩
 refine Zt (fn:=Try.f97) Zj2 N97 ZiF (fun x:Nat × Nat=>[(0,.slice (some ⟨bd,0,none⟩) n cap),(1,iv (a:Int)),(2,iv (m:Int)),(3,iv (b:Int)),(4,.func (.func fc) #[] caps),(18,iv (mid:Int)),(19,iv (nn:Int)),(20,iv (x.1:Int)),(21,iv (x.2:Int)),(22,iv (pp:Int))])
  (fun k x H'=>k=x.2 - x.1∧s0≤x.1∧x.1≤x.2∧x.2≤r0∧(x.1=s0∨¬ key (g (pp - (x.1 - 1))) < key (g (x.1 - 1)))∧(x.2=r0∨key (g (pp - x.2)) < key (g x.2))∧KT bd Hr H'∧Cl H' bd (cG (fun x=>[iv (v x)]) n g)) _ (s0,r0) ⟨rfl,Nat.le_refl _,by simp only [];omega,Nat.le_refl _,.inl rfl,.inl rfl,hk,hc⟩ ⟨rfl,rfl,rfl,rfl,rfl,rfl,rfl,rfl,rfl,ivq (by omega),trivial⟩ ?_
 rintro k ⟨s,r⟩ L1 ⟨rfl,hs1,hs2,hs3,hlw,hup,hk,hc⟩
 simp only [] at hs1 hs2 hs3 hlw hup
 have hdm:=hd
 refine Zc<|Za rfl<|Za rfl<|ZC (a:=(s:Int)) (b:=(r:Int)) rfl rfl<|Zb ?_
 refine And.intro (fun q1=>?_) (fun q1=>?_)
 ·have q1:(s:Int) < (r:Int):=of_decide_eq_true q1
  first | refine Zi ?_ | skip
  refine Zc<|Za rfl<|Za rfl<|Zs (a:=(s:Int)) (b:=(r:Int)) rfl rfl ⟨by omega,by omega⟩ ?_
  obtain ⟨h1,eh1⟩:∃ h:Nat,h=(s+r) / 2:=⟨_,rfl⟩
  refine Zg (v:=.int .u64 ((s+r:Nat):Int)) rfl (zC (n:=s+r) (j:=(s:Int)+(r:Int)) (by omega) rfl (by omega))<|Zg (v:=.int .u64 ((h1:Nat):Int)) rfl (by rw [eh1];exact Qg (m:=s+r) (d:=1) (by decide) rfl rfl)<|Zg (v:=iv (h1:Int)) rfl (ju (n:=h1) (j:=(h1:Int)) (by omega) rfl rfl)<|Za rfl<|Zb<|YF<|Ze rfl<|Ze rfl<|Ze rfl<|Ze rfl<|Xm (a:=(pp:Int)) (b:=(h1:Int)) rfl rfl ⟨by omega,by omega⟩<|ZA (b:=bd) (o:=0) (k:=pp - h1) (j:=(pp:Int) - (h1:Int)) rfl rfl (by omega) (by omega)<|ZM (b:=bd) (o:=0+(pp - h1) * 1) (v:=iv (v (g (pp - h1)))) rfl hc.rd (WQ (fun _=>rfl) (by omega) rfl)<|Ze rfl<|Ze rfl<|ZA (b:=bd) (o:=0) (k:=h1) (j:=(h1:Int)) rfl rfl (by omega) (by omega)<|ZM (b:=bd) (o:=0+h1 * 1) (v:=iv (v (g h1))) rfl hc.rd (WQ (fun _=>rfl) (by omega) rfl) ?_
  obtain ⟨rH1,H1,fH1,kH1,qH1⟩:=hcmp L1 hk.kp (g (pp - h1)) (g h1) (hdm _ (by omega)) (hdm _ (by omega))
  refine YC (vs:=[iv (v (g (pp - h1))),iv (v (g h1))]) rfl fH1 ?_
  have mH1:=kH1.1
  have hc:=kH1.cl hc (by simp)
  have hk:=hk.keep kH1
  refine Vd (a:=rH1) (b:=0) rfl rfl<|Yl (v:=.bool (!(decide (rH1 < 0)))) rfl rfl ?_
  refine ZH (by repeat' first | exact True.intro | exact (fun h=>h) | refine And.intro ?_ ?_ | (intro h;have h:(_:Nat)=_:=h;omega)) ?_
  refine And.intro (fun q2=>?_) (fun q2=>?_)
  ·have q2:¬ (rH1 < 0):=by simpa using q2
   show Zl _ _ _ _ _ _ _ _
   refine Za rfl<|Zs (a:=(h1:Int)) (b:=1) rfl rfl ⟨by omega,by omega⟩<|Za rfl<|Zb ?_
   exact ⟨_,(h1+1,r),by simp only [];omega,⟨rfl,by simp only [];omega,by simp only [];omega,hs3,.inr (by simp only [];rw [show h1+1 - 1=h1 by omega];exact fun hh=>by have:=qH1.2 hh;omega),hup,hk,hc⟩,rfl,rfl,rfl,rfl,rfl,rfl,rfl,ivq (by simp only [];omega),rfl,rfl,trivial⟩
  ·have q2:¬ (¬ (rH1 < 0)):=by simpa using q2
   show Zl _ _ _ _ _ _ _ _
   refine Za rfl<|Za rfl<|Zb ?_
   exact ⟨_,(s,h1),by simp only [];omega,⟨rfl,hs1,by simp only [];omega,by simp only [];omega,hlw,.inr (qH1.1 (by omega)),hk,hc⟩,rfl,rfl,rfl,rfl,rfl,rfl,rfl,rfl,ivq (by simp only []),rfl,trivial⟩
 ·have q1:¬ ((s:Int) < (r:Int)):=of_decide_eq_false q1
  first | (refine Zz ?_;show wC _ _ _ _ _ _ _ _ _) | skip
  refine Zc<|Za rfl<|Za rfl<|Z4 (a:=(nn:Int)) (b:=(s:Int)) rfl rfl ⟨by omega,by omega⟩<|Za rfl<|Zb ?_
  obtain rfl:s=r:=by omega
  obtain ⟨e,he⟩:∃ e,e+s=nn:=⟨nn - s,by omega⟩
  have hcut:ZhG key a m b s e g:=by
   refine ⟨by omega,by omega,by omega,by omega,?_,?_⟩
   ·by_cases z:s=s0
    ·rcases hs0 with ⟨z1,z2,z3⟩ | ⟨z1,z2,z3⟩
     ·exact .inr (.inl (by omega))
     ·exact .inl (by omega)
    ·have y:=hlw.resolve_left z
     rw [show pp - (s - 1)=e by omega] at y
     exact .inr (.inr (.of_not y (hcr (s - 1) e (by omega) (by omega) (by omega) (by omega))))
   ·by_cases z:s=r0
    ·rcases hs0 with ⟨z1,z2,z3⟩ | ⟨z1,z2,z3⟩
     ·exact .inr (.inl (by omega))
     ·exact .inl (by omega)
    ·have y:=hup.resolve_left z
     rw [show pp - s=e - 1 by omega] at y
     exact .inr (.inr (.lt y))
  have hpt:=ZbX hp1 hp2 hcr hcut
  rw [show s+(e - m)=mid by have:=hcut.me;omega] at hpt
  have hbe:=hcut.eb;have hbm:=hcut.sm;have hbl:=hcut.l;have hbn:=hcut.me
  refine Zh2 hlb hn hlo hk hc (mid:=mid) (b:=b) hbm hbn (by omega) (by exact ⟨rfl,rfl,rfl,rfl,rfl,rfl,rfl,ivq (by omega),trivial⟩) ?_
  intro HA SA_ pA kA cA sA
  have pA2:=pA.mono hbl (by omega) hbe
  have hdA:=pA2.dom hd hb
  refine ZhT hlb hn hlo kA cA ih (by omega) (by omega) (by omega) (by omega) hdA hpt.p1 hpt.p2 hpt.c1 sA ?_
  intro HB SB gB pB oB kB cB sB
  have hdB:=pB.dom hdA (by omega)
  obtain ⟨r1,r2,r3⟩:=hpt.right pB (by omega)
  refine ZhU hlb hn hlo kB cB ih (by omega) (by omega) hb (by omega) hdB r1 r2 r3 sB ?_
  intro HC SC gC pC oC kC cC sC
  exact hN _ _ gC (pA2.trans ((pB.mono (Nat.le_refl _) (by omega) (by omega)).trans (pC.mono (by omega) (by omega) (Nat.le_refl _)))) (hpt.done (by omega) (by omega) pB oB pC oC) kC cC
set_option maxRecDepth 100000 in
set_option maxHeartbeats 2000000 in
theorem ZcY (hlo:lo≤H.next) {bd cap n M:Nat} {g:Nat→Nat} {v:Nat→Int} {Hr:Hp} (hlb:lo≤bd) (hn:n≤1000000) (hk0:KT bd Hr H) (hc:Cl H bd (cG (fun x=>[iv (v x)]) n g)) {fc:FuncId} {caps:Array Value} {key:Nat→Int} (ih:∀ (H1:Hp) (a m b:Nat) (g:Nat→Nat),KT bd Hr H1→a < m→m < b→b≤n→b - a < M→(∀ k,k < n→g k < n)→So key a m g→So key m b g→Cr a m b g→Cl H1 bd (cG (fun x=>[iv (v x)]) n g)→∃ H' g',FnX Try.prog kn lo 97 [.slice (some ⟨bd,0,none⟩) n cap,iv (a:Int),iv (m:Int),iv (b:Int),.func (.func fc) #[] caps] H1 (.tuple #[]) H'∧PRm a b g g'∧So key a b g'∧KT bd H1 H'∧Cl H' bd (cG (fun x=>[iv (v x)]) n g')) (hcmp0:Uh Try.prog kn lo bd fc caps (fun x=>iv (v x)) n key Hr) {a m b:Nat} (ham:a < m) (hmb:m < b) (hb:b≤n) (hM:b - a≤M) (hd:∀ k,k < n→g k < n) (hp1:So key a m g) (hp2:So key m b g) (hcr:Cr a m b g) :
  ∃ H' g',FnX Try.prog kn lo 97 [.slice (some ⟨bd,0,none⟩) n cap,iv (a:Int),iv (m:Int),iv (b:Int),.func (.func fc) #[] caps] H (.tuple #[]) H'∧PRm a b g g'∧So key a b g'∧KT bd H H'∧Cl H' bd (cG (fun x=>[iv (v x)]) n g'):=by
 have key_:=Zed (kn:=kn) (lo:=lo) (H:=H) (args:=[.slice (some ⟨bd,0,none⟩) n cap,iv (a:Int),iv (m:Int),iv (b:Int),.func (.func fc) #[] caps]) (Q:=fun w H'=>w=.tuple #[]∧∃ g',PRm a b g g'∧So key a b g'∧KT bd H H'∧Cl H' bd (cG (fun x=>[iv (v x)]) n g')) Try.func97 B97 N97 Z97 V97 (by simp) ?_
 ·obtain ⟨w,H',h,rfl,g',r⟩:=key_;exact ⟨H',g',h,r⟩
 have hk:=KT.refl (H:=H) hc.1
 have hcmp:=hcmp0.from hk0.kp
 refine Zc<|Za rfl<|Za rfl<|Z4 (a:=(m:Int)) (b:=(a:Int)) rfl rfl ⟨by omega,by omega⟩<|VJ (a:=(m:Int) - (a:Int)) (b:=1) rfl rfl<|Zb ?_
 refine And.intro (fun q1=>?_) (fun q1=>?_)
 ·have q1:((m:Int) - (a:Int))=1:=by simpa using q1
  refine Zc<|Za rfl<|Za rfl<|Zb<|Zc<|Za rfl<|Za rfl<|Zb ?_
  refine Zt (fn:=Try.f97) Zjx N97 Zig (fun x:Nat × Nat=>[(0,.slice (some ⟨bd,0,none⟩) n cap),(1,iv (a:Int)),(2,iv (m:Int)),(3,iv (b:Int)),(4,.func (.func fc) #[] caps),(10,iv (x.1:Int)),(11,iv (x.2:Int))])
   (fun k x H'=>k=x.2 - x.1∧m≤x.1∧x.1≤x.2∧x.2≤b∧(∀ p,m≤p→p < x.1→key (g p) < key (g a))∧(∀ p,x.2≤p→p < b→¬ key (g p) < key (g a))∧KT bd H H'∧Cl H' bd (cG (fun x=>[iv (v x)]) n g)) _ (m,b) ⟨rfl,Nat.le_refl _,by simp only [];omega,Nat.le_refl _,fun p p1 p2=>absurd p2 (by simp only [];omega),fun p p1 p2=>absurd p2 (by simp only [] at p1;omega),hk,hc⟩ ⟨rfl,rfl,rfl,rfl,rfl,rfl,rfl,trivial⟩ ?_
  rintro k ⟨i,j⟩ L1 ⟨rfl,hi1,hi2,hi3,hlw,hup,hk,hc⟩
  simp only [] at hi1 hi2 hi3 hlw hup
  have hdm:=hd
  refine Zc<|Za rfl<|Za rfl<|ZC (a:=(i:Int)) (b:=(j:Int)) rfl rfl<|Zb ?_
  refine And.intro (fun q2=>?_) (fun q2=>?_)
  ·have q2:(i:Int) < (j:Int):=of_decide_eq_true q2
   first | refine Zi ?_ | skip
   refine Zc<|Za rfl<|Za rfl<|Zs (a:=(i:Int)) (b:=(j:Int)) rfl rfl ⟨by omega,by omega⟩ ?_
   obtain ⟨h2,eh2⟩:∃ h:Nat,h=(i+j) / 2:=⟨_,rfl⟩
   refine Zg (v:=.int .u64 ((i+j:Nat):Int)) rfl (zC (n:=i+j) (j:=(i:Int)+(j:Int)) (by omega) rfl (by omega))<|Zg (v:=.int .u64 ((h2:Nat):Int)) rfl (by rw [eh2];exact Qg (m:=i+j) (d:=1) (by decide) rfl rfl)<|Zg (v:=iv (h2:Int)) rfl (ju (n:=h2) (j:=(h2:Int)) (by omega) rfl rfl)<|Za rfl<|Zb<|YF<|Ze rfl<|Ze rfl<|Ze rfl<|ZA (b:=bd) (o:=0) (k:=h2) (j:=(h2:Int)) rfl rfl (by omega) (by omega)<|ZM (b:=bd) (o:=0+h2 * 1) (v:=iv (v (g h2))) rfl hc.rd (WQ (fun _=>rfl) (by omega) rfl)<|Ze rfl<|Ze rfl<|ZA (b:=bd) (o:=0) (k:=a) (j:=(a:Int)) rfl rfl (by omega) (by omega)<|ZM (b:=bd) (o:=0+a * 1) (v:=iv (v (g a))) rfl hc.rd (WQ (fun _=>rfl) (by omega) rfl) ?_
   obtain ⟨rH1,H1,fH1,kH1,qH1⟩:=hcmp L1 hk.kp (g h2) (g a) (hdm _ (by omega)) (hdm _ (by omega))
   refine YC (vs:=[iv (v (g h2)),iv (v (g a))]) rfl fH1 ?_
   have mH1:=kH1.1
   have hc:=kH1.cl hc (by simp)
   have hk:=hk.keep kH1
   refine Vd (a:=rH1) (b:=0) rfl rfl ?_
   refine ZH (by repeat' first | exact True.intro | exact (fun h=>h) | refine And.intro ?_ ?_ | (intro h;have h:(_:Nat)=_:=h;omega)) ?_
   refine And.intro (fun q3=>?_) (fun q3=>?_)
   ·have q3:rH1 < 0:=of_decide_eq_true q3
    show Zl _ _ _ _ _ _ _ _
    refine Za rfl<|Zs (a:=(h2:Int)) (b:=1) rfl rfl ⟨by omega,by omega⟩<|Za rfl<|Zb ?_
    exact ⟨_,(h2+1,j),by simp only [];omega,⟨rfl,by simp only [];omega,by simp only [];omega,hi3,fun p p1 p2=>by have z:=qH1.1 (by omega);have y:=hp2.le (i:=p) (j:=h2) (by omega) (by omega) (by omega);omega,hup,hk,hc⟩,rfl,rfl,rfl,rfl,rfl,ivq (by simp only [];omega),rfl,trivial⟩
   ·have q3:¬ (rH1 < 0):=of_decide_eq_false q3
    show Zl _ _ _ _ _ _ _ _
    refine Za rfl<|Za rfl<|Zb ?_
    exact ⟨_,(i,h2),by simp only [];omega,⟨rfl,hi1,by simp only [];omega,by simp only [];omega,hlw,fun p p1 p2 hh=>by have y:=hp2.le (i:=h2) (j:=p) (by omega) p1 (by omega);have z:=qH1.2 (by omega);omega,hk,hc⟩,rfl,rfl,rfl,rfl,rfl,rfl,ivq (by simp only []),trivial⟩
  ·have q2:¬ ((i:Int) < (j:Int)):=of_decide_eq_false q2
   first | (refine Zz ?_;show wC _ _ _ _ _ _ _ _ _) | skip
   refine Zc<|Za rfl<|Za rfl<|Zb ?_
   obtain rfl:i=j:=by omega
   obtain rfl:m=a+1:=by omega
   refine Zt (fn:=Try.f97) ZiM N97 Ziy (fun t:Nat=>[(0,.slice (some ⟨bd,0,none⟩) n cap),(10,iv (i:Int)),(13,iv (t:Int))])
    (fun k t H'=>k+t=i - 1∧a≤t∧PRm a b g (mvR g a t)∧KT bd H H'∧Cl H' bd (cG (fun x=>[iv (v x)]) n (mvR g a t))) (i - 1 - a) a ⟨by omega,Nat.le_refl _,by rw [Jq];exact PRm.refl _ _ _,hk,by rw [Jq];exact hc⟩ ⟨rfl,rfl,rfl,trivial⟩ ?_
   rintro k t L2 ⟨hkt,ht,hp,hk,hc⟩
   refine Zc<|Za rfl<|Za rfl<|Z4 (a:=(i:Int)) (b:=1) rfl rfl ⟨by omega,by omega⟩<|ZC (a:=(t:Int)) (b:=(i:Int) - 1) rfl rfl<|Zb ?_
   refine And.intro (fun q4=>?_) (fun q4=>?_)
   ·have q4:(t:Int) < ((i:Int) - 1):=of_decide_eq_true q4
    first | refine Zi ?_ | skip
    first | refine Ye ?_ | refine Wu ?_ | refine Vw ?_ | (refine YY ?_;refine Ye ?_)
    refine Ze rfl<|Ze rfl<|Ze rfl<|Ze rfl<|XX (a:=(t:Int)) (b:=1) rfl rfl ⟨by omega,by omega⟩<|Ze rfl<|Ze rfl<|XX (a:=(t:Int)) (b:=1) rfl rfl ⟨by omega,by omega⟩<|ZA (b:=bd) (o:=0) (k:=t+1) (j:=(t:Int)+1) rfl rfl (by omega) (by omega)<|ZM (b:=bd) (o:=0+(t+1) * 1) (v:=iv (v ((mvR g a t) (t+1)))) rfl hc.rd (WQ (fun _=>rfl) (by omega) rfl)<|Ze rfl<|Ze rfl<|ZA (b:=bd) (o:=0) (k:=t) (j:=(t:Int)) rfl rfl (by omega) (by omega)<|ZM (b:=bd) (o:=0+t * 1) (v:=iv (v ((mvR g a t) t))) rfl hc.rd (WQ (fun _=>rfl) (by omega) rfl)<|ZA (b:=bd) (o:=0) (k:=t) (j:=(t:Int)) rfl rfl (by omega) (by omega)<|UA (b:=bd) (o:=0+t * 1) rfl rfl hc hlb rfl rfl (by rw [XO (z:=1) (fun _=>rfl)];omega) ?_
    intro H2 kH2 nH2 sH2 tH2
    have mH2:=kH2.1
    have hk:=hk.put kH2 tH2
    have hc:Cl H2 bd (cG (fun x=>[iv (v x)]) n (upd (mvR g a t) t ((mvR g a t) (t+1)))):=by rw [← UJ (fun _=>rfl) (by omega) rfl];exact sH2
    refine ZA (b:=bd) (o:=0) (k:=t+1) (j:=(t:Int)+1) rfl rfl (by omega) (by omega)<|UA (b:=bd) (o:=0+(t+1) * 1) rfl rfl hc hlb rfl rfl (by rw [XO (z:=1) (fun _=>rfl)];omega) ?_
    intro H3 kH3 nH3 sH3 tH3
    have mH3:=kH3.1
    have hk:=hk.put kH3 tH3
    have hc:Cl H3 bd (cG (fun x=>[iv (v x)]) n (upd (upd (mvR g a t) t ((mvR g a t) (t+1))) (t+1) ((mvR g a t) t))):=by rw [← UJ (fun _=>rfl) (by omega) rfl];exact sH3
    have hc:Cl H3 bd (cG (fun x=>[iv (v x)]) n (swp (mvR g a t) t (t+1))):=hc
    refine ZH (by repeat' first | exact True.intro | exact (fun h=>h) | refine And.intro ?_ ?_ | (intro h;have h:(_:Nat)=_:=h;omega)) ?_
    show Zl _ _ _ _ _ _ _ _
    refine Za rfl<|Zs (a:=(t:Int)) (b:=1) rfl rfl ⟨by omega,by omega⟩<|Za rfl<|Zb ?_
    rw [Jy (by omega)] at hc
    exact ⟨k - 1,t+1,by omega,⟨by omega,by omega,by rw [← Jy (by omega)];exact hp.trans (PRm.swap (by omega) (by omega) (by omega) (by omega)),hk,hc⟩,rfl,rfl,ivq (by omega),trivial⟩
   ·have q4:¬ ((t:Int) < ((i:Int) - 1)):=of_decide_eq_false q4
    first | (refine Zz ?_;show wC _ _ _ _ _ _ _ _ _) | skip
    have eti:t=i - 1:=by omega
    rw [eti] at hp hc
    exact And.intro trivial (Exists.intro _ (And.intro rfl ⟨rfl,_,hp,yT hp2 hcr hi1 hi3 hlw hup,hk,hc⟩))
 ·have q1:¬ (((m:Int) - (a:Int))=1):=by simpa using q1
  first | refine Zi ?_ | skip
  refine Zc<|Za rfl<|Za rfl<|Z4 (a:=(b:Int)) (b:=(m:Int)) rfl rfl ⟨by omega,by omega⟩<|VJ (a:=(b:Int) - (m:Int)) (b:=1) rfl rfl<|Zb ?_
  refine And.intro (fun q5=>?_) (fun q5=>?_)
  ·have q5:((b:Int) - (m:Int))=1:=by simpa using q5
   refine Zc<|Za rfl<|Za rfl<|Zb<|Zc<|Za rfl<|Za rfl<|Zb ?_
   refine Zt (fn:=Try.f97) ZjN N97 Zjc (fun x:Nat × Nat=>[(0,.slice (some ⟨bd,0,none⟩) n cap),(1,iv (a:Int)),(2,iv (m:Int)),(3,iv (b:Int)),(4,.func (.func fc) #[] caps),(14,iv (x.1:Int)),(15,iv (x.2:Int))])
    (fun k x H'=>k=x.2 - x.1∧a≤x.1∧x.1≤x.2∧x.2≤m∧(∀ p,a≤p→p < x.1→¬ key (g m) < key (g p))∧(∀ p,x.2≤p→p < m→key (g m) < key (g p))∧KT bd H H'∧Cl H' bd (cG (fun x=>[iv (v x)]) n g)) _ (a,m) ⟨rfl,Nat.le_refl _,by simp only [];omega,Nat.le_refl _,fun p p1 p2=>absurd p2 (by simp only [];omega),fun p p1 p2=>absurd p2 (by simp only [] at p1;omega),hk,hc⟩ ⟨rfl,rfl,rfl,rfl,rfl,rfl,rfl,trivial⟩ ?_
   rintro k ⟨i,j⟩ L1 ⟨rfl,hi1,hi2,hi3,hlw,hup,hk,hc⟩
   simp only [] at hi1 hi2 hi3 hlw hup
   have hdm:=hd
   refine Zc<|Za rfl<|Za rfl<|ZC (a:=(i:Int)) (b:=(j:Int)) rfl rfl<|Zb ?_
   refine And.intro (fun q6=>?_) (fun q6=>?_)
   ·have q6:(i:Int) < (j:Int):=of_decide_eq_true q6
    first | refine Zi ?_ | skip
    refine Zc<|Za rfl<|Za rfl<|Zs (a:=(i:Int)) (b:=(j:Int)) rfl rfl ⟨by omega,by omega⟩ ?_
    obtain ⟨h3,eh3⟩:∃ h:Nat,h=(i+j) / 2:=⟨_,rfl⟩
    refine Zg (v:=.int .u64 ((i+j:Nat):Int)) rfl (zC (n:=i+j) (j:=(i:Int)+(j:Int)) (by omega) rfl (by omega))<|Zg (v:=.int .u64 ((h3:Nat):Int)) rfl (by rw [eh3];exact Qg (m:=i+j) (d:=1) (by decide) rfl rfl)<|Zg (v:=iv (h3:Int)) rfl (ju (n:=h3) (j:=(h3:Int)) (by omega) rfl rfl)<|Za rfl<|Zb<|YF<|Ze rfl<|Ze rfl<|Ze rfl<|ZA (b:=bd) (o:=0) (k:=m) (j:=(m:Int)) rfl rfl (by omega) (by omega)<|ZM (b:=bd) (o:=0+m * 1) (v:=iv (v (g m))) rfl hc.rd (WQ (fun _=>rfl) (by omega) rfl)<|Ze rfl<|Ze rfl<|ZA (b:=bd) (o:=0) (k:=h3) (j:=(h3:Int)) rfl rfl (by omega) (by omega)<|ZM (b:=bd) (o:=0+h3 * 1) (v:=iv (v (g h3))) rfl hc.rd (WQ (fun _=>rfl) (by omega) rfl) ?_
    obtain ⟨rH4,H4,fH4,kH4,qH4⟩:=hcmp L1 hk.kp (g m) (g h3) (hdm _ (by omega)) (hdm _ (by omega))
    refine YC (vs:=[iv (v (g m)),iv (v (g h3))]) rfl fH4 ?_
    have mH4:=kH4.1
    have hc:=kH4.cl hc (by simp)
    have hk:=hk.keep kH4
    refine Vd (a:=rH4) (b:=0) rfl rfl<|Yl (v:=.bool (!(decide (rH4 < 0)))) rfl rfl ?_
    refine ZH (by repeat' first | exact True.intro | exact (fun h=>h) | refine And.intro ?_ ?_ | (intro h;have h:(_:Nat)=_:=h;omega)) ?_
    refine And.intro (fun q7=>?_) (fun q7=>?_)
    ·have q7:¬ (rH4 < 0):=by simpa using q7
     show Zl _ _ _ _ _ _ _ _
     refine Za rfl<|Zs (a:=(h3:Int)) (b:=1) rfl rfl ⟨by omega,by omega⟩<|Za rfl<|Zb ?_
     exact ⟨_,(h3+1,j),by simp only [];omega,⟨rfl,by simp only [];omega,by simp only [];omega,hi3,fun p p1 p2 hh=>by have y:=hp1.le (i:=p) (j:=h3) p1 (by omega) (by omega);have z:=qH4.2 (by omega);omega,hup,hk,hc⟩,rfl,rfl,rfl,rfl,rfl,ivq (by simp only [];omega),rfl,trivial⟩
    ·have q7:¬ (¬ (rH4 < 0)):=by simpa using q7
     show Zl _ _ _ _ _ _ _ _
     refine Za rfl<|Za rfl<|Zb ?_
     exact ⟨_,(i,h3),by simp only [];omega,⟨rfl,hi1,by simp only [];omega,by simp only [];omega,hlw,fun p p1 p2=>by have z:=qH4.1 (by omega);have y:=hp1.le (i:=h3) (j:=p) (by omega) p1 (by omega);omega,hk,hc⟩,rfl,rfl,rfl,rfl,rfl,rfl,ivq (by simp only []),trivial⟩
   ·have q6:¬ ((i:Int) < (j:Int)):=of_decide_eq_false q6
    first | (refine Zz ?_;show wC _ _ _ _ _ _ _ _ _) | skip
    refine Zc<|Za rfl<|Za rfl<|Zb ?_
    obtain rfl:i=j:=by omega
    obtain rfl:b=m+1:=by omega
    refine Zt (fn:=Try.f97) Zh8 N97 ZiQ (fun t:Nat=>[(0,.slice (some ⟨bd,0,none⟩) n cap),(14,iv (i:Int)),(17,iv (t:Int))])
     (fun k t H'=>k=t∧i≤t∧t≤m∧PRm a (m+1) g (mvL g m t)∧KT bd H H'∧Cl H' bd (cG (fun x=>[iv (v x)]) n (mvL g m t))) m m ⟨rfl,by omega,Nat.le_refl _,by rw [QR];exact PRm.refl _ _ _,hk,by rw [QR];exact hc⟩ ⟨rfl,rfl,rfl,trivial⟩ ?_
    rintro k t L2 ⟨hkt,ht,ht2,hp,hk,hc⟩
    refine Zc<|Za rfl<|Za rfl<|WC (a:=(t:Int)) (b:=(i:Int)) rfl rfl<|Zb ?_
    refine And.intro (fun q8=>?_) (fun q8=>?_)
    ·have q8:(t:Int) > (i:Int):=of_decide_eq_true q8
     first | refine Zi ?_ | skip
     first | refine Ye ?_ | refine Wu ?_ | refine Vw ?_ | (refine YY ?_;refine Ye ?_)
     refine Ze rfl<|Ze rfl<|Ze rfl<|Ze rfl<|Xm (a:=(t:Int)) (b:=1) rfl rfl ⟨by omega,by omega⟩<|Ze rfl<|Ze rfl<|Xm (a:=(t:Int)) (b:=1) rfl rfl ⟨by omega,by omega⟩<|ZA (b:=bd) (o:=0) (k:=t - 1) (j:=(t:Int) - 1) rfl rfl (by omega) (by omega)<|ZM (b:=bd) (o:=0+(t - 1) * 1) (v:=iv (v ((mvL g m t) (t - 1)))) rfl hc.rd (WQ (fun _=>rfl) (by omega) rfl)<|Ze rfl<|Ze rfl<|ZA (b:=bd) (o:=0) (k:=t) (j:=(t:Int)) rfl rfl (by omega) (by omega)<|ZM (b:=bd) (o:=0+t * 1) (v:=iv (v ((mvL g m t) t))) rfl hc.rd (WQ (fun _=>rfl) (by omega) rfl)<|ZA (b:=bd) (o:=0) (k:=t) (j:=(t:Int)) rfl rfl (by omega) (by omega)<|UA (b:=bd) (o:=0+t * 1) rfl rfl hc hlb rfl rfl (by rw [XO (z:=1) (fun _=>rfl)];omega) ?_
     intro H5 kH5 nH5 sH5 tH5
     have mH5:=kH5.1
     have hk:=hk.put kH5 tH5
     have hc:Cl H5 bd (cG (fun x=>[iv (v x)]) n (upd (mvL g m t) t ((mvL g m t) (t - 1)))):=by rw [← UJ (fun _=>rfl) (by omega) rfl];exact sH5
     refine ZA (b:=bd) (o:=0) (k:=t - 1) (j:=(t:Int) - 1) rfl rfl (by omega) (by omega)<|UA (b:=bd) (o:=0+(t - 1) * 1) rfl rfl hc hlb rfl rfl (by rw [XO (z:=1) (fun _=>rfl)];omega) ?_
     intro H6 kH6 nH6 sH6 tH6
     have mH6:=kH6.1
     have hk:=hk.put kH6 tH6
     have hc:Cl H6 bd (cG (fun x=>[iv (v x)]) n (upd (upd (mvL g m t) t ((mvL g m t) (t - 1))) (t - 1) ((mvL g m t) t))):=by rw [← UJ (fun _=>rfl) (by omega) rfl];exact sH6
     have hc:Cl H6 bd (cG (fun x=>[iv (v x)]) n (swp (mvL g m t) t (t - 1))):=hc
     refine ZH (by repeat' first | exact True.intro | exact (fun h=>h) | refine And.intro ?_ ?_ | (intro h;have h:(_:Nat)=_:=h;omega)) ?_
     show Zl _ _ _ _ _ _ _ _
     refine Za rfl<|Z4 (a:=(t:Int)) (b:=1) rfl rfl ⟨by omega,by omega⟩<|Za rfl<|Zb ?_
     rw [QQ (by omega) (by omega)] at hc
     exact ⟨t - 1,t - 1,by omega,⟨rfl,by omega,by omega,by rw [← QQ (by omega) (by omega)];exact hp.trans (PRm.swap (by omega) (by omega) (by omega) (by omega)),hk,hc⟩,rfl,rfl,ivq (by omega),trivial⟩
    ·have q8:¬ ((t:Int) > (i:Int)):=of_decide_eq_false q8
     first | (refine Zz ?_;show wC _ _ _ _ _ _ _ _ _) | skip
     have eti:t=i:=by omega
     rw [eti] at hp hc
     exact And.intro trivial (Exists.intro _ (And.intro rfl ⟨rfl,_,hp,Zan hp1 hcr hi1 hi3 hlw hup,hk,hc⟩))
  ·have q5:¬ (((b:Int) - (m:Int))=1):=by simpa using q5
   first | refine Zi ?_ | skip
   refine Zc<|Za rfl<|Za rfl<|Zs (a:=(a:Int)) (b:=(b:Int)) rfl rfl ⟨by omega,by omega⟩ ?_
   obtain ⟨h4,eh4⟩:∃ h:Nat,h=(a+b) / 2:=⟨_,rfl⟩
   refine Zg (v:=.int .u64 ((a+b:Nat):Int)) rfl (zC (n:=a+b) (j:=(a:Int)+(b:Int)) (by omega) rfl (by omega))<|Zg (v:=.int .u64 ((h4:Nat):Int)) rfl (by rw [eh4];exact Qg (m:=a+b) (d:=1) (by decide) rfl rfl)<|Zg (v:=iv (h4:Int)) rfl (ju (n:=h4) (j:=(h4:Int)) (by omega) rfl rfl)<|Za rfl<|Zb<|Zc<|Za rfl<|Za rfl<|Zs (a:=(h4:Int)) (b:=(m:Int)) rfl rfl ⟨by omega,by omega⟩<|Za rfl<|Zb<|Zc<|Za rfl<|Za rfl<|Zb<|Zc<|Za rfl<|Za rfl<|WC (a:=(m:Int)) (b:=(h4:Int)) rfl rfl<|Zb ?_
   refine And.intro (fun q9=>?_) (fun q9=>?_)
   ·have q9:(m:Int) > (h4:Int):=of_decide_eq_true q9
    refine Zc<|Za rfl<|Za rfl<|Z4 (a:=(h4:Int)+(m:Int)) (b:=(b:Int)) rfl rfl ⟨by omega,by omega⟩<|Za rfl<|Zb<|Zc<|Za rfl<|Za rfl<|Zb ?_
    refine Zgz (mid:=h4) (nn:=h4+m) (s0:=(h4+m) - b) (r0:=h4) hlb hn hlo hk hc (fun H1 a m b g k=>ih H1 a m b g (hk0.trans k)) hcmp ham hmb hb hM eh4 rfl (.inl ⟨by omega,by omega,rfl⟩) (by omega) hd hp1 hp2 hcr (by exact ⟨rfl,rfl,rfl,rfl,rfl,rfl,ivq (by omega),ivq (by omega),ivq (by omega),trivial⟩) ?_
    intro H' S' g' p' s' k' c'
    exact And.intro trivial (Exists.intro _ (And.intro rfl ⟨rfl,g',p',s',k',c'⟩))
   ·have q9:¬ ((m:Int) > (h4:Int)):=of_decide_eq_false q9
    refine Zc<|Za rfl<|Za rfl<|Zb<|Zc<|Za rfl<|Za rfl<|Zb ?_
    refine Zgz (mid:=h4) (nn:=h4+m) (s0:=a) (r0:=m) hlb hn hlo hk hc (fun H1 a m b g k=>ih H1 a m b g (hk0.trans k)) hcmp ham hmb hb hM eh4 rfl (.inr ⟨by omega,rfl,rfl⟩) (by omega) hd hp1 hp2 hcr (by exact ⟨rfl,rfl,rfl,rfl,rfl,rfl,ivq (by omega),ivq (by omega),ivq (by omega),trivial⟩) ?_
    intro H' S' g' p' s' k' c'
    exact And.intro trivial (Exists.intro _ (And.intro rfl ⟨rfl,g',p',s',k',c'⟩))
theorem qn {bd cap n:Nat} {v:Nat→Int} {Hr:Hp} (hlo:lo≤Hr.next) (hlb:lo≤bd) (hn:n≤1000000) {fc:FuncId} {caps:Array Value} {key:Nat→Int} (hcmp:Uh Try.prog kn lo bd fc caps (fun x=>iv (v x)) n key Hr):∀ (M:Nat) (H1:Hp) (a m b:Nat) (g:Nat→Nat),KT bd Hr H1→a < m→m < b→b≤n→b - a < M→(∀ k,k < n→g k < n)→So key a m g→So key m b g→Cr a m b g→Cl H1 bd (cG (fun x=>[iv (v x)]) n g)→∃ H' g',FnX Try.prog kn lo 97 [.slice (some ⟨bd,0,none⟩) n cap,iv (a:Int),iv (m:Int),iv (b:Int),.func (.func fc) #[] caps] H1 (.tuple #[]) H'∧PRm a b g g'∧So key a b g'∧KT bd H1 H'∧Cl H' bd (cG (fun x=>[iv (v x)]) n g')
 | 0,_,_,_,_,_,_,_,_,_,h,_,_,_,_,_=>absurd h (Nat.not_lt_zero _)
 | M+1,_,_,_,_,_,hk,ham,hmb,hb,hM,hd,hp1,hp2,hcr,hc=>ZcY (Nat.le_trans hlo hk.1) hlb hn hk hc (qn hlo hlb hn hcmp M) hcmp ham hmb hb (Nat.le_of_lt_succ hM) hd hp1 hp2 hcr
end
end
end Go.Ax

/-
 Pool: sorting that keeps the order: blocks (written by program).
-/
namespace Go.Ax
open Go Go.RowKit Go.Proofs

noncomputable section
theorem Bk.init2 {key:Nat→Int} {bs n:Nat} {g:Nat→Nat} (h:Bk key bs 0 n g):Bk2 key bs 0 n g:=Bk2.init h
theorem Zfd {bs a:Nat} (hb:Bs bs) (h:a % (2 * bs)=0):a % bs=0:=by rcases hb with rfl | rfl | rfl<;>omega
section
variable {kn:Kn} {lo:Nat} {H:Hp}
set_option maxRecDepth 100000 in
set_option maxHeartbeats 2000000 in
theorem ZbA (hlo:lo≤H.next) {bd cap n:Nat} {v:Nat→Int} (hlb:lo≤bd) (hn:n≤160) (hc:Cl H bd (cG (fun x=>[iv (v x)]) n fun i=>i)) {fc:FuncId} {caps:Array Value} {key:Nat→Int} (hcmp:Uh Try.prog kn lo bd fc caps (fun x=>iv (v x)) n key H):∃ H' g',FnX Try.prog kn lo 82 [.slice (some ⟨bd,0,none⟩) n cap,iv (n:Int),.func (.func fc) #[] caps] H (.tuple #[]) H'∧PRm 0 n (fun i=>i) g'∧So key 0 n g'∧KT bd H H'∧Cl H' bd (cG (fun x=>[iv (v x)]) n g'):=by
 have key_:=Zp (kn:=kn) (lo:=lo) (H:=H) (args:=[.slice (some ⟨bd,0,none⟩) n cap,iv (n:Int),.func (.func fc) #[] caps]) (Q:=fun w H'=>w=.tuple #[]∧∃ g',PRm 0 n (fun i=>i) g'∧So key 0 n g'∧KT bd H H'∧Cl H' bd (cG (fun x=>[iv (v x)]) n g')) Try.func82 B82 N82 Z82 L82 (by simp) ?_
 ·obtain ⟨w,H',h,rfl,g',r⟩:=key_;exact ⟨H',g',h,r⟩
 have hk:=KT.refl (H:=H) hc.1
 refine Zc<|Za rfl<|Zb<|Zc<|Za rfl<|Za rfl<|Za rfl<|Zb ?_
 refine Zt (fn:=Try.f82) ZhR N82 Zj0 (fun a:Nat=>[(0,.slice (some ⟨bd,0,none⟩) n cap),(1,iv (n:Int)),(2,.func (.func fc) #[] caps),(6,iv 20),(7,iv (a:Int)),(8,iv ((a:Int)+20))])
  (fun k a H'=>k=n - a∧a % 20=0∧a≤n∧∃ g',Bk0 key a n g'∧PRm 0 n (fun i=>i) g'∧KT bd H H'∧Cl H' bd (cG (fun x=>[iv (v x)]) n g')) _ 0 ⟨rfl,rfl,Nat.zero_le _,fun i=>i,Bk0.init n,PRm.refl _ _ _,hk,hc⟩ ⟨rfl,rfl,rfl,rfl,rfl,rfl,trivial⟩ ?_
 rintro k a L1 ⟨rfl,ha,han,gx,hB,hp,hk,hc⟩
 refine Zc<|Za rfl<|Za rfl<|Xr (a:=((a:Int)+20)) (b:=(n:Int)) rfl rfl<|Zb ?_
 refine And.intro (fun q1=>?_) (fun q1=>?_)
 ·have q1:((a:Int)+20)≤(n:Int):=of_decide_eq_true q1
  first | refine Zi ?_ | skip
  refine Zc<|Za rfl<|Za rfl<|Za rfl<|Za rfl ?_
  obtain ⟨H1,gH1,fH1,pH1,sH1,kH1,cH1⟩:=Zch (kn:=kn) (lo:=lo) (H:=L1) (by have:=hk.1;omega) hlb (by omega) (cap:=cap) hc (hp.dom (fun k q=>q) (Nat.le_refl _)) (hcmp.from hk.kp) (a:=a) (b:=(a+20)) (by omega) (by omega) (fun i j q1 q2 q3=>hB.ids i j q1 q2)
  refine Zu (vs:=[.slice (some ⟨bd,0,none⟩) n cap,iv (a:Int),iv ((a:Int)+20),.func (.func fc) #[] caps]) rfl (by have q:=Zh fH1;rw [show (((a+20):Nat):Int)=((a:Int)+20) by omega] at q;exact q) ?_
  have mH1:=kH1.1
  have hk:=hk.trans kH1
  have hc:=cH1
  have hp:=hp.trans (pH1.mono (by omega) (by omega) (by omega))
  have hB:=hB.step ha (by omega) (by omega) pH1 sH1
  refine Zb<|Zc<|Za rfl<|Za rfl<|Zb ?_
  show Zl _ _ _ _ _ _ _ _
  refine Za rfl<|Za rfl<|Zs (a:=((a:Int)+20)) (b:=20) rfl rfl ⟨by omega,by omega⟩<|Za rfl<|Zb ?_
  exact ⟨_,a+20,by omega,⟨rfl,by omega,by omega,_,hB,hp,hk,hc⟩,rfl,rfl,rfl,rfl,ivq (by omega),ivq (by omega),trivial⟩
 ·have q1:¬ (((a:Int)+20)≤(n:Int)):=of_decide_eq_false q1
  first | (refine Zz ?_;show wC _ _ _ _ _ _ _ _ _) | skip
  refine Zc<|Za rfl<|Za rfl<|Za rfl<|Za rfl ?_
  obtain ⟨H2,gH2,fH2,pH2,sH2,kH2,cH2⟩:=Zch (kn:=kn) (lo:=lo) (H:=L1) (by have:=hk.1;omega) hlb (by omega) (cap:=cap) hc (hp.dom (fun k q=>q) (Nat.le_refl _)) (hcmp.from hk.kp) (a:=a) (b:=n) (by omega) (by omega) (fun i j q1 q2 q3=>hB.ids i j q1 q2)
  refine Zu (vs:=[.slice (some ⟨bd,0,none⟩) n cap,iv (a:Int),iv (n:Int),.func (.func fc) #[] caps]) rfl (Zh fH2) ?_
  have mH2:=kH2.1
  have hk:=hk.trans kH2
  have hc:=cH2
  have hp:=hp.trans (pH2.mono (by omega) (by omega) (by omega))
  have hB:=hB.step ha (by omega) (by omega) pH2 sH2
  refine Zb ?_
  have hB:=hB.low (Nat.le_refl _)
  refine Zt (fn:=Try.f82) Zjr N82 Zi6 (fun bs:Nat=>[(0,.slice (some ⟨bd,0,none⟩) n cap),(1,iv (n:Int)),(2,.func (.func fc) #[] caps),(6,iv (bs:Int))])
   (fun k bs H'=>k=400 - bs∧(Bs bs∨bs=160)∧∃ g',Bk key bs 0 n g'∧PRm 0 n (fun i=>i) g'∧KT bd H H'∧Cl H' bd (cG (fun x=>[iv (v x)]) n g')) _ 20 ⟨rfl,.inl (.inl rfl),_,hB,hp,hk,hc⟩ ⟨rfl,rfl,rfl,rfl,trivial⟩ ?_
  rintro k bs L2 ⟨rfl,hbs,gy,hB,hp,hk,hc⟩
  refine Zc<|Za rfl<|Za rfl<|ZC (a:=(bs:Int)) (b:=(n:Int)) rfl rfl<|Zb ?_
  refine And.intro (fun q2=>?_) (fun q2=>?_)
  ·have q2:(bs:Int) < (n:Int):=of_decide_eq_true q2
   first | refine Zi ?_ | skip
   refine Zc<|Za rfl<|Wp (a:=2) (b:=(bs:Int)) rfl rfl ⟨by omega,by omega⟩<|Za rfl<|Za rfl<|Zb ?_
   have hbs:Bs bs:=hbs.resolve_right (by omega)
   have hb0:20≤bs:=by unfold Bs at hbs;omega
   have hB:=hB.init2
   refine Zt (fn:=Try.f82) Zjp N82 ZjO (fun a:Nat=>[(0,.slice (some ⟨bd,0,none⟩) n cap),(1,iv (n:Int)),(2,.func (.func fc) #[] caps),(6,iv (bs:Int)),(7,iv (a:Int)),(8,iv ((a:Int)+2 * (bs:Int)))])
    (fun k a H'=>k=n - a∧a % (2 * bs)=0∧a≤n∧∃ g',Bk2 key bs a n g'∧PRm 0 n (fun i=>i) g'∧KT bd H H'∧Cl H' bd (cG (fun x=>[iv (v x)]) n g')) _ 0 ⟨rfl,Nat.zero_mod _,Nat.zero_le _,_,hB,hp,hk,hc⟩ ⟨rfl,rfl,rfl,rfl,rfl,ivq (by omega),trivial⟩ ?_
   rintro k a L3 ⟨rfl,ha,han,gz,hB,hp,hk,hc⟩
   refine Zc<|Za rfl<|Za rfl<|Xr (a:=((a:Int)+2 * (bs:Int))) (b:=(n:Int)) rfl rfl<|Zb ?_
   refine And.intro (fun q3=>?_) (fun q3=>?_)
   ·have q3:((a:Int)+2 * (bs:Int))≤(n:Int):=of_decide_eq_true q3
    first | refine Zi ?_ | skip
    refine Zc<|Za rfl<|Za rfl<|Za rfl<|Za rfl<|Zs (a:=(a:Int)) (b:=(bs:Int)) rfl rfl ⟨by omega,by omega⟩<|Za rfl<|Za rfl ?_
    obtain ⟨q1H3,q2H3,q3H3⟩:=hB.hi.part hbs (Zfd hbs ha) (m:=a+bs) (b:=(a+2 * bs)) (by omega) (by omega) (by omega) (by omega)
    obtain ⟨H3,gH3,fH3,pH3,sH3,kH3,cH3⟩:=qn (kn:=kn) (lo:=lo) hlo hlb (by omega) (cap:=cap) hcmp ((a+2 * bs) - a+1) L3 (a) (a+bs) ((a+2 * bs)) gz hk (by omega) (by omega) (by omega) (by omega) (hp.dom (fun k q=>q) (Nat.le_refl _)) q1H3 q2H3 q3H3 hc
    refine Zu (vs:=[.slice (some ⟨bd,0,none⟩) n cap,iv (a:Int),iv ((a:Int)+(bs:Int)),iv ((a:Int)+2 * (bs:Int)),.func (.func fc) #[] caps]) rfl (by have q:=Zh fH3;rw [show ((a+bs:Nat):Int)=(a:Int)+(bs:Int) by omega] at q;rw [show (((a+2 * bs):Nat):Int)=((a:Int)+2 * (bs:Int)) by omega] at q;exact q) ?_
    have mH3:=kH3.1
    have hk:=hk.trans kH3
    have hc:=cH3
    have hp:=hp.trans (pH3.mono (by omega) (by omega) (by omega))
    refine Zb<|Zc<|Za rfl<|Za rfl<|Zb ?_
    show Zl _ _ _ _ _ _ _ _
    refine Za rfl<|Za rfl<|Wp (a:=2) (b:=(bs:Int)) rfl rfl ⟨by omega,by omega⟩<|Zs (a:=((a:Int)+2 * (bs:Int))) (b:=2 * (bs:Int)) rfl rfl ⟨by omega,by omega⟩<|Za rfl<|Zb ?_
    obtain ⟨hB,ha⟩:=hB.next hbs ha (b:=a+2 * bs) rfl (by omega) pH3 sH3
    exact ⟨_,a+2 * bs,by omega,⟨rfl,ha,by omega,_,hB,hp,hk,hc⟩,rfl,rfl,rfl,rfl,ivq (by omega),ivq (by omega),trivial⟩
   ·have q3:¬ (((a:Int)+2 * (bs:Int))≤(n:Int)):=of_decide_eq_false q3
    first | (refine Zz ?_;show wC _ _ _ _ _ _ _ _ _) | skip
    refine Zc<|Za rfl<|Za rfl<|Zs (a:=(a:Int)) (b:=(bs:Int)) rfl rfl ⟨by omega,by omega⟩<|Za rfl<|Zb<|Zc<|Za rfl<|Za rfl<|ZC (a:=(a:Int)+(bs:Int)) (b:=(n:Int)) rfl rfl<|Zb ?_
    refine And.intro (fun q4=>?_) (fun q4=>?_)
    ·have q4:((a:Int)+(bs:Int)) < (n:Int):=of_decide_eq_true q4
     refine Zc<|Za rfl<|Za rfl<|Za rfl<|Za rfl<|Za rfl ?_
     obtain ⟨q1H4,q2H4,q3H4⟩:=hB.hi.part hbs (Zfd hbs ha) (m:=a+bs) (b:=n) (by omega) (by omega) (by omega) (by omega)
     obtain ⟨H4,gH4,fH4,pH4,sH4,kH4,cH4⟩:=qn (kn:=kn) (lo:=lo) hlo hlb (by omega) (cap:=cap) hcmp (n - a+1) L3 (a) (a+bs) (n) gz hk (by omega) (by omega) (by omega) (by omega) (hp.dom (fun k q=>q) (Nat.le_refl _)) q1H4 q2H4 q3H4 hc
     refine Zu (vs:=[.slice (some ⟨bd,0,none⟩) n cap,iv (a:Int),iv ((a:Int)+(bs:Int)),iv (n:Int),.func (.func fc) #[] caps]) rfl (by have q:=Zh fH4;rw [show ((a+bs:Nat):Int)=(a:Int)+(bs:Int) by omega] at q;exact q) ?_
     have mH4:=kH4.1
     have hk:=hk.trans kH4
     have hc:=cH4
     have hp:=hp.trans (pH4.mono (by omega) (by omega) (by omega))
     refine Zb ?_
     show Zl _ _ _ _ _ _ _ _
     have hB2:=hB.step hbs ha (by omega) (by omega) (Nat.le_refl _) pH4 sH4
     refine Za rfl<|Wp (a:=(bs:Int)) (b:=2) rfl rfl ⟨by omega,by omega⟩<|Za rfl<|Zb ?_
     exact ⟨_,2 * bs,by unfold Bs at hbs;omega,⟨rfl,by unfold Bs at hbs ⊢;omega,_,hB2,hp,hk,hc⟩,rfl,rfl,rfl,ivq (by omega),trivial⟩
    ·have q4:¬ (((a:Int)+(bs:Int)) < (n:Int)):=of_decide_eq_false q4
     have hB2:=hB.last hbs ha han (by omega)
     first | refine Zi ?_ | skip
     show Zl _ _ _ _ _ _ _ _
     refine Za rfl<|Wp (a:=(bs:Int)) (b:=2) rfl rfl ⟨by omega,by omega⟩<|Za rfl<|Zb ?_
     exact ⟨_,2 * bs,by unfold Bs at hbs;omega,⟨rfl,by unfold Bs at hbs ⊢;omega,_,hB2,hp,hk,hc⟩,rfl,rfl,rfl,ivq (by omega),trivial⟩
  ·have q2:¬ ((bs:Int) < (n:Int)):=of_decide_eq_false q2
   first | (refine Zz ?_;show wC _ _ _ _ _ _ _ _ _) | skip
   exact And.intro trivial (Exists.intro _ (And.intro rfl ⟨rfl,gy,hp,hB.all (by omega),hk,hc⟩))
set_option maxRecDepth 100000 in
set_option maxHeartbeats 2000000 in
theorem Zb8 (hlo:lo≤H.next) {bd cap n:Nat} {v:Nat→Int} (hlb:lo≤bd) (hn:n≤160) (hc:Cl H bd (cG (fun x=>[iv (v x)]) n fun i=>i)) {fc:FuncId} {caps:Array Value} {key:Nat→Int} (hcmp:Uh Try.prog kn lo bd fc caps (fun x=>iv (v x)) n key H):∃ H' g',FnX Try.prog kn lo 73 [.slice (some ⟨bd,0,none⟩) n cap,.func (.func fc) #[] caps] H (.tuple #[]) H'∧PRm 0 n (fun i=>i) g'∧So key 0 n g'∧KT bd H H'∧Cl H' bd (cG (fun x=>[iv (v x)]) n g'):=by
 have key_:=Zp (kn:=kn) (lo:=lo) (H:=H) (args:=[.slice (some ⟨bd,0,none⟩) n cap,.func (.func fc) #[] caps]) (Q:=fun w H'=>w=.tuple #[]∧∃ g',PRm 0 n (fun i=>i) g'∧So key 0 n g'∧KT bd H H'∧Cl H' bd (cG (fun x=>[iv (v x)]) n g')) Try.func73 B73 N73 Z73 L73 (by simp) ?_
 ·obtain ⟨w,H',h,rfl,g',r⟩:=key_;exact ⟨H',g',h,r⟩
 have hk:=KT.refl (H:=H) hc.1
 show Zl _ _ _ _ _ _ _ _
 refine Za rfl<|Za rfl<|Z6 (m:=n) rfl<|Za rfl ?_
 obtain ⟨H1,gH1,fH1,pH1,sH1,kH1,cH1⟩:=ZbA (kn:=kn) (lo:=lo) (H:=H) hlo hlb hn (cap:=cap) hc hcmp
 refine Zu (vs:=[.slice (some ⟨bd,0,none⟩) n cap,iv (n:Int),.func (.func fc) #[] caps]) rfl (Zh fH1) ?_
 have hk:=kH1;have hc:=cH1
 refine Zb ?_
 exact And.intro trivial (Exists.intro _ (And.intro rfl ⟨rfl,gH1,pH1,sH1,hk,hc⟩))
end
end
end Go.Ax

/-
 Pool: sorting that keeps the order: swaps,turns,insertion (written by program).
-/
namespace Go.Ax
open Go Go.RowKit Go.Proofs

noncomputable section
section
variable {kn:Kn} {lo:Nat} {H:Hp}
set_option maxRecDepth 100000 in
set_option maxHeartbeats 2000000 in
theorem jw (hlo:lo≤H.next) {bd cap n:Nat} {g:Nat→Nat} {v u:Nat→Int} (hlb:lo≤bd) (hn:n≤1000000) (hc:Cl H bd (cG (fun x=>[iv (v x),iv (u x)]) n g)) {cv:Value} {a b c:Nat} (hab:a+c≤b) (hb:b+c≤n):∃ H',FnX Try.prog kn lo 105 [.slice (some ⟨bd,0,none⟩) n cap,iv (a:Int),iv (b:Int),iv (c:Int),cv] H (.tuple #[]) H'∧PRm a (b+c) g (swr g a b c)∧KT bd H H'∧Cl H' bd (cG (fun x=>[iv (v x),iv (u x)]) n (swr g a b c)):=by
 have key_:=Zp (kn:=kn) (lo:=lo) (H:=H) (args:=[.slice (some ⟨bd,0,none⟩) n cap,iv (a:Int),iv (b:Int),iv (c:Int),cv]) (Q:=fun w H'=>w=.tuple #[]∧PRm a (b+c) g (swr g a b c)∧KT bd H H'∧Cl H' bd (cG (fun x=>[iv (v x),iv (u x)]) n (swr g a b c))) Try.func105 ZkW ZiA Zkl Zkw (by simp) ?_
 ·obtain ⟨w,H',h,rfl,r⟩:=key_;exact ⟨H',h,r⟩
 have hk:=KT.refl (H:=H) hc.1
 refine Zc<|Za rfl<|Zb ?_
 refine Zt (fn:=Try.f105) ZgU ZiA Zhh (fun i:Nat=>[(0,.slice (some ⟨bd,0,none⟩) n cap),(1,iv (a:Int)),(2,iv (b:Int)),(3,iv (c:Int)),(10,iv (i:Int))])
  (fun k i H'=>i+k=c∧PRm a (b+c) g (swr g a b i)∧KT bd H H'∧Cl H' bd (cG (fun x=>[iv (v x),iv (u x)]) n (swr g a b i))) c 0 ⟨by omega,by rw [Ju];exact PRm.refl _ _ _,hk,by rw [Ju];exact hc⟩ ⟨rfl,rfl,rfl,rfl,rfl,trivial⟩ ?_
 rintro k i L1 ⟨hik,hp,hk,hc⟩
 refine Zc<|Za rfl<|Za rfl<|ZC (a:=(i:Int)) (b:=(c:Int)) rfl rfl<|Zb ?_
 refine And.intro (fun q1=>?_) (fun q1=>?_)
 ·have q1:(i:Int) < (c:Int):=of_decide_eq_true q1
  first | refine Zi ?_ | skip
  first | refine Ye ?_ | refine Wu ?_ | refine Vw ?_ | (refine YY ?_;refine Ye ?_)
  refine Ze rfl<|Ze rfl<|Ze rfl<|XX (a:=(a:Int)) (b:=(i:Int)) rfl rfl ⟨by omega,by omega⟩<|Ze rfl<|Ze rfl<|Ze rfl<|XX (a:=(b:Int)) (b:=(i:Int)) rfl rfl ⟨by omega,by omega⟩<|Ze rfl<|Ze rfl<|Ze rfl<|XX (a:=(b:Int)) (b:=(i:Int)) rfl rfl ⟨by omega,by omega⟩<|ZA (b:=bd) (o:=0) (k:=b+i) (j:=(b:Int)+(i:Int)) rfl rfl (by omega) (by omega)<|YS (b:=bd) (o:=0+(b+i) * 2) rfl hc.rd (XA (z:=2) (fun _=>rfl) (by omega))<|Ze rfl<|Ze rfl<|Ze rfl<|XX (a:=(a:Int)) (b:=(i:Int)) rfl rfl ⟨by omega,by omega⟩<|ZA (b:=bd) (o:=0) (k:=a+i) (j:=(a:Int)+(i:Int)) rfl rfl (by omega) (by omega)<|YS (b:=bd) (o:=0+(a+i) * 2) rfl hc.rd (XA (z:=2) (fun _=>rfl) (by omega))<|ZA (b:=bd) (o:=0) (k:=a+i) (j:=(a:Int)+(i:Int)) rfl rfl (by omega) (by omega)<|Vj (b:=bd) (o:=0+(a+i) * 2) rfl rfl hc hlb rfl rfl (by rw [XO (z:=2) (fun _=>rfl)];omega) ?_
  intro H1 kH1 nH1 sH1 tH1
  have mH1:=kH1.1
  have hk:=hk.put kH1 tH1
  have hc:Cl H1 bd (cG (fun x=>[iv (v x),iv (u x)]) n (upd (swr g a b i) (a+i) ((swr g a b i) (b+i)))):=by rw [← V7 (z:=2) (fun _=>rfl) (by omega)];exact sH1
  refine ZA (b:=bd) (o:=0) (k:=b+i) (j:=(b:Int)+(i:Int)) rfl rfl (by omega) (by omega)<|Vj (b:=bd) (o:=0+(b+i) * 2) rfl rfl hc hlb rfl rfl (by rw [XO (z:=2) (fun _=>rfl)];omega) ?_
  intro H2 kH2 nH2 sH2 tH2
  have mH2:=kH2.1
  have hk:=hk.put kH2 tH2
  have hc:Cl H2 bd (cG (fun x=>[iv (v x),iv (u x)]) n (upd (upd (swr g a b i) (a+i) ((swr g a b i) (b+i))) (b+i) ((swr g a b i) (a+i)))):=by rw [← V7 (z:=2) (fun _=>rfl) (by omega)];exact sH2
  have hc:Cl H2 bd (cG (fun x=>[iv (v x),iv (u x)]) n (swp (swr g a b i) (a+i) (b+i))):=hc
  refine ZH (by repeat' first | exact True.intro | exact (fun h=>h) | refine And.intro ?_ ?_ | (intro h;have h:(_:Nat)=_:=h;omega)) ?_
  show Zl _ _ _ _ _ _ _ _
  refine Za rfl<|Zs (a:=(i:Int)) (b:=1) rfl rfl ⟨by omega,by omega⟩<|Za rfl<|Zb ?_
  rw [Q1 hab (by omega)] at hc
  exact ⟨k - 1,i+1,by omega,⟨by omega,by rw [← Q1 hab (by omega)];exact hp.trans (PRm.swap (by omega) (by omega) (by omega) (by omega)),hk,hc⟩,rfl,rfl,rfl,rfl,ivq (by omega),trivial⟩
 ·have q1:¬ ((i:Int) < (c:Int)):=of_decide_eq_false q1
  first | (refine Zz ?_;show wC _ _ _ _ _ _ _ _ _) | skip
  obtain rfl:i=c:=by omega
  exact And.intro trivial (Exists.intro _ (And.intro rfl ⟨rfl,hp,hk,hc⟩))
set_option maxRecDepth 100000 in
set_option maxHeartbeats 2000000 in
theorem Zfs (hlo:lo≤H.next) {bd cap n:Nat} {g:Nat→Nat} {v u:Nat→Int} (hlb:lo≤bd) (hn:n≤1000000) (hc:Cl H bd (cG (fun x=>[iv (v x),iv (u x)]) n g)) {cv:Value} {a m b:Nat} (ham:a < m) (hmb:m < b) (hb:b≤n):∃ H',FnX Try.prog kn lo 98 [.slice (some ⟨bd,0,none⟩) n cap,iv (a:Int),iv (m:Int),iv (b:Int),cv] H (.tuple #[]) H'∧PRm a b g (rot g a m b)∧KT bd H H'∧Cl H' bd (cG (fun x=>[iv (v x),iv (u x)]) n (rot g a m b)):=by
 have key_:=Zp (kn:=kn) (lo:=lo) (H:=H) (args:=[.slice (some ⟨bd,0,none⟩) n cap,iv (a:Int),iv (m:Int),iv (b:Int),cv]) (Q:=fun w H'=>w=.tuple #[]∧PRm a b g (rot g a m b)∧KT bd H H'∧Cl H' bd (cG (fun x=>[iv (v x),iv (u x)]) n (rot g a m b))) Try.func98 B98 N98 Z98 L98 (by simp) ?_
 ·obtain ⟨w,H',h,rfl,r⟩:=key_;exact ⟨H',h,r⟩
 have hk:=KT.refl (H:=H) hc.1
 refine Zc<|Za rfl<|Za rfl<|Z4 (a:=(m:Int)) (b:=(a:Int)) rfl rfl ⟨by omega,by omega⟩<|Za rfl<|Zb<|Zc<|Za rfl<|Za rfl<|Z4 (a:=(b:Int)) (b:=(m:Int)) rfl rfl ⟨by omega,by omega⟩<|Za rfl<|Zb ?_
 refine Zt (fn:=Try.f98) Zi4 N98 Zj5 (fun x:Nat × Nat=>[(0,.slice (some ⟨bd,0,none⟩) n cap),(2,iv (m:Int)),(4,cv),(10,iv (x.1:Int)),(11,iv (x.2:Int))])
  (fun k x H'=>k=x.1+x.2∧0 < x.1∧0 < x.2∧x.1≤m - a∧x.2≤b - m∧∃ g',rot g' (m - x.1) m (m+x.2)=rot g a m b∧PRm a b g g'∧KT bd H H'∧Cl H' bd (cG (fun x=>[iv (v x),iv (u x)]) n g')) _ (m - a,b - m) ⟨rfl,by simp only [];omega,by simp only [];omega,Nat.le_refl _,Nat.le_refl _,g,by simp only [];rw [show m - (m - a)=a by omega,show m+(b - m)=b by omega],PRm.refl _ _ _,hk,hc⟩ ⟨rfl,rfl,rfl,ivq (by simp only [];omega),ivq (by simp only [];omega),trivial⟩ ?_
 rintro k ⟨i,j⟩ L1 ⟨rfl,hi1,hj1,hi2,hj2,gx,hr,hp,hk,hc⟩
 simp only [] at hi1 hj1 hi2 hj2 hr
 refine Zc<|Za rfl<|Za rfl<|UC (a:=(i:Int)) (b:=(j:Int)) rfl rfl<|Zb ?_
 refine And.intro (fun q1=>?_) (fun q1=>?_)
 ·have q1:(i:Int)≠(j:Int):=by simpa using q1
  first | refine Zi ?_ | skip
  refine Zc<|Za rfl<|Za rfl<|WC (a:=(i:Int)) (b:=(j:Int)) rfl rfl<|Zb ?_
  refine And.intro (fun q2=>?_) (fun q2=>?_)
  ·have q2:(i:Int) > (j:Int):=of_decide_eq_true q2
   refine Zc<|Za rfl<|Za rfl<|Za rfl<|Z4 (a:=(m:Int)) (b:=(i:Int)) rfl rfl ⟨by omega,by omega⟩<|Za rfl<|Za rfl<|Za rfl ?_
   obtain ⟨H1,fH1,pH1,kH1,cH1⟩:=jw (kn:=kn) (lo:=lo) (H:=L1) (by have:=hk.1;omega) hlb hn (cap:=cap) hc (cv:=cv) (a:=m - i) (b:=m) (c:=j) (by omega) (by omega)
   refine Zu (vs:=[.slice (some ⟨bd,0,none⟩) n cap,iv ((m:Int) - (i:Int)),iv (m:Int),iv (j:Int),cv]) rfl (by have q:=Zh fH1;rw [show ((m - i:Nat):Int)=(m:Int) - (i:Int) by omega] at q;exact q) ?_
   have mH1:=kH1.1
   have hk:=hk.trans kH1
   have hc:=cH1
   have hp:=hp.trans (pH1.mono (by omega) (by omega) (by omega))
   refine Zb ?_
   show Zl _ _ _ _ _ _ _ _
   refine Za rfl<|Za rfl<|Z4 (a:=(i:Int)) (b:=(j:Int)) rfl rfl ⟨by omega,by omega⟩<|Za rfl<|Zb ?_
   rw [ZaF (i:=i) (j:=j) (by omega) (by omega)] at hr
   exact ⟨_,(i - j,j),by simp only [];omega,⟨rfl,by omega,by omega,by simp only [];omega,by omega,_,hr,hp,hk,hc⟩,rfl,rfl,rfl,ivq (by simp only [];omega),rfl,trivial⟩
  ·have q2:¬ ((i:Int) > (j:Int)):=of_decide_eq_false q2
   refine Zc<|Za rfl<|Za rfl<|Za rfl<|Z4 (a:=(m:Int)) (b:=(i:Int)) rfl rfl ⟨by omega,by omega⟩<|Za rfl<|Za rfl<|Zs (a:=(m:Int)) (b:=(j:Int)) rfl rfl ⟨by omega,by omega⟩<|Za rfl<|Z4 (a:=(m:Int)+(j:Int)) (b:=(i:Int)) rfl rfl ⟨by omega,by omega⟩<|Za rfl<|Za rfl ?_
   obtain ⟨H2,fH2,pH2,kH2,cH2⟩:=jw (kn:=kn) (lo:=lo) (H:=L1) (by have:=hk.1;omega) hlb hn (cap:=cap) hc (cv:=cv) (a:=m - i) (b:=(m+j) - i) (c:=i) (by omega) (by omega)
   refine Zu (vs:=[.slice (some ⟨bd,0,none⟩) n cap,iv ((m:Int) - (i:Int)),iv (((m:Int)+(j:Int)) - (i:Int)),iv (i:Int),cv]) rfl (by have q:=Zh fH2;rw [show ((m - i:Nat):Int)=(m:Int) - (i:Int) by omega] at q;rw [show (((m+j) - i:Nat):Int)=((m:Int)+(j:Int)) - (i:Int) by omega] at q;exact q) ?_
   have mH2:=kH2.1
   have hk:=hk.trans kH2
   have hc:=cH2
   have hp:=hp.trans (pH2.mono (by omega) (by omega) (by omega))
   refine Zb ?_
   show Zl _ _ _ _ _ _ _ _
   refine Za rfl<|Za rfl<|Z4 (a:=(j:Int)) (b:=(i:Int)) rfl rfl ⟨by omega,by omega⟩<|Za rfl<|Zb ?_
   rw [yH (i:=i) (j:=j) (by omega) (by omega)] at hr
   exact ⟨_,(i,j - i),by simp only [];omega,⟨rfl,by omega,by omega,by omega,by simp only [];omega,_,hr,hp,hk,hc⟩,rfl,rfl,rfl,rfl,ivq (by simp only [];omega),trivial⟩
 ·have q1:¬ ((i:Int)≠(j:Int)):=by simpa using q1
  first | (refine Zz ?_;show wC _ _ _ _ _ _ _ _ _) | skip
  show Zl _ _ _ _ _ _ _ _
  refine Za rfl<|Za rfl<|Za rfl<|Z4 (a:=(m:Int)) (b:=(i:Int)) rfl rfl ⟨by omega,by omega⟩<|Za rfl<|Za rfl<|Za rfl ?_
  obtain ⟨H3,fH3,pH3,kH3,cH3⟩:=jw (kn:=kn) (lo:=lo) (H:=L1) (by have:=hk.1;omega) hlb hn (cap:=cap) hc (cv:=cv) (a:=m - i) (b:=m) (c:=i) (by omega) (by omega)
  refine Zu (vs:=[.slice (some ⟨bd,0,none⟩) n cap,iv ((m:Int) - (i:Int)),iv (m:Int),iv (i:Int),cv]) rfl (by have q:=Zh fH3;rw [show ((m - i:Nat):Int)=(m:Int) - (i:Int) by omega] at q;exact q) ?_
  have mH3:=kH3.1
  have hk:=hk.trans kH3
  have hc:=cH3
  have hp:=hp.trans (pH3.mono (by omega) (by omega) (by omega))
  refine Zb ?_
  obtain rfl:i=j:=by omega
  rw [ZaK (by omega),hr] at hc hp
  exact And.intro trivial (Exists.intro _ (And.intro rfl ⟨rfl,hp,hk,hc⟩))
set_option maxRecDepth 100000 in
set_option maxHeartbeats 2000000 in
theorem Zb9 (hlo:lo≤H.next) {bd cap n:Nat} {g:Nat→Nat} {v u:Nat→Int} (hlb:lo≤bd) (hn:n≤1000000) (hc:Cl H bd (cG (fun x=>[iv (v x),iv (u x)]) n g)) (hd:∀ k,k < n→g k < n) {fc:FuncId} {caps:Array Value} {key:Nat→Int} (hcmp:Uh Try.prog kn lo bd fc caps (fun x=>.agg #[iv (v x),iv (u x)]) n key H) {a b:Nat} (hab:a≤b) (hb:b≤n) (hid:∀ i j,a≤i→i < j→j < b→g i < g j):∃ H' g',FnX Try.prog kn lo 83 [.slice (some ⟨bd,0,none⟩) n cap,iv (a:Int),iv (b:Int),.func (.func fc) #[] caps] H (.tuple #[]) H'∧PRm a b g g'∧So key a b g'∧KT bd H H'∧Cl H' bd (cG (fun x=>[iv (v x),iv (u x)]) n g'):=by
 have key_:=Zp (kn:=kn) (lo:=lo) (H:=H) (args:=[.slice (some ⟨bd,0,none⟩) n cap,iv (a:Int),iv (b:Int),.func (.func fc) #[] caps]) (Q:=fun w H'=>w=.tuple #[]∧∃ g',PRm a b g g'∧So key a b g'∧KT bd H H'∧Cl H' bd (cG (fun x=>[iv (v x),iv (u x)]) n g')) Try.func83 B83 N83 Z83 L83 (by simp) ?_
 ·obtain ⟨w,H',h,rfl,g',r⟩:=key_;exact ⟨H',g',h,r⟩
 have hk:=KT.refl (H:=H) hc.1
 refine Zc<|Za rfl<|Zs (a:=(a:Int)) (b:=1) rfl rfl ⟨by omega,by omega⟩<|Za rfl<|Zb ?_
 refine Zt (fn:=Try.f83) Zf4 N83 Zgi (fun i:Nat=>[(0,.slice (some ⟨bd,0,none⟩) n cap),(1,iv (a:Int)),(2,iv (b:Int)),(3,.func (.func fc) #[] caps),(8,iv (i:Int))])
  (fun k i H'=>k=b+1 - i∧a+1≤i∧∃ g':Nat→Nat,PRm a (min i b) g g'∧So key a i g'∧KT bd H H'∧Cl H' bd (cG (fun x=>[iv (v x),iv (u x)]) n g')) _ (a+1) ⟨rfl,Nat.le_refl _,g,PRm.refl _ _ _,So.one,hk,hc⟩ ⟨rfl,rfl,rfl,rfl,ivq (by omega),trivial⟩ ?_
 rintro k i L1 ⟨rfl,hi1,gx1,hp,hs,hk,hc⟩
 refine Zc<|Za rfl<|Za rfl<|ZC (a:=(i:Int)) (b:=(b:Int)) rfl rfl<|Zb ?_
 refine And.intro (fun q1=>?_) (fun q1=>?_)
 ·have q1:(i:Int) < (b:Int):=of_decide_eq_true q1
  first | refine Zi ?_ | skip
  refine Zc<|Za rfl<|Za rfl<|Zb ?_
  rw [Nat.min_eq_left (by omega)] at hp
  have hib:i < b:=by omega
  refine Zt (fn:=Try.f83) ZhY N83 ZiZ (fun j:Nat=>[(0,.slice (some ⟨bd,0,none⟩) n cap),(1,iv (a:Int)),(2,iv (b:Int)),(3,.func (.func fc) #[] caps),(8,iv (i:Int)),(9,iv (j:Int))])
   (fun k j H'=>k=j+1∧∃ g':Nat→Nat,PRm a (i+1) g g'∧Inl key a i j g'∧KT bd H H'∧Cl H' bd (cG (fun x=>[iv (v x),iv (u x)]) n g')) _ i ⟨rfl,gx1,hp.mono (Nat.le_refl _) (by omega) (by omega),Inl.init hs (ZeI hp hid hib) (by omega),hk,hc⟩ ⟨rfl,rfl,rfl,rfl,rfl,rfl,trivial⟩ ?_
  rintro k j L2 ⟨rfl,gx2,hp,hin,hk,hc⟩
  have qaj:=hin.aj;have qji:=hin.ji;have hdm:=hp.dom hd (by omega)
  refine YF<|Ze rfl<|Ze rfl<|Q4 (a:=(j:Int)) (b:=(a:Int)) rfl rfl ?_
  intro t2 g2;cases t2
  ·have g2:¬ ((j:Int) > (a:Int)):=of_decide_eq_false g2
   refine Ze rfl<|ZE rfl<|ZE rfl<|ZE rfl<|ZE rfl<|ZE rfl<|ZE rfl<|ZE rfl<|ZE rfl<|ZE rfl<|ZE rfl<|ZE rfl<|ZE rfl<|Yl (v:=.bool false) rfl rfl ?_
   refine ZH (by repeat' first | exact True.intro | exact (fun h=>h) | refine And.intro ?_ ?_ | (intro h;have h:(_:Nat)=_:=h;omega)) ?_
   refine ZP ?_
   first | (refine Zz ?_;show wC _ _ _ _ _ _ _ _ _) | skip
   show Zl _ _ _ _ _ _ _ _
   refine Za rfl<|Zs (a:=(i:Int)) (b:=1) rfl rfl ⟨by omega,by omega⟩<|Za rfl<|Zb ?_
   exact ⟨_,i+1,by omega,⟨rfl,by omega,gx2,by rw [Nat.min_eq_left (by omega)];exact hp,hin.done (fun h=>by omega),hk,hc⟩,rfl,rfl,rfl,rfl,ivq (by omega),trivial⟩
  ·have g2:(j:Int) > (a:Int):=of_decide_eq_true g2
   refine Ze rfl ?_
   refine ZY rfl (Ze rfl ?_)
   refine ZY rfl (Ze rfl ?_)
   refine ZY rfl (Ze rfl ?_)
   refine ZY rfl (ZA (b:=bd) (o:=0) (k:=j) (j:=(j:Int)) rfl rfl (by omega) (by omega) ?_)
   refine ZY rfl (YS (b:=bd) (o:=0+j * 2) rfl hc.rd (XA (z:=2) (fun _=>rfl) (by omega)) ?_)
   refine ZY rfl (Ze rfl ?_)
   refine ZY rfl (Ze rfl ?_)
   refine ZY rfl (Xm (a:=(j:Int)) (b:=1) rfl rfl ⟨by omega,by omega⟩ ?_)
   refine ZY rfl (ZA (b:=bd) (o:=0) (k:=j - 1) (j:=(j:Int) - 1) rfl rfl (by omega) (by omega) ?_)
   refine ZY rfl (YS (b:=bd) (o:=0+(j - 1) * 2) rfl hc.rd (XA (z:=2) (fun _=>rfl) (by omega)) ?_)
   obtain ⟨rH1,H1,fH1,kH1,qH1⟩:=hcmp L2 hk.kp (gx2 j) (gx2 (j - 1)) (hdm _ (by omega)) (hdm _ (by omega))
   refine ZY rfl (YC (vs:=[.agg #[iv (v (gx2 j)),iv (u (gx2 j))],.agg #[iv (v (gx2 (j - 1))),iv (u (gx2 (j - 1)))]]) rfl fH1 ?_)
   have mH1:=kH1.1
   have hc:=kH1.cl hc (by simp)
   have hk:=hk.keep kH1
   refine ZY rfl (Jg (a:=rH1) (b:=0) rfl rfl ?_)
   intro t3 g3;cases t3
   ·have g3:¬ (rH1 < 0):=of_decide_eq_false g3
    refine Yl (v:=.bool false) rfl rfl ?_
    refine ZH (by repeat' first | exact True.intro | exact (fun h=>h) | refine And.intro ?_ ?_ | (intro h;have h:(_:Nat)=_:=h;omega)) ?_
    refine ZP ?_
    first | (refine Zz ?_;show wC _ _ _ _ _ _ _ _ _) | skip
    show Zl _ _ _ _ _ _ _ _
    refine Za rfl<|Zs (a:=(i:Int)) (b:=1) rfl rfl ⟨by omega,by omega⟩<|Za rfl<|Zb ?_
    exact ⟨_,i+1,by omega,⟨rfl,by omega,gx2,by rw [Nat.min_eq_left (by omega)];exact hp,hin.done (fun h=>by omega),hk,hc⟩,rfl,rfl,rfl,rfl,ivq (by omega),trivial⟩
   ·have g3:rH1 < 0:=of_decide_eq_true g3
    refine Yl (v:=.bool true) rfl rfl ?_
    refine ZH (by repeat' first | exact True.intro | exact (fun h=>h) | refine And.intro ?_ ?_ | (intro h;have h:(_:Nat)=_:=h;omega)) ?_
    refine Yz ?_
    first | refine Zi ?_ | skip
    first | refine Ye ?_ | refine Wu ?_ | refine Vw ?_ | (refine YY ?_;refine Ye ?_)
    refine Ze rfl<|Ze rfl<|Ze rfl<|Ze rfl<|Xm (a:=(j:Int)) (b:=1) rfl rfl ⟨by omega,by omega⟩<|Ze rfl<|Ze rfl<|Xm (a:=(j:Int)) (b:=1) rfl rfl ⟨by omega,by omega⟩<|ZA (b:=bd) (o:=0) (k:=j - 1) (j:=(j:Int) - 1) rfl rfl (by omega) (by omega)<|YS (b:=bd) (o:=0+(j - 1) * 2) rfl hc.rd (XA (z:=2) (fun _=>rfl) (by omega))<|Ze rfl<|Ze rfl<|ZA (b:=bd) (o:=0) (k:=j) (j:=(j:Int)) rfl rfl (by omega) (by omega)<|YS (b:=bd) (o:=0+j * 2) rfl hc.rd (XA (z:=2) (fun _=>rfl) (by omega))<|ZA (b:=bd) (o:=0) (k:=j) (j:=(j:Int)) rfl rfl (by omega) (by omega)<|Vj (b:=bd) (o:=0+j * 2) rfl rfl hc hlb rfl rfl (by rw [XO (z:=2) (fun _=>rfl)];omega) ?_
    intro H2 kH2 nH2 sH2 tH2
    have mH2:=kH2.1
    have hk:=hk.put kH2 tH2
    have hc:Cl H2 bd (cG (fun x=>[iv (v x),iv (u x)]) n (upd gx2 j (gx2 (j - 1)))):=by rw [← V7 (z:=2) (fun _=>rfl) (by omega)];exact sH2
    refine ZA (b:=bd) (o:=0) (k:=j - 1) (j:=(j:Int) - 1) rfl rfl (by omega) (by omega)<|Vj (b:=bd) (o:=0+(j - 1) * 2) rfl rfl hc hlb rfl rfl (by rw [XO (z:=2) (fun _=>rfl)];omega) ?_
    intro H3 kH3 nH3 sH3 tH3
    have mH3:=kH3.1
    have hk:=hk.put kH3 tH3
    have hc:Cl H3 bd (cG (fun x=>[iv (v x),iv (u x)]) n (upd (upd gx2 j (gx2 (j - 1))) (j - 1) (gx2 j))):=by rw [← V7 (z:=2) (fun _=>rfl) (by omega)];exact sH3
    have hc:Cl H3 bd (cG (fun x=>[iv (v x),iv (u x)]) n (swp gx2 j (j - 1))):=hc
    refine ZH (by repeat' first | exact True.intro | exact (fun h=>h) | refine And.intro ?_ ?_ | (intro h;have h:(_:Nat)=_:=h;omega)) ?_
    show Zl _ _ _ _ _ _ _ _
    refine Za rfl<|Z4 (a:=(j:Int)) (b:=1) rfl rfl ⟨by omega,by omega⟩<|Za rfl<|Zb ?_
    exact ⟨_,j - 1,by omega,⟨rfl,_,hp.trans (PRm.swap (by omega) (by omega) (by omega) (by omega)),hin.step (by omega) (by omega),hk,hc⟩,rfl,rfl,rfl,rfl,rfl,ivq (by omega),trivial⟩
 ·have q1:¬ ((i:Int) < (b:Int)):=of_decide_eq_false q1
  first | (refine Zz ?_;show wC _ _ _ _ _ _ _ _ _) | skip
  exact And.intro trivial (Exists.intro _ (And.intro rfl ⟨rfl,gx1,by rw [Nat.min_eq_right (by omega)] at hp;exact hp,hs.mono (Nat.le_refl _) (by omega),hk,hc⟩))
end
end
end Go.Ax

/-
 Pool: sorting that keeps the order: merging in place (written by program).
-/
namespace Go.Ax
open Go Go.RowKit Go.Proofs

noncomputable section
noncomputable def R84v:RC:=(.seq (.seq (.reg [oM 25 2,oM 26 1,oS 27 .sub 25 26,oQ 28 .eql 27 1])
 (.cond (.tmp 28) (.seq (.reg [oM 29 2,oM 10 29])
 (.seq (.reg [oM 30 3,oM 11 30])
 (.seq (.block 0 (.other (at_ Try.f84 [0,1,0,1,1,0,0])))
 (.seq (.seq (.reg [oM 54 1,oM 13 54])
 (.block 2 (.other (at_ Try.f84 [0,1,0,1,1,1,0,1,0]))))
 .ret))))
 .skip))
 (.seq (.seq (.reg [oM 77 3,oM 78 2,oS 79 .sub 77 78,oQ 80 .eql 79 1])
 (.cond (.tmp 80) (.seq (.reg [oM 81 1,oM 14 81])
 (.seq (.reg [oM 82 2,oM 15 82])
 (.seq (.block 4 (.other (at_ Try.f84 [1,0,1,0,1,1,0,0])))
 (.seq (.seq (.reg [oM 107 2,oM 17 107])
 (.block 6 (.other (at_ Try.f84 [1,0,1,0,1,1,1,0,1,0]))))
 .ret))))
 .skip))
 (.seq (.reg [oM 129 1, oM 130 3, oS 131 .add 129 130, ⟨some 132, none, (.pur ⟨some 132, (.convert 3 109 (.tmp 131)), 109, "", #[], none⟩)⟩, ⟨some 133, none, (.pur ⟨some 133, (.binOp .shr 109 (.tmp 132) (.const (.int .u64 1)) 109), 109, "", #[], none⟩)⟩, ⟨some 134, none, (.pur ⟨some 134, (.convert 109 3 (.tmp 133)), 3, "", #[], none⟩)⟩, oM 18 134])
 (.seq (.reg [oM 135 18,oM 136 2,oS 137 .add 135 136,oM 19 137])
 (.seq (.reg [oN 20 0,oN 21 0])
 (.seq (.seq (.reg [oM 138 2,oM 139 18,⟨some 140,none,(.cmp .gtr (.tmp 138) (.tmp 139))⟩])
 (.cond (.tmp 140) (.seq (.reg [oM 141 19,oM 142 3,oS 143 .sub 141 142,oM 20 143])
 (.reg [oM 144 18,oM 21 144]))
 (.seq (.reg [oM 145 1,oM 20 145])
 (.reg [oM 146 2,oM 21 146]))))
 (.other (at_ Try.f84 [1,1,1,1,1,1]))))))))
theorem V84:LV Try.prog 220 (at_ Try.f84 []) R84v:=by
 have e:at_ Try.f84 []=(.seq (at_ Try.f84 [0]) (.seq (at_ Try.f84 [1,0]) (.seq (at_ Try.f84 [1,1,0]) (.seq (at_ Try.f84 [1,1,1,0]) (.seq (at_ Try.f84 [1,1,1,1,0]) (.seq (at_ Try.f84 [1,1,1,1,1,0]) (at_ Try.f84 [1,1,1,1,1,1]))))))):=by kernel_rfl
 rw [e]
 exact (.seq (.low (by kernel_rfl)) (.seq (.low (by kernel_rfl)) (.seq (.low (by kernel_rfl)) (.seq (.low (by kernel_rfl)) (.seq (.low (by kernel_rfl)) (.seq (.low (by kernel_rfl)) (.other _)))))))
noncomputable def R84Gv:RC:=(.seq (.reg [oM 147 19,oR 148 .sub 147 1,oM 22 148])
 (.seq (.block 8 (.other (at_ Try.f84 [1,1,1,1,1,1,1,0,0])))
 (.seq (.reg [oM 175 19,oM 176 20,oS 177 .sub 175 176,oM 24 177])
 (.seq (.other (at_ Try.f84 [1,1,1,1,1,1,1,1,1,0]))
 (.seq (.other (at_ Try.f84 [1,1,1,1,1,1,1,1,1,1,0]))
 (.other (at_ Try.f84 [1,1,1,1,1,1,1,1,1,1,1])))))))
theorem Zkk:LV Try.prog 220 (at_ Try.f84 [1,1,1,1,1,1]) R84Gv:=by
 have e:at_ Try.f84 [1,1,1,1,1,1]=(.seq (at_ Try.f84 [1,1,1,1,1,1,0]) (.seq (at_ Try.f84 [1,1,1,1,1,1,1,0]) (.seq (at_ Try.f84 [1,1,1,1,1,1,1,1,0]) (.seq (at_ Try.f84 [1,1,1,1,1,1,1,1,1,0]) (.seq (at_ Try.f84 [1,1,1,1,1,1,1,1,1,1,0]) (at_ Try.f84 [1,1,1,1,1,1,1,1,1,1,1])))))):=by kernel_rfl
 rw [e]
 exact (.seq (.low (by kernel_rfl)) (.seq (.low (by kernel_rfl)) (.seq (.low (by kernel_rfl)) (.seq (.other _) (.seq (.other _) (.other _))))))
noncomputable def R84A:RC:=(.seq (.reg [oM 178 20,oM 179 2,⟨some 180,none,(.cmpb .lss (.tmp 178) (.tmp 179))⟩,oM 181 180,oG 182 181 true 2,oG 183 181 true 24,⟨some 184,(some (181,true)),(.cmpb .lss (.tmp 182) (.tmp 183))⟩,oA 185 181 184])
 (.cond (.tmp 185) (.reg [oM 186 0,oM 187 20,oM 188 2,oM 189 24,oM 190 4,oC 191 98 #[(.tmp 186),(.tmp 187),(.tmp 188),(.tmp 189),(.tmp 190)] #[60,3,3,3,107]])
 .skip))
theorem ZkO:low Try.prog 220 (at_ Try.f84 [1,1,1,1,1,1,1,1,1,0])=some R84A:=by kernel_rfl
noncomputable def R84B:RC:=(.seq (.reg [oM 192 1,oM 193 20,⟨some 194,none,(.cmpb .lss (.tmp 192) (.tmp 193))⟩,oM 195 194,oG 196 195 true 20,oG 197 195 true 18,⟨some 198,(some (195,true)),(.cmpb .lss (.tmp 196) (.tmp 197))⟩,oA 199 195 198])
 (.cond (.tmp 199) (.reg [oM 200 0,oM 201 1,oM 202 20,oM 203 18,oM 204 4,oC 205 84 #[(.tmp 200),(.tmp 201),(.tmp 202),(.tmp 203),(.tmp 204)] #[60,3,3,3,107]])
 .skip))
theorem ZkE:low Try.prog 220 (at_ Try.f84 [1,1,1,1,1,1,1,1,1,1,0])=some R84B:=by kernel_rfl
noncomputable def R84C:RC:=(.seq (.reg [oM 206 18,oM 207 24,⟨some 208,none,(.cmpb .lss (.tmp 206) (.tmp 207))⟩,oM 209 208,oG 210 209 true 24,oG 211 209 true 3,⟨some 212,(some (209,true)),(.cmpb .lss (.tmp 210) (.tmp 211))⟩,oA 213 209 212])
 (.cond (.tmp 213) (.reg [oM 214 0,oM 215 18,oM 216 24,oM 217 3,oM 218 4,oC 219 84 #[(.tmp 214),(.tmp 215),(.tmp 216),(.tmp 217),(.tmp 218)] #[60,3,3,3,107]])
 .skip))
theorem ZkN:low Try.prog 220 (at_ Try.f84 [1,1,1,1,1,1,1,1,1,1,1])=some R84C:=by kernel_rfl
section
variable {kn:Kn} {lo:Nat} {H:Hp}
set_option maxRecDepth 100000 in
set_option maxHeartbeats 2000000 in
theorem ZjE {bd cap n:Nat} {g:Nat→Nat} {v u:Nat→Int} {Hr:Hp} (hlb:lo≤bd) (hn:n≤1000000) (hlo:lo≤Hr.next) (hk:KT bd Hr H) (hc:Cl H bd (cG (fun x=>[iv (v x),iv (u x)]) n g)) {fc:FuncId} {caps:Array Value} {a m b mid s e:Nat} (hsm:s≤m) (hme:m≤e) (heb:e≤n) {S:Rg} {K:Exit→Rg→Hp→Prop} (hS:WB [(0,.slice (some ⟨bd,0,none⟩) n cap),(1,iv (a:Int)),(2,iv (m:Int)),(3,iv (b:Int)),(4,.func (.func fc) #[] caps),(18,iv (mid:Int)),(20,iv (s:Int)),(24,iv (e:Int))] S) (hN:∀ H' S',PRm s e g (rot g s m e)→KT bd Hr H'→Cl H' bd (cG (fun x=>[iv (v x),iv (u x)]) n (rot g s m e))→WB [(0,.slice (some ⟨bd,0,none⟩) n cap),(1,iv (a:Int)),(2,iv (m:Int)),(3,iv (b:Int)),(4,.func (.func fc) #[] caps),(18,iv (mid:Int)),(20,iv (s:Int)),(24,iv (e:Int))] S'→K .normal S' H'):Tri Try.prog kn lo 220 false (at_ Try.f84 [1,1,1,1,1,1,1,1,1,0]) S H K:=by
 refine WZ ZkO hS ?_
 refine Zc<|Za rfl<|Za rfl<|Xh (a:=(s:Int)) (b:=(m:Int)) rfl rfl ?_
 intro t1 g1;cases t1
 ·have g1:¬ ((s:Int) < (m:Int)):=of_decide_eq_false g1
  refine Za rfl<|Zm rfl<|Zm rfl<|Zm rfl<|Zg (v:=.bool false) rfl rfl<|Zb<|ZP ?_
  first | refine Zi ?_ | skip
  have er:=Jc (g:=g) (s:=s) (m:=m) (e:=e) (by omega) (by omega) (by omega)
  exact hN _ _ (by rw [er];exact PRm.refl _ _ _) hk (by rw [er];exact hc) ⟨rfl,rfl,rfl,rfl,rfl,rfl,rfl,rfl,trivial⟩
 ·have g1:(s:Int) < (m:Int):=of_decide_eq_true g1
  refine Za rfl ?_
  refine ZF rfl (Za rfl ?_)
  refine ZF rfl (Za rfl ?_)
  refine ZF rfl (Xh (a:=(m:Int)) (b:=(e:Int)) rfl rfl ?_)
  intro t2 g2;cases t2
  ·have g2:¬ ((m:Int) < (e:Int)):=of_decide_eq_false g2
   refine Zg (v:=.bool false) rfl rfl<|Zb<|ZP ?_
   first | refine Zi ?_ | skip
   have er:=Jc (g:=g) (s:=s) (m:=m) (e:=e) (by omega) (by omega) (by omega)
   exact hN _ _ (by rw [er];exact PRm.refl _ _ _) hk (by rw [er];exact hc) ⟨rfl,rfl,rfl,rfl,rfl,rfl,rfl,rfl,trivial⟩
  ·have g2:(m:Int) < (e:Int):=of_decide_eq_true g2
   refine Zg (v:=.bool true) rfl rfl<|Zb<|Yz ?_
   show Zl _ _ _ _ _ _ _ _
   refine Za rfl<|Za rfl<|Za rfl<|Za rfl<|Za rfl ?_
   obtain ⟨H1,fH1,pH1,kH1,cH1⟩:=Zfs (kn:=kn) (lo:=lo) (H:=H) (by have:=hk.1;omega) hlb hn (cap:=cap) hc (cv:=.func (.func fc) #[] caps) (a:=s) (m:=m) (b:=e) (by omega) (by omega) (by omega)
   refine Zu (vs:=[.slice (some ⟨bd,0,none⟩) n cap,iv (s:Int),iv (m:Int),iv (e:Int),.func (.func fc) #[] caps]) rfl (Zh fH1) ?_
   have mH1:=kH1.1
   have hk:=hk.trans kH1
   have hc:=cH1
   refine Zb ?_
   exact hN _ _ pH1 hk hc ⟨rfl,rfl,rfl,rfl,rfl,rfl,rfl,rfl,trivial⟩
set_option maxRecDepth 100000 in
set_option maxHeartbeats 2000000 in
theorem Zh3 {bd cap n:Nat} {g:Nat→Nat} {v u:Nat→Int} {Hr:Hp} (hlb:lo≤bd) (hn:n≤1000000) (hlo:lo≤Hr.next) (hk:KT bd Hr H) (hc:Cl H bd (cG (fun x=>[iv (v x),iv (u x)]) n g)) {fc:FuncId} {caps:Array Value} {M a m b mid s e:Nat} {key:Nat→Int} (ih:∀ (H1:Hp) (a m b:Nat) (g:Nat→Nat),KT bd Hr H1→a < m→m < b→b≤n→b - a < M→(∀ k,k < n→g k < n)→So key a m g→So key m b g→Cr a m b g→Cl H1 bd (cG (fun x=>[iv (v x),iv (u x)]) n g)→∃ H' g',FnX Try.prog kn lo 84 [.slice (some ⟨bd,0,none⟩) n cap,iv (a:Int),iv (m:Int),iv (b:Int),.func (.func fc) #[] caps] H1 (.tuple #[]) H'∧PRm a b g g'∧So key a b g'∧KT bd H1 H'∧Cl H' bd (cG (fun x=>[iv (v x),iv (u x)]) n g')) (h1:a≤s) (h2:s≤mid) (hz:mid≤n) (hM:mid - a < M) (hd:∀ k,k < n→g k < n) (hp1:So key a s g) (hp2:So key s mid g) (hcr:Cr a s mid g) {S:Rg} {K:Exit→Rg→Hp→Prop} (hS:WB [(0,.slice (some ⟨bd,0,none⟩) n cap),(1,iv (a:Int)),(2,iv (m:Int)),(3,iv (b:Int)),(4,.func (.func fc) #[] caps),(18,iv (mid:Int)),(20,iv (s:Int)),(24,iv (e:Int))] S) (hN:∀ H' S' g',PRm a mid g g'→So key a mid g'→KT bd Hr H'→Cl H' bd (cG (fun x=>[iv (v x),iv (u x)]) n g')→WB [(0,.slice (some ⟨bd,0,none⟩) n cap),(1,iv (a:Int)),(2,iv (m:Int)),(3,iv (b:Int)),(4,.func (.func fc) #[] caps),(18,iv (mid:Int)),(20,iv (s:Int)),(24,iv (e:Int))] S'→K .normal S' H'):Tri Try.prog kn lo 220 false (at_ Try.f84 [1,1,1,1,1,1,1,1,1,1,0]) S H K:=by
 refine WZ ZkE hS ?_
 refine Zc<|Za rfl<|Za rfl<|Xh (a:=(a:Int)) (b:=(s:Int)) rfl rfl ?_
 intro t1 g1;cases t1
 ·have g1:¬ ((a:Int) < (s:Int)):=of_decide_eq_false g1
  refine Za rfl<|Zm rfl<|Zm rfl<|Zm rfl<|Zg (v:=.bool false) rfl rfl<|Zb<|ZP ?_
  first | refine Zi ?_ | skip
  exact hN _ _ g (PRm.refl _ _ _) (by rcases Nat.lt_or_ge a s with c | c;exact hp1.mono (Nat.le_refl _) (by omega);exact hp2.mono (by omega) (Nat.le_refl _)) hk hc ⟨rfl,rfl,rfl,rfl,rfl,rfl,rfl,rfl,trivial⟩
 ·have g1:(a:Int) < (s:Int):=of_decide_eq_true g1
  refine Za rfl ?_
  refine ZF rfl (Za rfl ?_)
  refine ZF rfl (Za rfl ?_)
  refine ZF rfl (Xh (a:=(s:Int)) (b:=(mid:Int)) rfl rfl ?_)
  intro t2 g2;cases t2
  ·have g2:¬ ((s:Int) < (mid:Int)):=of_decide_eq_false g2
   refine Zg (v:=.bool false) rfl rfl<|Zb<|ZP ?_
   first | refine Zi ?_ | skip
   exact hN _ _ g (PRm.refl _ _ _) (by rcases Nat.lt_or_ge a s with c | c;exact hp1.mono (Nat.le_refl _) (by omega);exact hp2.mono (by omega) (Nat.le_refl _)) hk hc ⟨rfl,rfl,rfl,rfl,rfl,rfl,rfl,rfl,trivial⟩
  ·have g2:(s:Int) < (mid:Int):=of_decide_eq_true g2
   refine Zg (v:=.bool true) rfl rfl<|Zb<|Yz ?_
   show Zl _ _ _ _ _ _ _ _
   refine Za rfl<|Za rfl<|Za rfl<|Za rfl<|Za rfl ?_
   obtain ⟨H1,gH1,fH1,pH1,sH1,kH1,cH1⟩:=ih H a s mid g hk (by omega) (by omega) (by omega) (by omega) hd hp1 hp2 hcr hc
   refine Zu (vs:=[.slice (some ⟨bd,0,none⟩) n cap,iv (a:Int),iv (s:Int),iv (mid:Int),.func (.func fc) #[] caps]) rfl (Zh fH1) ?_
   have mH1:=kH1.1
   have hk:=hk.trans kH1
   have hc:=cH1
   refine Zb ?_
   exact hN _ _ _ pH1 sH1 hk hc ⟨rfl,rfl,rfl,rfl,rfl,rfl,rfl,rfl,trivial⟩
set_option maxRecDepth 100000 in
set_option maxHeartbeats 2000000 in
theorem Zjd {bd cap n:Nat} {g:Nat→Nat} {v u:Nat→Int} {Hr:Hp} (hlb:lo≤bd) (hn:n≤1000000) (hlo:lo≤Hr.next) (hk:KT bd Hr H) (hc:Cl H bd (cG (fun x=>[iv (v x),iv (u x)]) n g)) {fc:FuncId} {caps:Array Value} {M a m b mid s e:Nat} {key:Nat→Int} (ih:∀ (H1:Hp) (a m b:Nat) (g:Nat→Nat),KT bd Hr H1→a < m→m < b→b≤n→b - a < M→(∀ k,k < n→g k < n)→So key a m g→So key m b g→Cr a m b g→Cl H1 bd (cG (fun x=>[iv (v x),iv (u x)]) n g)→∃ H' g',FnX Try.prog kn lo 84 [.slice (some ⟨bd,0,none⟩) n cap,iv (a:Int),iv (m:Int),iv (b:Int),.func (.func fc) #[] caps] H1 (.tuple #[]) H'∧PRm a b g g'∧So key a b g'∧KT bd H1 H'∧Cl H' bd (cG (fun x=>[iv (v x),iv (u x)]) n g')) (h1:mid≤e) (h2:e≤b) (hz:b≤n) (hM:b - mid < M) (hd:∀ k,k < n→g k < n) (hp1:So key mid e g) (hp2:So key e b g) (hcr:Cr mid e b g) {S:Rg} {K:Exit→Rg→Hp→Prop} (hS:WB [(0,.slice (some ⟨bd,0,none⟩) n cap),(1,iv (a:Int)),(2,iv (m:Int)),(3,iv (b:Int)),(4,.func (.func fc) #[] caps),(18,iv (mid:Int)),(20,iv (s:Int)),(24,iv (e:Int))] S) (hN:∀ H' S' g',PRm mid b g g'→So key mid b g'→KT bd Hr H'→Cl H' bd (cG (fun x=>[iv (v x),iv (u x)]) n g')→WB [(0,.slice (some ⟨bd,0,none⟩) n cap),(1,iv (a:Int)),(2,iv (m:Int)),(3,iv (b:Int)),(4,.func (.func fc) #[] caps),(18,iv (mid:Int)),(20,iv (s:Int)),(24,iv (e:Int))] S'→K .normal S' H'):Tri Try.prog kn lo 220 false (at_ Try.f84 [1,1,1,1,1,1,1,1,1,1,1]) S H K:=by
 refine WZ ZkN hS ?_
 refine Zc<|Za rfl<|Za rfl<|Xh (a:=(mid:Int)) (b:=(e:Int)) rfl rfl ?_
 intro t1 g1;cases t1
 ·have g1:¬ ((mid:Int) < (e:Int)):=of_decide_eq_false g1
  refine Za rfl<|Zm rfl<|Zm rfl<|Zm rfl<|Zg (v:=.bool false) rfl rfl<|Zb<|ZP ?_
  first | refine Zi ?_ | skip
  exact hN _ _ g (PRm.refl _ _ _) (by rcases Nat.lt_or_ge mid e with c | c;exact hp1.mono (Nat.le_refl _) (by omega);exact hp2.mono (by omega) (Nat.le_refl _)) hk hc ⟨rfl,rfl,rfl,rfl,rfl,rfl,rfl,rfl,trivial⟩
 ·have g1:(mid:Int) < (e:Int):=of_decide_eq_true g1
  refine Za rfl ?_
  refine ZF rfl (Za rfl ?_)
  refine ZF rfl (Za rfl ?_)
  refine ZF rfl (Xh (a:=(e:Int)) (b:=(b:Int)) rfl rfl ?_)
  intro t2 g2;cases t2
  ·have g2:¬ ((e:Int) < (b:Int)):=of_decide_eq_false g2
   refine Zg (v:=.bool false) rfl rfl<|Zb<|ZP ?_
   first | refine Zi ?_ | skip
   exact hN _ _ g (PRm.refl _ _ _) (by rcases Nat.lt_or_ge mid e with c | c;exact hp1.mono (Nat.le_refl _) (by omega);exact hp2.mono (by omega) (Nat.le_refl _)) hk hc ⟨rfl,rfl,rfl,rfl,rfl,rfl,rfl,rfl,trivial⟩
  ·have g2:(e:Int) < (b:Int):=of_decide_eq_true g2
   refine Zg (v:=.bool true) rfl rfl<|Zb<|Yz ?_
   show Zl _ _ _ _ _ _ _ _
   refine Za rfl<|Za rfl<|Za rfl<|Za rfl<|Za rfl ?_
   obtain ⟨H1,gH1,fH1,pH1,sH1,kH1,cH1⟩:=ih H mid e b g hk (by omega) (by omega) (by omega) (by omega) hd hp1 hp2 hcr hc
   refine Zu (vs:=[.slice (some ⟨bd,0,none⟩) n cap,iv (mid:Int),iv (e:Int),iv (b:Int),.func (.func fc) #[] caps]) rfl (Zh fH1) ?_
   have mH1:=kH1.1
   have hk:=hk.trans kH1
   have hc:=cH1
   refine Zb ?_
   exact hN _ _ _ pH1 sH1 hk hc ⟨rfl,rfl,rfl,rfl,rfl,rfl,rfl,rfl,trivial⟩
set_option maxRecDepth 100000 in
set_option maxHeartbeats 2000000 in
theorem Zgh {bd cap n:Nat} {g:Nat→Nat} {v u:Nat→Int} {Hr:Hp} (hlb:lo≤bd) (hn:n≤1000000) (hlo:lo≤Hr.next) (hk:KT bd Hr H) (hc:Cl H bd (cG (fun x=>[iv (v x),iv (u x)]) n g)) {fc:FuncId} {caps:Array Value} {M a m b mid nn s0 r0:Nat} {key:Nat→Int} (ih:∀ (H1:Hp) (a m b:Nat) (g:Nat→Nat),KT bd Hr H1→a < m→m < b→b≤n→b - a < M→(∀ k,k < n→g k < n)→So key a m g→So key m b g→Cr a m b g→Cl H1 bd (cG (fun x=>[iv (v x),iv (u x)]) n g)→∃ H' g',FnX Try.prog kn lo 84 [.slice (some ⟨bd,0,none⟩) n cap,iv (a:Int),iv (m:Int),iv (b:Int),.func (.func fc) #[] caps] H1 (.tuple #[]) H'∧PRm a b g g'∧So key a b g'∧KT bd H1 H'∧Cl H' bd (cG (fun x=>[iv (v x),iv (u x)]) n g')) (hcmp:Uh Try.prog kn lo bd fc caps (fun x=>.agg #[iv (v x),iv (u x)]) n key Hr) (ham:a < m) (hmb:m < b) (hb:b≤n) (hM:b - a≤M) (hmid:mid=(a+b) / 2) (hnn:nn=mid+m) (hs0:(mid < m∧s0+b=nn∧r0=mid)∨(m≤mid∧s0=a∧r0=m)) (h2:2≤m - a) (hd:∀ k,k < n→g k < n) (hp1:So key a m g) (hp2:So key m b g) (hcr:Cr a m b g) {S:Rg} {K:Exit→Rg→Hp→Prop} (hS:WB [(0,.slice (some ⟨bd,0,none⟩) n cap),(1,iv (a:Int)),(2,iv (m:Int)),(3,iv (b:Int)),(4,.func (.func fc) #[] caps),(18,iv (mid:Int)),(19,iv (nn:Int)),(20,iv (s0:Int)),(21,iv (r0:Int))] S) (hN:∀ H' S' g',PRm a b g g'→So key a b g'→KT bd Hr H'→Cl H' bd (cG (fun x=>[iv (v x),iv (u x)]) n g')→K .normal S' H'):Tri Try.prog kn lo 220 false (at_ Try.f84 [1,1,1,1,1,1]) S H K:=by
 refine Zc4 Zkk hS ?_
 refine Zc<|Za rfl<|Z4 (a:=(nn:Int)) (b:=1) rfl rfl ⟨by omega,by omega⟩<|Za rfl<|Zb ?_
 obtain ⟨pp,hpp⟩:∃ pp,pp+1=nn:=⟨nn - 1,by omega⟩
 refine Zt (fn:=Try.f84) ZjU N84 Ziv (fun x:Nat × Nat=>[(0,.slice (some ⟨bd,0,none⟩) n cap),(1,iv (a:Int)),(2,iv (m:Int)),(3,iv (b:Int)),(4,.func (.func fc) #[] caps),(18,iv (mid:Int)),(19,iv (nn:Int)),(20,iv (x.1:Int)),(21,iv (x.2:Int)),(22,iv (pp:Int))])
  (fun k x H'=>k=x.2 - x.1∧s0≤x.1∧x.1≤x.2∧x.2≤r0∧(x.1=s0∨¬ key (g (pp - (x.1 - 1))) < key (g (x.1 - 1)))∧(x.2=r0∨key (g (pp - x.2)) < key (g x.2))∧KT bd Hr H'∧Cl H' bd (cG (fun x=>[iv (v x),iv (u x)]) n g)) _ (s0,r0) ⟨rfl,Nat.le_refl _,by simp only [];omega,Nat.le_refl _,.inl rfl,.inl rfl,hk,hc⟩ ⟨rfl,rfl,rfl,rfl,rfl,rfl,rfl,rfl,rfl,ivq (by omega),trivial⟩ ?_
 rintro k ⟨s,r⟩ L1 ⟨rfl,hs1,hs2,hs3,hlw,hup,hk,hc⟩
 simp only [] at hs1 hs2 hs3 hlw hup
 have hdm:=hd
 refine Zc<|Za rfl<|Za rfl<|ZC (a:=(s:Int)) (b:=(r:Int)) rfl rfl<|Zb ?_
 refine And.intro (fun q1=>?_) (fun q1=>?_)
 ·have q1:(s:Int) < (r:Int):=of_decide_eq_true q1
  first | refine Zi ?_ | skip
  refine Zc<|Za rfl<|Za rfl<|Zs (a:=(s:Int)) (b:=(r:Int)) rfl rfl ⟨by omega,by omega⟩ ?_
  obtain ⟨h5,eh5⟩:∃ h:Nat,h=(s+r) / 2:=⟨_,rfl⟩
  refine Zg (v:=.int .u64 ((s+r:Nat):Int)) rfl (zC (n:=s+r) (j:=(s:Int)+(r:Int)) (by omega) rfl (by omega))<|Zg (v:=.int .u64 ((h5:Nat):Int)) rfl (by rw [eh5];exact Qg (m:=s+r) (d:=1) (by decide) rfl rfl)<|Zg (v:=iv (h5:Int)) rfl (ju (n:=h5) (j:=(h5:Int)) (by omega) rfl rfl)<|Za rfl<|Zb<|YF<|Ze rfl<|Ze rfl<|Ze rfl<|Ze rfl<|Xm (a:=(pp:Int)) (b:=(h5:Int)) rfl rfl ⟨by omega,by omega⟩<|ZA (b:=bd) (o:=0) (k:=pp - h5) (j:=(pp:Int) - (h5:Int)) rfl rfl (by omega) (by omega)<|YS (b:=bd) (o:=0+(pp - h5) * 2) rfl hc.rd (XA (z:=2) (fun _=>rfl) (by omega))<|Ze rfl<|Ze rfl<|ZA (b:=bd) (o:=0) (k:=h5) (j:=(h5:Int)) rfl rfl (by omega) (by omega)<|YS (b:=bd) (o:=0+h5 * 2) rfl hc.rd (XA (z:=2) (fun _=>rfl) (by omega)) ?_
  obtain ⟨rH1,H1,fH1,kH1,qH1⟩:=hcmp L1 hk.kp (g (pp - h5)) (g h5) (hdm _ (by omega)) (hdm _ (by omega))
  refine YC (vs:=[.agg #[iv (v (g (pp - h5))),iv (u (g (pp - h5)))],.agg #[iv (v (g h5)),iv (u (g h5))]]) rfl fH1 ?_
  have mH1:=kH1.1
  have hc:=kH1.cl hc (by simp)
  have hk:=hk.keep kH1
  refine Vd (a:=rH1) (b:=0) rfl rfl<|Yl (v:=.bool (!(decide (rH1 < 0)))) rfl rfl ?_
  refine ZH (by repeat' first | exact True.intro | exact (fun h=>h) | refine And.intro ?_ ?_ | (intro h;have h:(_:Nat)=_:=h;omega)) ?_
  refine And.intro (fun q2=>?_) (fun q2=>?_)
  ·have q2:¬ (rH1 < 0):=by simpa using q2
   show Zl _ _ _ _ _ _ _ _
   refine Za rfl<|Zs (a:=(h5:Int)) (b:=1) rfl rfl ⟨by omega,by omega⟩<|Za rfl<|Zb ?_
   exact ⟨_,(h5+1,r),by simp only [];omega,⟨rfl,by simp only [];omega,by simp only [];omega,hs3,.inr (by simp only [];rw [show h5+1 - 1=h5 by omega];exact fun hh=>by have:=qH1.2 hh;omega),hup,hk,hc⟩,rfl,rfl,rfl,rfl,rfl,rfl,rfl,ivq (by simp only [];omega),rfl,rfl,trivial⟩
  ·have q2:¬ (¬ (rH1 < 0)):=by simpa using q2
   show Zl _ _ _ _ _ _ _ _
   refine Za rfl<|Za rfl<|Zb ?_
   exact ⟨_,(s,h5),by simp only [];omega,⟨rfl,hs1,by simp only [];omega,by simp only [];omega,hlw,.inr (qH1.1 (by omega)),hk,hc⟩,rfl,rfl,rfl,rfl,rfl,rfl,rfl,rfl,ivq (by simp only []),rfl,trivial⟩
 ·have q1:¬ ((s:Int) < (r:Int)):=of_decide_eq_false q1
  first | (refine Zz ?_;show wC _ _ _ _ _ _ _ _ _) | skip
  refine Zc<|Za rfl<|Za rfl<|Z4 (a:=(nn:Int)) (b:=(s:Int)) rfl rfl ⟨by omega,by omega⟩<|Za rfl<|Zb ?_
  obtain rfl:s=r:=by omega
  obtain ⟨e,he⟩:∃ e,e+s=nn:=⟨nn - s,by omega⟩
  have hcut:ZhG key a m b s e g:=by
   refine ⟨by omega,by omega,by omega,by omega,?_,?_⟩
   ·by_cases z:s=s0
    ·rcases hs0 with ⟨z1,z2,z3⟩ | ⟨z1,z2,z3⟩
     ·exact .inr (.inl (by omega))
     ·exact .inl (by omega)
    ·have y:=hlw.resolve_left z
     rw [show pp - (s - 1)=e by omega] at y
     exact .inr (.inr (.of_not y (hcr (s - 1) e (by omega) (by omega) (by omega) (by omega))))
   ·by_cases z:s=r0
    ·rcases hs0 with ⟨z1,z2,z3⟩ | ⟨z1,z2,z3⟩
     ·exact .inr (.inl (by omega))
     ·exact .inl (by omega)
    ·have y:=hup.resolve_left z
     rw [show pp - s=e - 1 by omega] at y
     exact .inr (.inr (.lt y))
  have hpt:=ZbX hp1 hp2 hcr hcut
  rw [show s+(e - m)=mid by have:=hcut.me;omega] at hpt
  have hbe:=hcut.eb;have hbm:=hcut.sm;have hbl:=hcut.l;have hbn:=hcut.me
  refine ZjE hlb hn hlo hk hc (mid:=mid) (b:=b) hbm hbn (by omega) (by exact ⟨rfl,rfl,rfl,rfl,rfl,rfl,rfl,ivq (by omega),trivial⟩) ?_
  intro HA SA_ pA kA cA sA
  have pA2:=pA.mono hbl (by omega) hbe
  have hdA:=pA2.dom hd hb
  refine Zh3 hlb hn hlo kA cA ih (by omega) (by omega) (by omega) (by omega) hdA hpt.p1 hpt.p2 hpt.c1 sA ?_
  intro HB SB gB pB oB kB cB sB
  have hdB:=pB.dom hdA (by omega)
  obtain ⟨r1,r2,r3⟩:=hpt.right pB (by omega)
  refine Zjd hlb hn hlo kB cB ih (by omega) (by omega) hb (by omega) hdB r1 r2 r3 sB ?_
  intro HC SC gC pC oC kC cC sC
  exact hN _ _ gC (pA2.trans ((pB.mono (Nat.le_refl _) (by omega) (by omega)).trans (pC.mono (by omega) (by omega) (Nat.le_refl _)))) (hpt.done (by omega) (by omega) pB oB pC oC) kC cC
set_option maxRecDepth 100000 in
set_option maxHeartbeats 2000000 in
theorem ZcJ (hlo:lo≤H.next) {bd cap n M:Nat} {g:Nat→Nat} {v u:Nat→Int} {Hr:Hp} (hlb:lo≤bd) (hn:n≤1000000) (hk0:KT bd Hr H) (hc:Cl H bd (cG (fun x=>[iv (v x),iv (u x)]) n g)) {fc:FuncId} {caps:Array Value} {key:Nat→Int} (ih:∀ (H1:Hp) (a m b:Nat) (g:Nat→Nat),KT bd Hr H1→a < m→m < b→b≤n→b - a < M→(∀ k,k < n→g k < n)→So key a m g→So key m b g→Cr a m b g→Cl H1 bd (cG (fun x=>[iv (v x),iv (u x)]) n g)→∃ H' g',FnX Try.prog kn lo 84 [.slice (some ⟨bd,0,none⟩) n cap,iv (a:Int),iv (m:Int),iv (b:Int),.func (.func fc) #[] caps] H1 (.tuple #[]) H'∧PRm a b g g'∧So key a b g'∧KT bd H1 H'∧Cl H' bd (cG (fun x=>[iv (v x),iv (u x)]) n g')) (hcmp0:Uh Try.prog kn lo bd fc caps (fun x=>.agg #[iv (v x),iv (u x)]) n key Hr) {a m b:Nat} (ham:a < m) (hmb:m < b) (hb:b≤n) (hM:b - a≤M) (hd:∀ k,k < n→g k < n) (hp1:So key a m g) (hp2:So key m b g) (hcr:Cr a m b g) :
  ∃ H' g',FnX Try.prog kn lo 84 [.slice (some ⟨bd,0,none⟩) n cap,iv (a:Int),iv (m:Int),iv (b:Int),.func (.func fc) #[] caps] H (.tuple #[]) H'∧PRm a b g g'∧So key a b g'∧KT bd H H'∧Cl H' bd (cG (fun x=>[iv (v x),iv (u x)]) n g'):=by
 have key_:=Zed (kn:=kn) (lo:=lo) (H:=H) (args:=[.slice (some ⟨bd,0,none⟩) n cap,iv (a:Int),iv (m:Int),iv (b:Int),.func (.func fc) #[] caps]) (Q:=fun w H'=>w=.tuple #[]∧∃ g',PRm a b g g'∧So key a b g'∧KT bd H H'∧Cl H' bd (cG (fun x=>[iv (v x),iv (u x)]) n g')) Try.func84 B84 N84 Z84 V84 (by simp) ?_
 ·obtain ⟨w,H',h,rfl,g',r⟩:=key_;exact ⟨H',g',h,r⟩
 have hk:=KT.refl (H:=H) hc.1
 have hcmp:=hcmp0.from hk0.kp
 refine Zc<|Za rfl<|Za rfl<|Z4 (a:=(m:Int)) (b:=(a:Int)) rfl rfl ⟨by omega,by omega⟩<|VJ (a:=(m:Int) - (a:Int)) (b:=1) rfl rfl<|Zb ?_
 refine And.intro (fun q1=>?_) (fun q1=>?_)
 ·have q1:((m:Int) - (a:Int))=1:=by simpa using q1
  refine Zc<|Za rfl<|Za rfl<|Zb<|Zc<|Za rfl<|Za rfl<|Zb ?_
  refine Zt (fn:=Try.f84) Zip N84 Zj4 (fun x:Nat × Nat=>[(0,.slice (some ⟨bd,0,none⟩) n cap),(1,iv (a:Int)),(2,iv (m:Int)),(3,iv (b:Int)),(4,.func (.func fc) #[] caps),(10,iv (x.1:Int)),(11,iv (x.2:Int))])
   (fun k x H'=>k=x.2 - x.1∧m≤x.1∧x.1≤x.2∧x.2≤b∧(∀ p,m≤p→p < x.1→key (g p) < key (g a))∧(∀ p,x.2≤p→p < b→¬ key (g p) < key (g a))∧KT bd H H'∧Cl H' bd (cG (fun x=>[iv (v x),iv (u x)]) n g)) _ (m,b) ⟨rfl,Nat.le_refl _,by simp only [];omega,Nat.le_refl _,fun p p1 p2=>absurd p2 (by simp only [];omega),fun p p1 p2=>absurd p2 (by simp only [] at p1;omega),hk,hc⟩ ⟨rfl,rfl,rfl,rfl,rfl,rfl,rfl,trivial⟩ ?_
  rintro k ⟨i,j⟩ L1 ⟨rfl,hi1,hi2,hi3,hlw,hup,hk,hc⟩
  simp only [] at hi1 hi2 hi3 hlw hup
  have hdm:=hd
  refine Zc<|Za rfl<|Za rfl<|ZC (a:=(i:Int)) (b:=(j:Int)) rfl rfl<|Zb ?_
  refine And.intro (fun q2=>?_) (fun q2=>?_)
  ·have q2:(i:Int) < (j:Int):=of_decide_eq_true q2
   first | refine Zi ?_ | skip
   refine Zc<|Za rfl<|Za rfl<|Zs (a:=(i:Int)) (b:=(j:Int)) rfl rfl ⟨by omega,by omega⟩ ?_
   obtain ⟨h6,eh6⟩:∃ h:Nat,h=(i+j) / 2:=⟨_,rfl⟩
   refine Zg (v:=.int .u64 ((i+j:Nat):Int)) rfl (zC (n:=i+j) (j:=(i:Int)+(j:Int)) (by omega) rfl (by omega))<|Zg (v:=.int .u64 ((h6:Nat):Int)) rfl (by rw [eh6];exact Qg (m:=i+j) (d:=1) (by decide) rfl rfl)<|Zg (v:=iv (h6:Int)) rfl (ju (n:=h6) (j:=(h6:Int)) (by omega) rfl rfl)<|Za rfl<|Zb<|YF<|Ze rfl<|Ze rfl<|Ze rfl<|ZA (b:=bd) (o:=0) (k:=h6) (j:=(h6:Int)) rfl rfl (by omega) (by omega)<|YS (b:=bd) (o:=0+h6 * 2) rfl hc.rd (XA (z:=2) (fun _=>rfl) (by omega))<|Ze rfl<|Ze rfl<|ZA (b:=bd) (o:=0) (k:=a) (j:=(a:Int)) rfl rfl (by omega) (by omega)<|YS (b:=bd) (o:=0+a * 2) rfl hc.rd (XA (z:=2) (fun _=>rfl) (by omega)) ?_
   obtain ⟨rH1,H1,fH1,kH1,qH1⟩:=hcmp L1 hk.kp (g h6) (g a) (hdm _ (by omega)) (hdm _ (by omega))
   refine YC (vs:=[.agg #[iv (v (g h6)),iv (u (g h6))],.agg #[iv (v (g a)),iv (u (g a))]]) rfl fH1 ?_
   have mH1:=kH1.1
   have hc:=kH1.cl hc (by simp)
   have hk:=hk.keep kH1
   refine Vd (a:=rH1) (b:=0) rfl rfl ?_
   refine ZH (by repeat' first | exact True.intro | exact (fun h=>h) | refine And.intro ?_ ?_ | (intro h;have h:(_:Nat)=_:=h;omega)) ?_
   refine And.intro (fun q3=>?_) (fun q3=>?_)
   ·have q3:rH1 < 0:=of_decide_eq_true q3
    show Zl _ _ _ _ _ _ _ _
    refine Za rfl<|Zs (a:=(h6:Int)) (b:=1) rfl rfl ⟨by omega,by omega⟩<|Za rfl<|Zb ?_
    exact ⟨_,(h6+1,j),by simp only [];omega,⟨rfl,by simp only [];omega,by simp only [];omega,hi3,fun p p1 p2=>by have z:=qH1.1 (by omega);have y:=hp2.le (i:=p) (j:=h6) (by omega) (by omega) (by omega);omega,hup,hk,hc⟩,rfl,rfl,rfl,rfl,rfl,ivq (by simp only [];omega),rfl,trivial⟩
   ·have q3:¬ (rH1 < 0):=of_decide_eq_false q3
    show Zl _ _ _ _ _ _ _ _
    refine Za rfl<|Za rfl<|Zb ?_
    exact ⟨_,(i,h6),by simp only [];omega,⟨rfl,hi1,by simp only [];omega,by simp only [];omega,hlw,fun p p1 p2 hh=>by have y:=hp2.le (i:=h6) (j:=p) (by omega) p1 (by omega);have z:=qH1.2 (by omega);omega,hk,hc⟩,rfl,rfl,rfl,rfl,rfl,rfl,ivq (by simp only []),trivial⟩
  ·have q2:¬ ((i:Int) < (j:Int)):=of_decide_eq_false q2
   first | (refine Zz ?_;show wC _ _ _ _ _ _ _ _ _) | skip
   refine Zc<|Za rfl<|Za rfl<|Zb ?_
   obtain rfl:i=j:=by omega
   obtain rfl:m=a+1:=by omega
   refine Zt (fn:=Try.f84) ZjS N84 Zj6 (fun t:Nat=>[(0,.slice (some ⟨bd,0,none⟩) n cap),(10,iv (i:Int)),(13,iv (t:Int))])
    (fun k t H'=>k+t=i - 1∧a≤t∧PRm a b g (mvR g a t)∧KT bd H H'∧Cl H' bd (cG (fun x=>[iv (v x),iv (u x)]) n (mvR g a t))) (i - 1 - a) a ⟨by omega,Nat.le_refl _,by rw [Jq];exact PRm.refl _ _ _,hk,by rw [Jq];exact hc⟩ ⟨rfl,rfl,rfl,trivial⟩ ?_
   rintro k t L2 ⟨hkt,ht,hp,hk,hc⟩
   refine Zc<|Za rfl<|Za rfl<|Z4 (a:=(i:Int)) (b:=1) rfl rfl ⟨by omega,by omega⟩<|ZC (a:=(t:Int)) (b:=(i:Int) - 1) rfl rfl<|Zb ?_
   refine And.intro (fun q4=>?_) (fun q4=>?_)
   ·have q4:(t:Int) < ((i:Int) - 1):=of_decide_eq_true q4
    first | refine Zi ?_ | skip
    first | refine Ye ?_ | refine Wu ?_ | refine Vw ?_ | (refine YY ?_;refine Ye ?_)
    refine Ze rfl<|Ze rfl<|Ze rfl<|Ze rfl<|XX (a:=(t:Int)) (b:=1) rfl rfl ⟨by omega,by omega⟩<|Ze rfl<|Ze rfl<|XX (a:=(t:Int)) (b:=1) rfl rfl ⟨by omega,by omega⟩<|ZA (b:=bd) (o:=0) (k:=t+1) (j:=(t:Int)+1) rfl rfl (by omega) (by omega)<|YS (b:=bd) (o:=0+(t+1) * 2) rfl hc.rd (XA (z:=2) (fun _=>rfl) (by omega))<|Ze rfl<|Ze rfl<|ZA (b:=bd) (o:=0) (k:=t) (j:=(t:Int)) rfl rfl (by omega) (by omega)<|YS (b:=bd) (o:=0+t * 2) rfl hc.rd (XA (z:=2) (fun _=>rfl) (by omega))<|ZA (b:=bd) (o:=0) (k:=t) (j:=(t:Int)) rfl rfl (by omega) (by omega)<|Vj (b:=bd) (o:=0+t * 2) rfl rfl hc hlb rfl rfl (by rw [XO (z:=2) (fun _=>rfl)];omega) ?_
    intro H2 kH2 nH2 sH2 tH2
    have mH2:=kH2.1
    have hk:=hk.put kH2 tH2
    have hc:Cl H2 bd (cG (fun x=>[iv (v x),iv (u x)]) n (upd (mvR g a t) t ((mvR g a t) (t+1)))):=by rw [← V7 (z:=2) (fun _=>rfl) (by omega)];exact sH2
    refine ZA (b:=bd) (o:=0) (k:=t+1) (j:=(t:Int)+1) rfl rfl (by omega) (by omega)<|Vj (b:=bd) (o:=0+(t+1) * 2) rfl rfl hc hlb rfl rfl (by rw [XO (z:=2) (fun _=>rfl)];omega) ?_
    intro H3 kH3 nH3 sH3 tH3
    have mH3:=kH3.1
    have hk:=hk.put kH3 tH3
    have hc:Cl H3 bd (cG (fun x=>[iv (v x),iv (u x)]) n (upd (upd (mvR g a t) t ((mvR g a t) (t+1))) (t+1) ((mvR g a t) t))):=by rw [← V7 (z:=2) (fun _=>rfl) (by omega)];exact sH3
    have hc:Cl H3 bd (cG (fun x=>[iv (v x),iv (u x)]) n (swp (mvR g a t) t (t+1))):=hc
    refine ZH (by repeat' first | exact True.intro | exact (fun h=>h) | refine And.intro ?_ ?_ | (intro h;have h:(_:Nat)=_:=h;omega)) ?_
    show Zl _ _ _ _ _ _ _ _
    refine Za rfl<|Zs (a:=(t:Int)) (b:=1) rfl rfl ⟨by omega,by omega⟩<|Za rfl<|Zb ?_
    rw [Jy (by omega)] at hc
    exact ⟨k - 1,t+1,by omega,⟨by omega,by omega,by rw [← Jy (by omega)];exact hp.trans (PRm.swap (by omega) (by omega) (by omega) (by omega)),hk,hc⟩,rfl,rfl,ivq (by omega),trivial⟩
   ·have q4:¬ ((t:Int) < ((i:Int) - 1)):=of_decide_eq_false q4
    first | (refine Zz ?_;show wC _ _ _ _ _ _ _ _ _) | skip
    have eti:t=i - 1:=by omega
    rw [eti] at hp hc
    exact And.intro trivial (Exists.intro _ (And.intro rfl ⟨rfl,_,hp,yT hp2 hcr hi1 hi3 hlw hup,hk,hc⟩))
 ·have q1:¬ (((m:Int) - (a:Int))=1):=by simpa using q1
  first | refine Zi ?_ | skip
  refine Zc<|Za rfl<|Za rfl<|Z4 (a:=(b:Int)) (b:=(m:Int)) rfl rfl ⟨by omega,by omega⟩<|VJ (a:=(b:Int) - (m:Int)) (b:=1) rfl rfl<|Zb ?_
  refine And.intro (fun q5=>?_) (fun q5=>?_)
  ·have q5:((b:Int) - (m:Int))=1:=by simpa using q5
   refine Zc<|Za rfl<|Za rfl<|Zb<|Zc<|Za rfl<|Za rfl<|Zb ?_
   refine Zt (fn:=Try.f84) Zjh N84 Zjb (fun x:Nat × Nat=>[(0,.slice (some ⟨bd,0,none⟩) n cap),(1,iv (a:Int)),(2,iv (m:Int)),(3,iv (b:Int)),(4,.func (.func fc) #[] caps),(14,iv (x.1:Int)),(15,iv (x.2:Int))])
    (fun k x H'=>k=x.2 - x.1∧a≤x.1∧x.1≤x.2∧x.2≤m∧(∀ p,a≤p→p < x.1→¬ key (g m) < key (g p))∧(∀ p,x.2≤p→p < m→key (g m) < key (g p))∧KT bd H H'∧Cl H' bd (cG (fun x=>[iv (v x),iv (u x)]) n g)) _ (a,m) ⟨rfl,Nat.le_refl _,by simp only [];omega,Nat.le_refl _,fun p p1 p2=>absurd p2 (by simp only [];omega),fun p p1 p2=>absurd p2 (by simp only [] at p1;omega),hk,hc⟩ ⟨rfl,rfl,rfl,rfl,rfl,rfl,rfl,trivial⟩ ?_
   rintro k ⟨i,j⟩ L1 ⟨rfl,hi1,hi2,hi3,hlw,hup,hk,hc⟩
   simp only [] at hi1 hi2 hi3 hlw hup
   have hdm:=hd
   refine Zc<|Za rfl<|Za rfl<|ZC (a:=(i:Int)) (b:=(j:Int)) rfl rfl<|Zb ?_
   refine And.intro (fun q6=>?_) (fun q6=>?_)
   ·have q6:(i:Int) < (j:Int):=of_decide_eq_true q6
    first | refine Zi ?_ | skip
    refine Zc<|Za rfl<|Za rfl<|Zs (a:=(i:Int)) (b:=(j:Int)) rfl rfl ⟨by omega,by omega⟩ ?_
    obtain ⟨h7,eh7⟩:∃ h:Nat,h=(i+j) / 2:=⟨_,rfl⟩
    refine Zg (v:=.int .u64 ((i+j:Nat):Int)) rfl (zC (n:=i+j) (j:=(i:Int)+(j:Int)) (by omega) rfl (by omega))<|Zg (v:=.int .u64 ((h7:Nat):Int)) rfl (by rw [eh7];exact Qg (m:=i+j) (d:=1) (by decide) rfl rfl)<|Zg (v:=iv (h7:Int)) rfl (ju (n:=h7) (j:=(h7:Int)) (by omega) rfl rfl)<|Za rfl<|Zb<|YF<|Ze rfl<|Ze rfl<|Ze rfl<|ZA (b:=bd) (o:=0) (k:=m) (j:=(m:Int)) rfl rfl (by omega) (by omega)<|YS (b:=bd) (o:=0+m * 2) rfl hc.rd (XA (z:=2) (fun _=>rfl) (by omega))<|Ze rfl<|Ze rfl<|ZA (b:=bd) (o:=0) (k:=h7) (j:=(h7:Int)) rfl rfl (by omega) (by omega)<|YS (b:=bd) (o:=0+h7 * 2) rfl hc.rd (XA (z:=2) (fun _=>rfl) (by omega)) ?_
    obtain ⟨rH4,H4,fH4,kH4,qH4⟩:=hcmp L1 hk.kp (g m) (g h7) (hdm _ (by omega)) (hdm _ (by omega))
    refine YC (vs:=[.agg #[iv (v (g m)),iv (u (g m))],.agg #[iv (v (g h7)),iv (u (g h7))]]) rfl fH4 ?_
    have mH4:=kH4.1
    have hc:=kH4.cl hc (by simp)
    have hk:=hk.keep kH4
    refine Vd (a:=rH4) (b:=0) rfl rfl<|Yl (v:=.bool (!(decide (rH4 < 0)))) rfl rfl ?_
    refine ZH (by repeat' first | exact True.intro | exact (fun h=>h) | refine And.intro ?_ ?_ | (intro h;have h:(_:Nat)=_:=h;omega)) ?_
    refine And.intro (fun q7=>?_) (fun q7=>?_)
    ·have q7:¬ (rH4 < 0):=by simpa using q7
     show Zl _ _ _ _ _ _ _ _
     refine Za rfl<|Zs (a:=(h7:Int)) (b:=1) rfl rfl ⟨by omega,by omega⟩<|Za rfl<|Zb ?_
     exact ⟨_,(h7+1,j),by simp only [];omega,⟨rfl,by simp only [];omega,by simp only [];omega,hi3,fun p p1 p2 hh=>by have y:=hp1.le (i:=p) (j:=h7) p1 (by omega) (by omega);have z:=qH4.2 (by omega);omega,hup,hk,hc⟩,rfl,rfl,rfl,rfl,rfl,ivq (by simp only [];omega),rfl,trivial⟩
    ·have q7:¬ (¬ (rH4 < 0)):=by simpa using q7
     show Zl _ _ _ _ _ _ _ _
     refine Za rfl<|Za rfl<|Zb ?_
     exact ⟨_,(i,h7),by simp only [];omega,⟨rfl,hi1,by simp only [];omega,by simp only [];omega,hlw,fun p p1 p2=>by have z:=qH4.1 (by omega);have y:=hp1.le (i:=h7) (j:=p) (by omega) p1 (by omega);omega,hk,hc⟩,rfl,rfl,rfl,rfl,rfl,rfl,ivq (by simp only []),trivial⟩
   ·have q6:¬ ((i:Int) < (j:Int)):=of_decide_eq_false q6
    first | (refine Zz ?_;show wC _ _ _ _ _ _ _ _ _) | skip
    refine Zc<|Za rfl<|Za rfl<|Zb ?_
    obtain rfl:i=j:=by omega
    obtain rfl:b=m+1:=by omega
    refine Zt (fn:=Try.f84) Zjz N84 ZhQ (fun t:Nat=>[(0,.slice (some ⟨bd,0,none⟩) n cap),(14,iv (i:Int)),(17,iv (t:Int))])
     (fun k t H'=>k=t∧i≤t∧t≤m∧PRm a (m+1) g (mvL g m t)∧KT bd H H'∧Cl H' bd (cG (fun x=>[iv (v x),iv (u x)]) n (mvL g m t))) m m ⟨rfl,by omega,Nat.le_refl _,by rw [QR];exact PRm.refl _ _ _,hk,by rw [QR];exact hc⟩ ⟨rfl,rfl,rfl,trivial⟩ ?_
    rintro k t L2 ⟨hkt,ht,ht2,hp,hk,hc⟩
    refine Zc<|Za rfl<|Za rfl<|WC (a:=(t:Int)) (b:=(i:Int)) rfl rfl<|Zb ?_
    refine And.intro (fun q8=>?_) (fun q8=>?_)
    ·have q8:(t:Int) > (i:Int):=of_decide_eq_true q8
     first | refine Zi ?_ | skip
     first | refine Ye ?_ | refine Wu ?_ | refine Vw ?_ | (refine YY ?_;refine Ye ?_)
     refine Ze rfl<|Ze rfl<|Ze rfl<|Ze rfl<|Xm (a:=(t:Int)) (b:=1) rfl rfl ⟨by omega,by omega⟩<|Ze rfl<|Ze rfl<|Xm (a:=(t:Int)) (b:=1) rfl rfl ⟨by omega,by omega⟩<|ZA (b:=bd) (o:=0) (k:=t - 1) (j:=(t:Int) - 1) rfl rfl (by omega) (by omega)<|YS (b:=bd) (o:=0+(t - 1) * 2) rfl hc.rd (XA (z:=2) (fun _=>rfl) (by omega))<|Ze rfl<|Ze rfl<|ZA (b:=bd) (o:=0) (k:=t) (j:=(t:Int)) rfl rfl (by omega) (by omega)<|YS (b:=bd) (o:=0+t * 2) rfl hc.rd (XA (z:=2) (fun _=>rfl) (by omega))<|ZA (b:=bd) (o:=0) (k:=t) (j:=(t:Int)) rfl rfl (by omega) (by omega)<|Vj (b:=bd) (o:=0+t * 2) rfl rfl hc hlb rfl rfl (by rw [XO (z:=2) (fun _=>rfl)];omega) ?_
     intro H5 kH5 nH5 sH5 tH5
     have mH5:=kH5.1
     have hk:=hk.put kH5 tH5
     have hc:Cl H5 bd (cG (fun x=>[iv (v x),iv (u x)]) n (upd (mvL g m t) t ((mvL g m t) (t - 1)))):=by rw [← V7 (z:=2) (fun _=>rfl) (by omega)];exact sH5
     refine ZA (b:=bd) (o:=0) (k:=t - 1) (j:=(t:Int) - 1) rfl rfl (by omega) (by omega)<|Vj (b:=bd) (o:=0+(t - 1) * 2) rfl rfl hc hlb rfl rfl (by rw [XO (z:=2) (fun _=>rfl)];omega) ?_
     intro H6 kH6 nH6 sH6 tH6
     have mH6:=kH6.1
     have hk:=hk.put kH6 tH6
     have hc:Cl H6 bd (cG (fun x=>[iv (v x),iv (u x)]) n (upd (upd (mvL g m t) t ((mvL g m t) (t - 1))) (t - 1) ((mvL g m t) t))):=by rw [← V7 (z:=2) (fun _=>rfl) (by omega)];exact sH6
     have hc:Cl H6 bd (cG (fun x=>[iv (v x),iv (u x)]) n (swp (mvL g m t) t (t - 1))):=hc
     refine ZH (by repeat' first | exact True.intro | exact (fun h=>h) | refine And.intro ?_ ?_ | (intro h;have h:(_:Nat)=_:=h;omega)) ?_
     show Zl _ _ _ _ _ _ _ _
     refine Za rfl<|Z4 (a:=(t:Int)) (b:=1) rfl rfl ⟨by omega,by omega⟩<|Za rfl<|Zb ?_
     rw [QQ (by omega) (by omega)] at hc
     exact ⟨t - 1,t - 1,by omega,⟨rfl,by omega,by omega,by rw [← QQ (by omega) (by omega)];exact hp.trans (PRm.swap (by omega) (by omega) (by omega) (by omega)),hk,hc⟩,rfl,rfl,ivq (by omega),trivial⟩
    ·have q8:¬ ((t:Int) > (i:Int)):=of_decide_eq_false q8
     first | (refine Zz ?_;show wC _ _ _ _ _ _ _ _ _) | skip
     have eti:t=i:=by omega
     rw [eti] at hp hc
     exact And.intro trivial (Exists.intro _ (And.intro rfl ⟨rfl,_,hp,Zan hp1 hcr hi1 hi3 hlw hup,hk,hc⟩))
  ·have q5:¬ (((b:Int) - (m:Int))=1):=by simpa using q5
   first | refine Zi ?_ | skip
   refine Zc<|Za rfl<|Za rfl<|Zs (a:=(a:Int)) (b:=(b:Int)) rfl rfl ⟨by omega,by omega⟩ ?_
   obtain ⟨h8,eh8⟩:∃ h:Nat,h=(a+b) / 2:=⟨_,rfl⟩
   refine Zg (v:=.int .u64 ((a+b:Nat):Int)) rfl (zC (n:=a+b) (j:=(a:Int)+(b:Int)) (by omega) rfl (by omega))<|Zg (v:=.int .u64 ((h8:Nat):Int)) rfl (by rw [eh8];exact Qg (m:=a+b) (d:=1) (by decide) rfl rfl)<|Zg (v:=iv (h8:Int)) rfl (ju (n:=h8) (j:=(h8:Int)) (by omega) rfl rfl)<|Za rfl<|Zb<|Zc<|Za rfl<|Za rfl<|Zs (a:=(h8:Int)) (b:=(m:Int)) rfl rfl ⟨by omega,by omega⟩<|Za rfl<|Zb<|Zc<|Za rfl<|Za rfl<|Zb<|Zc<|Za rfl<|Za rfl<|WC (a:=(m:Int)) (b:=(h8:Int)) rfl rfl<|Zb ?_
   refine And.intro (fun q9=>?_) (fun q9=>?_)
   ·have q9:(m:Int) > (h8:Int):=of_decide_eq_true q9
    refine Zc<|Za rfl<|Za rfl<|Z4 (a:=(h8:Int)+(m:Int)) (b:=(b:Int)) rfl rfl ⟨by omega,by omega⟩<|Za rfl<|Zb<|Zc<|Za rfl<|Za rfl<|Zb ?_
    refine Zgh (mid:=h8) (nn:=h8+m) (s0:=(h8+m) - b) (r0:=h8) hlb hn hlo hk hc (fun H1 a m b g k=>ih H1 a m b g (hk0.trans k)) hcmp ham hmb hb hM eh8 rfl (.inl ⟨by omega,by omega,rfl⟩) (by omega) hd hp1 hp2 hcr (by exact ⟨rfl,rfl,rfl,rfl,rfl,rfl,ivq (by omega),ivq (by omega),ivq (by omega),trivial⟩) ?_
    intro H' S' g' p' s' k' c'
    exact And.intro trivial (Exists.intro _ (And.intro rfl ⟨rfl,g',p',s',k',c'⟩))
   ·have q9:¬ ((m:Int) > (h8:Int)):=of_decide_eq_false q9
    refine Zc<|Za rfl<|Za rfl<|Zb<|Zc<|Za rfl<|Za rfl<|Zb ?_
    refine Zgh (mid:=h8) (nn:=h8+m) (s0:=a) (r0:=m) hlb hn hlo hk hc (fun H1 a m b g k=>ih H1 a m b g (hk0.trans k)) hcmp ham hmb hb hM eh8 rfl (.inr ⟨by omega,rfl,rfl⟩) (by omega) hd hp1 hp2 hcr (by exact ⟨rfl,rfl,rfl,rfl,rfl,rfl,ivq (by omega),ivq (by omega),ivq (by omega),trivial⟩) ?_
    intro H' S' g' p' s' k' c'
    exact And.intro trivial (Exists.intro _ (And.intro rfl ⟨rfl,g',p',s',k',c'⟩))
theorem jx {bd cap n:Nat} {v u:Nat→Int} {Hr:Hp} (hlo:lo≤Hr.next) (hlb:lo≤bd) (hn:n≤1000000) {fc:FuncId} {caps:Array Value} {key:Nat→Int} (hcmp:Uh Try.prog kn lo bd fc caps (fun x=>.agg #[iv (v x),iv (u x)]) n key Hr):∀ (M:Nat) (H1:Hp) (a m b:Nat) (g:Nat→Nat),KT bd Hr H1→a < m→m < b→b≤n→b - a < M→(∀ k,k < n→g k < n)→So key a m g→So key m b g→Cr a m b g→Cl H1 bd (cG (fun x=>[iv (v x),iv (u x)]) n g)→∃ H' g',FnX Try.prog kn lo 84 [.slice (some ⟨bd,0,none⟩) n cap,iv (a:Int),iv (m:Int),iv (b:Int),.func (.func fc) #[] caps] H1 (.tuple #[]) H'∧PRm a b g g'∧So key a b g'∧KT bd H1 H'∧Cl H' bd (cG (fun x=>[iv (v x),iv (u x)]) n g')
 | 0,_,_,_,_,_,_,_,_,_,h,_,_,_,_,_=>absurd h (Nat.not_lt_zero _)
 | M+1,_,_,_,_,_,hk,ham,hmb,hb,hM,hd,hp1,hp2,hcr,hc=>ZcJ (Nat.le_trans hlo hk.1) hlb hn hk hc (jx hlo hlb hn hcmp M) hcmp ham hmb hb (Nat.le_of_lt_succ hM) hd hp1 hp2 hcr
end
end
end Go.Ax

/-
 Pool: sorting that keeps the order: blocks (written by program).
-/
namespace Go.Ax
open Go Go.RowKit Go.Proofs

noncomputable section
section
variable {kn:Kn} {lo:Nat} {H:Hp}
set_option maxRecDepth 100000 in
set_option maxHeartbeats 2000000 in
theorem ZbG (hlo:lo≤H.next) {bd cap n:Nat} {v u:Nat→Int} (hlb:lo≤bd) (hn:n≤160) (hc:Cl H bd (cG (fun x=>[iv (v x),iv (u x)]) n fun i=>i)) {fc:FuncId} {caps:Array Value} {key:Nat→Int} (hcmp:Uh Try.prog kn lo bd fc caps (fun x=>.agg #[iv (v x),iv (u x)]) n key H):∃ H' g',FnX Try.prog kn lo 75 [.slice (some ⟨bd,0,none⟩) n cap,iv (n:Int),.func (.func fc) #[] caps] H (.tuple #[]) H'∧PRm 0 n (fun i=>i) g'∧So key 0 n g'∧KT bd H H'∧Cl H' bd (cG (fun x=>[iv (v x),iv (u x)]) n g'):=by
 have key_:=Zp (kn:=kn) (lo:=lo) (H:=H) (args:=[.slice (some ⟨bd,0,none⟩) n cap,iv (n:Int),.func (.func fc) #[] caps]) (Q:=fun w H'=>w=.tuple #[]∧∃ g',PRm 0 n (fun i=>i) g'∧So key 0 n g'∧KT bd H H'∧Cl H' bd (cG (fun x=>[iv (v x),iv (u x)]) n g')) Try.func75 B75 N75 Z75 L75 (by simp) ?_
 ·obtain ⟨w,H',h,rfl,g',r⟩:=key_;exact ⟨H',g',h,r⟩
 have hk:=KT.refl (H:=H) hc.1
 refine Zc<|Za rfl<|Zb<|Zc<|Za rfl<|Za rfl<|Za rfl<|Zb ?_
 refine Zt (fn:=Try.f75) Zf8 N75 Zf6 (fun a:Nat=>[(0,.slice (some ⟨bd,0,none⟩) n cap),(1,iv (n:Int)),(2,.func (.func fc) #[] caps),(6,iv 20),(7,iv (a:Int)),(8,iv ((a:Int)+20))])
  (fun k a H'=>k=n - a∧a % 20=0∧a≤n∧∃ g',Bk0 key a n g'∧PRm 0 n (fun i=>i) g'∧KT bd H H'∧Cl H' bd (cG (fun x=>[iv (v x),iv (u x)]) n g')) _ 0 ⟨rfl,rfl,Nat.zero_le _,fun i=>i,Bk0.init n,PRm.refl _ _ _,hk,hc⟩ ⟨rfl,rfl,rfl,rfl,rfl,rfl,trivial⟩ ?_
 rintro k a L1 ⟨rfl,ha,han,gx,hB,hp,hk,hc⟩
 refine Zc<|Za rfl<|Za rfl<|Xr (a:=((a:Int)+20)) (b:=(n:Int)) rfl rfl<|Zb ?_
 refine And.intro (fun q1=>?_) (fun q1=>?_)
 ·have q1:((a:Int)+20)≤(n:Int):=of_decide_eq_true q1
  first | refine Zi ?_ | skip
  refine Zc<|Za rfl<|Za rfl<|Za rfl<|Za rfl ?_
  obtain ⟨H1,gH1,fH1,pH1,sH1,kH1,cH1⟩:=Zb9 (kn:=kn) (lo:=lo) (H:=L1) (by have:=hk.1;omega) hlb (by omega) (cap:=cap) hc (hp.dom (fun k q=>q) (Nat.le_refl _)) (hcmp.from hk.kp) (a:=a) (b:=(a+20)) (by omega) (by omega) (fun i j q1 q2 q3=>hB.ids i j q1 q2)
  refine Zu (vs:=[.slice (some ⟨bd,0,none⟩) n cap,iv (a:Int),iv ((a:Int)+20),.func (.func fc) #[] caps]) rfl (by have q:=Zh fH1;rw [show (((a+20):Nat):Int)=((a:Int)+20) by omega] at q;exact q) ?_
  have mH1:=kH1.1
  have hk:=hk.trans kH1
  have hc:=cH1
  have hp:=hp.trans (pH1.mono (by omega) (by omega) (by omega))
  have hB:=hB.step ha (by omega) (by omega) pH1 sH1
  refine Zb<|Zc<|Za rfl<|Za rfl<|Zb ?_
  show Zl _ _ _ _ _ _ _ _
  refine Za rfl<|Za rfl<|Zs (a:=((a:Int)+20)) (b:=20) rfl rfl ⟨by omega,by omega⟩<|Za rfl<|Zb ?_
  exact ⟨_,a+20,by omega,⟨rfl,by omega,by omega,_,hB,hp,hk,hc⟩,rfl,rfl,rfl,rfl,ivq (by omega),ivq (by omega),trivial⟩
 ·have q1:¬ (((a:Int)+20)≤(n:Int)):=of_decide_eq_false q1
  first | (refine Zz ?_;show wC _ _ _ _ _ _ _ _ _) | skip
  refine Zc<|Za rfl<|Za rfl<|Za rfl<|Za rfl ?_
  obtain ⟨H2,gH2,fH2,pH2,sH2,kH2,cH2⟩:=Zb9 (kn:=kn) (lo:=lo) (H:=L1) (by have:=hk.1;omega) hlb (by omega) (cap:=cap) hc (hp.dom (fun k q=>q) (Nat.le_refl _)) (hcmp.from hk.kp) (a:=a) (b:=n) (by omega) (by omega) (fun i j q1 q2 q3=>hB.ids i j q1 q2)
  refine Zu (vs:=[.slice (some ⟨bd,0,none⟩) n cap,iv (a:Int),iv (n:Int),.func (.func fc) #[] caps]) rfl (Zh fH2) ?_
  have mH2:=kH2.1
  have hk:=hk.trans kH2
  have hc:=cH2
  have hp:=hp.trans (pH2.mono (by omega) (by omega) (by omega))
  have hB:=hB.step ha (by omega) (by omega) pH2 sH2
  refine Zb ?_
  have hB:=hB.low (Nat.le_refl _)
  refine Zt (fn:=Try.f75) Zgg N75 Zgd (fun bs:Nat=>[(0,.slice (some ⟨bd,0,none⟩) n cap),(1,iv (n:Int)),(2,.func (.func fc) #[] caps),(6,iv (bs:Int))])
   (fun k bs H'=>k=400 - bs∧(Bs bs∨bs=160)∧∃ g',Bk key bs 0 n g'∧PRm 0 n (fun i=>i) g'∧KT bd H H'∧Cl H' bd (cG (fun x=>[iv (v x),iv (u x)]) n g')) _ 20 ⟨rfl,.inl (.inl rfl),_,hB,hp,hk,hc⟩ ⟨rfl,rfl,rfl,rfl,trivial⟩ ?_
  rintro k bs L2 ⟨rfl,hbs,gy,hB,hp,hk,hc⟩
  refine Zc<|Za rfl<|Za rfl<|ZC (a:=(bs:Int)) (b:=(n:Int)) rfl rfl<|Zb ?_
  refine And.intro (fun q2=>?_) (fun q2=>?_)
  ·have q2:(bs:Int) < (n:Int):=of_decide_eq_true q2
   first | refine Zi ?_ | skip
   refine Zc<|Za rfl<|Wp (a:=2) (b:=(bs:Int)) rfl rfl ⟨by omega,by omega⟩<|Za rfl<|Za rfl<|Zb ?_
   have hbs:Bs bs:=hbs.resolve_right (by omega)
   have hb0:20≤bs:=by unfold Bs at hbs;omega
   have hB:=hB.init2
   refine Zt (fn:=Try.f75) Zjn N75 ZjC (fun a:Nat=>[(0,.slice (some ⟨bd,0,none⟩) n cap),(1,iv (n:Int)),(2,.func (.func fc) #[] caps),(6,iv (bs:Int)),(7,iv (a:Int)),(8,iv ((a:Int)+2 * (bs:Int)))])
    (fun k a H'=>k=n - a∧a % (2 * bs)=0∧a≤n∧∃ g',Bk2 key bs a n g'∧PRm 0 n (fun i=>i) g'∧KT bd H H'∧Cl H' bd (cG (fun x=>[iv (v x),iv (u x)]) n g')) _ 0 ⟨rfl,Nat.zero_mod _,Nat.zero_le _,_,hB,hp,hk,hc⟩ ⟨rfl,rfl,rfl,rfl,rfl,ivq (by omega),trivial⟩ ?_
   rintro k a L3 ⟨rfl,ha,han,gz,hB,hp,hk,hc⟩
   refine Zc<|Za rfl<|Za rfl<|Xr (a:=((a:Int)+2 * (bs:Int))) (b:=(n:Int)) rfl rfl<|Zb ?_
   refine And.intro (fun q3=>?_) (fun q3=>?_)
   ·have q3:((a:Int)+2 * (bs:Int))≤(n:Int):=of_decide_eq_true q3
    first | refine Zi ?_ | skip
    refine Zc<|Za rfl<|Za rfl<|Za rfl<|Za rfl<|Zs (a:=(a:Int)) (b:=(bs:Int)) rfl rfl ⟨by omega,by omega⟩<|Za rfl<|Za rfl ?_
    obtain ⟨q1H3,q2H3,q3H3⟩:=hB.hi.part hbs (Zfd hbs ha) (m:=a+bs) (b:=(a+2 * bs)) (by omega) (by omega) (by omega) (by omega)
    obtain ⟨H3,gH3,fH3,pH3,sH3,kH3,cH3⟩:=jx (kn:=kn) (lo:=lo) hlo hlb (by omega) (cap:=cap) hcmp ((a+2 * bs) - a+1) L3 (a) (a+bs) ((a+2 * bs)) gz hk (by omega) (by omega) (by omega) (by omega) (hp.dom (fun k q=>q) (Nat.le_refl _)) q1H3 q2H3 q3H3 hc
    refine Zu (vs:=[.slice (some ⟨bd,0,none⟩) n cap,iv (a:Int),iv ((a:Int)+(bs:Int)),iv ((a:Int)+2 * (bs:Int)),.func (.func fc) #[] caps]) rfl (by have q:=Zh fH3;rw [show ((a+bs:Nat):Int)=(a:Int)+(bs:Int) by omega] at q;rw [show (((a+2 * bs):Nat):Int)=((a:Int)+2 * (bs:Int)) by omega] at q;exact q) ?_
    have mH3:=kH3.1
    have hk:=hk.trans kH3
    have hc:=cH3
    have hp:=hp.trans (pH3.mono (by omega) (by omega) (by omega))
    refine Zb<|Zc<|Za rfl<|Za rfl<|Zb ?_
    show Zl _ _ _ _ _ _ _ _
    refine Za rfl<|Za rfl<|Wp (a:=2) (b:=(bs:Int)) rfl rfl ⟨by omega,by omega⟩<|Zs (a:=((a:Int)+2 * (bs:Int))) (b:=2 * (bs:Int)) rfl rfl ⟨by omega,by omega⟩<|Za rfl<|Zb ?_
    obtain ⟨hB,ha⟩:=hB.next hbs ha (b:=a+2 * bs) rfl (by omega) pH3 sH3
    exact ⟨_,a+2 * bs,by omega,⟨rfl,ha,by omega,_,hB,hp,hk,hc⟩,rfl,rfl,rfl,rfl,ivq (by omega),ivq (by omega),trivial⟩
   ·have q3:¬ (((a:Int)+2 * (bs:Int))≤(n:Int)):=of_decide_eq_false q3
    first | (refine Zz ?_;show wC _ _ _ _ _ _ _ _ _) | skip
    refine Zc<|Za rfl<|Za rfl<|Zs (a:=(a:Int)) (b:=(bs:Int)) rfl rfl ⟨by omega,by omega⟩<|Za rfl<|Zb<|Zc<|Za rfl<|Za rfl<|ZC (a:=(a:Int)+(bs:Int)) (b:=(n:Int)) rfl rfl<|Zb ?_
    refine And.intro (fun q4=>?_) (fun q4=>?_)
    ·have q4:((a:Int)+(bs:Int)) < (n:Int):=of_decide_eq_true q4
     refine Zc<|Za rfl<|Za rfl<|Za rfl<|Za rfl<|Za rfl ?_
     obtain ⟨q1H4,q2H4,q3H4⟩:=hB.hi.part hbs (Zfd hbs ha) (m:=a+bs) (b:=n) (by omega) (by omega) (by omega) (by omega)
     obtain ⟨H4,gH4,fH4,pH4,sH4,kH4,cH4⟩:=jx (kn:=kn) (lo:=lo) hlo hlb (by omega) (cap:=cap) hcmp (n - a+1) L3 (a) (a+bs) (n) gz hk (by omega) (by omega) (by omega) (by omega) (hp.dom (fun k q=>q) (Nat.le_refl _)) q1H4 q2H4 q3H4 hc
     refine Zu (vs:=[.slice (some ⟨bd,0,none⟩) n cap,iv (a:Int),iv ((a:Int)+(bs:Int)),iv (n:Int),.func (.func fc) #[] caps]) rfl (by have q:=Zh fH4;rw [show ((a+bs:Nat):Int)=(a:Int)+(bs:Int) by omega] at q;exact q) ?_
     have mH4:=kH4.1
     have hk:=hk.trans kH4
     have hc:=cH4
     have hp:=hp.trans (pH4.mono (by omega) (by omega) (by omega))
     refine Zb ?_
     show Zl _ _ _ _ _ _ _ _
     have hB2:=hB.step hbs ha (by omega) (by omega) (Nat.le_refl _) pH4 sH4
     refine Za rfl<|Wp (a:=(bs:Int)) (b:=2) rfl rfl ⟨by omega,by omega⟩<|Za rfl<|Zb ?_
     exact ⟨_,2 * bs,by unfold Bs at hbs;omega,⟨rfl,by unfold Bs at hbs ⊢;omega,_,hB2,hp,hk,hc⟩,rfl,rfl,rfl,ivq (by omega),trivial⟩
    ·have q4:¬ (((a:Int)+(bs:Int)) < (n:Int)):=of_decide_eq_false q4
     have hB2:=hB.last hbs ha han (by omega)
     first | refine Zi ?_ | skip
     show Zl _ _ _ _ _ _ _ _
     refine Za rfl<|Wp (a:=(bs:Int)) (b:=2) rfl rfl ⟨by omega,by omega⟩<|Za rfl<|Zb ?_
     exact ⟨_,2 * bs,by unfold Bs at hbs;omega,⟨rfl,by unfold Bs at hbs ⊢;omega,_,hB2,hp,hk,hc⟩,rfl,rfl,rfl,ivq (by omega),trivial⟩
  ·have q2:¬ ((bs:Int) < (n:Int)):=of_decide_eq_false q2
   first | (refine Zz ?_;show wC _ _ _ _ _ _ _ _ _) | skip
   exact And.intro trivial (Exists.intro _ (And.intro rfl ⟨rfl,gy,hp,hB.all (by omega),hk,hc⟩))
set_option maxRecDepth 100000 in
set_option maxHeartbeats 2000000 in
theorem ZfQ (hlo:lo≤H.next) {bd cap n:Nat} {v u:Nat→Int} (hlb:lo≤bd) (hn:n≤160) (hc:Cl H bd (cG (fun x=>[iv (v x),iv (u x)]) n fun i=>i)) {fc:FuncId} {caps:Array Value} {key:Nat→Int} (hcmp:Uh Try.prog kn lo bd fc caps (fun x=>.agg #[iv (v x),iv (u x)]) n key H):∃ H' g',FnX Try.prog kn lo 62 [.slice (some ⟨bd,0,none⟩) n cap,.func (.func fc) #[] caps] H (.tuple #[]) H'∧PRm 0 n (fun i=>i) g'∧So key 0 n g'∧KT bd H H'∧Cl H' bd (cG (fun x=>[iv (v x),iv (u x)]) n g'):=by
 have key_:=Zp (kn:=kn) (lo:=lo) (H:=H) (args:=[.slice (some ⟨bd,0,none⟩) n cap,.func (.func fc) #[] caps]) (Q:=fun w H'=>w=.tuple #[]∧∃ g',PRm 0 n (fun i=>i) g'∧So key 0 n g'∧KT bd H H'∧Cl H' bd (cG (fun x=>[iv (v x),iv (u x)]) n g')) Try.func62 B62 N62 Z62 L62 (by simp) ?_
 ·obtain ⟨w,H',h,rfl,g',r⟩:=key_;exact ⟨H',g',h,r⟩
 have hk:=KT.refl (H:=H) hc.1
 show Zl _ _ _ _ _ _ _ _
 refine Za rfl<|Za rfl<|Z6 (m:=n) rfl<|Za rfl ?_
 obtain ⟨H1,gH1,fH1,pH1,sH1,kH1,cH1⟩:=ZbG (kn:=kn) (lo:=lo) (H:=H) hlo hlb hn (cap:=cap) hc hcmp
 refine Zu (vs:=[.slice (some ⟨bd,0,none⟩) n cap,iv (n:Int),.func (.func fc) #[] caps]) rfl (Zh fH1) ?_
 have hk:=kH1;have hc:=cH1
 refine Zb ?_
 exact And.intro trivial (Exists.intro _ (And.intro rfl ⟨rfl,gH1,pH1,sH1,hk,hc⟩))
theorem ZdY {cv:Value}:∃ H',FnX Try.prog kn lo 83 [.slice none 0 0,iv 0,iv 0,cv] H (.tuple #[]) H'∧Keep H H' []:=by
 have key_:=Zp (kn:=kn) (lo:=lo) (H:=H) (args:=[.slice none 0 0,iv 0,iv 0,cv]) (Q:=fun w H'=>w=.tuple #[]∧Keep H H' []) Try.func83 B83 N83 Z83 L83 (by simp) ?_
 ·obtain ⟨w,H',h,rfl,r⟩:=key_;exact ⟨H',h,r⟩
 have hk:=Keep.refl H []
 refine Zc<|Za rfl<|Zs (a:=0) (b:=1) rfl rfl ⟨by omega,by omega⟩<|Za rfl<|Zb ?_
 refine Zt (fn:=Try.f83) Zf4 N83 Zgi (fun _:Unit=>[(0,.slice none 0 0),(2,iv 0),(8,iv 1)])
  (fun k _ H'=>Keep H H' []) 0 () hk ⟨rfl,rfl,rfl,trivial⟩ ?_
 rintro k _ L1 hq
 have hk:=hq
 refine Zc<|Za rfl<|Za rfl<|ZC (a:=1) (b:=0) rfl rfl<|Zb<|ZP ?_
 first | (refine Zz ?_;show wC _ _ _ _ _ _ _ _ _) | skip
 exact And.intro trivial (Exists.intro _ (And.intro rfl ⟨rfl,hk⟩))
theorem ZaJ {cv:Value}:∃ H',FnX Try.prog kn lo 75 [.slice none 0 0,iv 0,cv] H (.tuple #[]) H'∧Keep H H' []:=by
 have key_:=Zp (kn:=kn) (lo:=lo) (H:=H) (args:=[.slice none 0 0,iv 0,cv]) (Q:=fun w H'=>w=.tuple #[]∧Keep H H' []) Try.func75 B75 N75 Z75 L75 (by simp) ?_
 ·obtain ⟨w,H',h,rfl,r⟩:=key_;exact ⟨H',h,r⟩
 have hk:=Keep.refl H []
 refine Zc<|Za rfl<|Zb<|Zc<|Za rfl<|Za rfl<|Za rfl<|Zb ?_
 refine Zt (fn:=Try.f75) Zf8 N75 Zf6 (fun _:Unit=>[(0,.slice none 0 0),(1,iv 0),(2,cv),(6,iv 20),(7,iv 0),(8,iv 20)])
  (fun k _ H'=>Keep H H' []) 0 () hk ⟨rfl,rfl,rfl,rfl,rfl,rfl,trivial⟩ ?_
 rintro k _ L1 hq
 have hk:=hq
 refine Zc<|Za rfl<|Za rfl<|Xr (a:=20) (b:=0) rfl rfl<|Zb<|ZP ?_
 first | (refine Zz ?_;show wC _ _ _ _ _ _ _ _ _) | skip
 refine Zc<|Za rfl<|Za rfl<|Za rfl<|Za rfl ?_
 obtain ⟨H1,fH1,kH1⟩:=ZdY (kn:=kn) (lo:=lo) (H:=L1) (cv:=cv)
 refine Zu (vs:=[.slice none 0 0,iv 0,iv 0,cv]) rfl (Zh fH1) ?_
 have mH1:=kH1.1
 have hk:=hk.trans kH1
 refine Zb ?_
 refine Zt (fn:=Try.f75) Zgg N75 Zgd (fun _:Unit=>[(0,.slice none 0 0),(1,iv 0),(2,cv),(6,iv 20)])
  (fun k _ H'=>Keep H H' []) 0 () hk ⟨rfl,rfl,rfl,rfl,trivial⟩ ?_
 rintro k _ L2 hq
 have hk:=hq
 refine Zc<|Za rfl<|Za rfl<|ZC (a:=20) (b:=0) rfl rfl<|Zb<|ZP ?_
 first | (refine Zz ?_;show wC _ _ _ _ _ _ _ _ _) | skip
 exact And.intro trivial (Exists.intro _ (And.intro rfl ⟨rfl,hk⟩))
theorem Zc5 {cv:Value}:∃ H',FnX Try.prog kn lo 62 [.slice none 0 0,cv] H (.tuple #[]) H'∧Keep H H' []:=by
 have key_:=Zp (kn:=kn) (lo:=lo) (H:=H) (args:=[.slice none 0 0,cv]) (Q:=fun w H'=>w=.tuple #[]∧Keep H H' []) Try.func62 B62 N62 Z62 L62 (by simp) ?_
 ·obtain ⟨w,H',h,rfl,r⟩:=key_;exact ⟨H',h,r⟩
 have hk:=Keep.refl H []
 show Zl _ _ _ _ _ _ _ _
 refine Za rfl<|Za rfl<|Z6 (m:=0) rfl<|Za rfl ?_
 obtain ⟨H1,fH1,kH1⟩:=ZaJ (kn:=kn) (lo:=lo) (H:=H) (cv:=cv)
 refine Zu (vs:=[.slice none 0 0,iv 0,cv]) rfl (Zh fH1) ?_
 have mH1:=kH1.1
 have hk:=hk.trans kH1
 refine Zb ?_
 exact And.intro trivial (Exists.intro _ (And.intro rfl ⟨rfl,hk⟩))
end
end
end Go.Ax

/-
 Pool: who is compared how;sorting by a number (64,48,61,66,63,74,47,60,46,53) (written by program).
-/
namespace Go.Ax
open Go Go.RowKit Go.Proofs

noncomputable section
theorem Zgr {n:Nat} {S:Rg} {x:Operand} {d:Option Tmp} {ty:TypeId} {p:String} {z:Int} (h1:-4611686018427387904≤z) (h2:z≤4611686018427387904) (hx:evS S x=some (iv z)):Zn Try.prog (frS n S) ⟨d,.unOp .neg 3 x,ty,p,#[],none⟩=some (iv (-z)):=by
 have e:∀ y:Int,ZK Try.prog (Op.unary .neg (.int .i64 y))=some (.int .i64 (IntKind.i64.wrap (0 - y))):=fun y=>by kernel_rfl
 unfold Zn
 simp only [ZX,hx,Z1,Xs,cond_true,e]
 rw [wrap_i64 (x:=0 - z) ⟨by omega,by omega⟩,Int.zero_sub]
def U8 {α:Type} (l:List α) (d:α) (s:Nat→Nat):List α:=(List.range l.length).map fun i=>l.getD (s i) d
theorem jN {α:Type} {l:List α} {d:α} {s:Nat→Nat}:(U8 l d s).length=l.length:=by simp [U8]
theorem Zfx {α:Type} {l:List α} {d:α}:U8 l d (fun i=>i)=l:=by
 refine List.ext_getElem? fun i=>?_
 rcases Nat.lt_or_ge i l.length with q | q
 ·simp [U8,q]
 ·simp [U8,q]
theorem yI {α:Type} {l:List α} {d:α} {s:Nat→Nat} (p:PRm 0 l.length (fun i=>i) s):(U8 l d s).Perm l:=by
 have e:∀ g:Nat→Nat,U8 l d g=(rg g 0 l.length).map fun i=>l.getD i d:=fun g=>by
  unfold U8 rg
  rw [List.map_map,List.range_eq_range']
  rfl
 have:=p.perm.map fun i=>l.getD i d
 rw [← e,← e,Zfx] at this
 exact this
theorem J6 {α:Type} {l:List α} {d:α} {s:Nat→Nat} {f:α→Int} (h:So (fun i=>f (l.getD i d)) 0 l.length s):(U8 l d s).Pairwise fun a b=>f a≤f b:=by
 rw [List.pairwise_iff_getElem]
 intro i j hi hj hij
 rw [jN] at hi hj
 have:f (l.getD (s i) d) < f (l.getD (s j) d)∨(f (l.getD (s i) d)=f (l.getD (s j) d)∧s i < s j):=h i j (Nat.zero_le _) hij hj
 simp only [U8,List.getElem_map,List.getElem_range]
 omega
theorem zX {α:Type} {l:List α} {d:α} {s:Nat→Nat} {e:α→List Value}:cG (fun i=>e (l.getD i d)) l.length s=(U8 l d s).flatMap e:=by
 unfold cG U8
 rw [List.flatMap_map,List.flatMap_map]
section
variable {kn:Kn} {lo:Nat} {H:Hp}
theorem Qr {x y:Int}:∃ r H',FnX Try.prog kn lo 64 [iv x,iv y] H (iv r) H'∧(r < 0↔x < y)∧Keep H H' []:=by
 have key:=Zp (kn:=kn) (lo:=lo) (H:=H) (args:=[iv x,iv y]) (Q:=fun w H'=>∃ r,w=iv r∧(r < 0↔x < y)∧Keep H H' []) Try.func64 B64 N64 Z64 L64 (by simp) ?_
 ·obtain ⟨w,H',h,r,rfl,q⟩:=key;exact ⟨r,H',h,q⟩
 have hk:=Keep.refl H []
 refine Zc<|Za rfl<|Zb<|Zc<|Za rfl ?_
 obtain ⟨H1,fH1,kH1⟩:=Zbb (kn:=kn) (lo:=lo) (H:=H) (x)
 refine Zu (vs:=[iv (x)]) rfl (Zh fH1) ?_
 have mH1:=kH1.1
 have hk:=hk.trans kH1
 refine Za rfl<|Zb<|Zc<|Za rfl ?_
 obtain ⟨H2,fH2,kH2⟩:=Zbb (kn:=kn) (lo:=lo) (H:=H1) (y)
 refine Zu (vs:=[iv (y)]) rfl (Zh fH2) ?_
 have mH2:=kH2.1
 have hk:=hk.trans kH2
 refine Za rfl<|Zb<|Zc<|Za rfl<|Zb<|ZP ?_
 first | refine Zi ?_ | skip
 refine Zc<|Za rfl<|Zb<|ZP ?_
 first | refine Zi ?_ | skip
 refine Zc<|Za rfl<|Za rfl<|ZC (a:=x) (b:=y) rfl rfl<|Zb ?_
 refine And.intro (fun q1=>?_) (fun q1=>?_)
 ·have q1:x < y:=of_decide_eq_true q1
  refine Zc<|Za rfl<|Zb ?_
  exact And.intro trivial (Exists.intro _ (And.intro rfl ⟨-1,rfl,by omega,hk⟩))
 ·have q1:¬ (x < y):=of_decide_eq_false q1
  first | refine Zi ?_ | skip
  refine Zc<|Za rfl<|Za rfl<|WC (a:=x) (b:=y) rfl rfl<|Zb ?_
  refine And.intro (fun q2=>?_) (fun q2=>?_)
  ·have q2:x > y:=of_decide_eq_true q2
   refine Zc<|Za rfl<|Zb ?_
   exact And.intro trivial (Exists.intro _ (And.intro rfl ⟨1,rfl,by omega,hk⟩))
  ·have q2:¬ (x > y):=of_decide_eq_false q2
   first | refine Zi ?_ | skip
   refine Zc<|Za rfl<|Zb ?_
   exact And.intro trivial (Exists.intro _ (And.intro rfl ⟨0,rfl,by omega,hk⟩))
theorem Zag {a b:Int} (hlo:lo≤H.next):∃ H',FnX Try.prog kn lo 48 [.agg #[iv a,iv b]] H (iv a) H'∧Keep H H' []:=by
 have key:=Zp (kn:=kn) (lo:=lo) (H:=H) (args:=[.agg #[iv a,iv b]]) (Q:=fun w H'=>w=iv a∧Keep H H' []) Try.func48 B48 N48 Z48 L48 (by simp) ?_
 ·obtain ⟨w,H',h,rfl,q⟩:=key;exact ⟨H',h,q⟩
 have hk:=Keep.refl H []
 refine Zc<|YD (v:=.agg #[iv a,iv b]) rfl ?_
 intro H1 kH1 nH1 c1
 have c1:Cl H1 H.next [iv a,iv b]:=c1
 have mH1:=kH1.1
 have hk:=hk.trans kH1
 refine Za rfl<|Zb<|Zc<|ZB (b:=H.next) (o:=0) rfl<|ZZ (b:=H.next) (o:=0) (v:=iv a) rfl c1.rd rfl<|Za rfl<|Zb ?_
 exact And.intro trivial (Exists.intro _ (And.intro rfl ⟨rfl,hk⟩))
theorem ZaG {a:Int} (h0:0≤a) (h1:a≤1099511627776):∃ H',FnX Try.prog kn lo 61 [iv a] H (iv (-a)) H'∧Keep H H' []:=by
 have key:=Zp (kn:=kn) (lo:=lo) (H:=H) (args:=[iv a]) (Q:=fun w H'=>w=iv (-a)∧Keep H H' []) Try.func61 B61 N61 Z61 L61 (by simp) ?_
 ·obtain ⟨w,H',h,rfl,q⟩:=key;exact ⟨H',h,q⟩
 have hk:=Keep.refl H []
 refine Zc<|Za rfl<|Zb<|Zc<|Za rfl<|Zg (v:=iv (-(a))) rfl (Zgr (z:=a) (by omega) (by omega) rfl)<|Za rfl<|Zb ?_
 exact And.intro trivial (Exists.intro _ (And.intro rfl ⟨rfl,hk⟩))
set_option maxRecDepth 100000 in
theorem jV {ms:List Mb} {sa:Option Addr} {n cap:Nat} (hs:Sl H sa n cap (mbc ms)) (hl:ms.length=n) (hn:n≤400) (hm:∀ m∈ms,okM m) {tot all:Int} (ht0:0≤tot) (ht1:tot≤1048576) (ha0:0 < all) (ha1:all≤439804651110400) {t1 t2 t3:Nat} (r1:Rd H t1 [iv tot]) (r2:Rd H t2 [.slice sa n cap]) (r3:Rd H t3 [iv all]) (hlo:lo≤H.next) {x:Nat} (hx:x < n):∃ H',FnX Try.prog kn lo 66 [iv (x:Int),.pointer (some ⟨t1,0,none⟩),.pointer (some ⟨t2,0,none⟩),.pointer (some ⟨t3,0,none⟩)] H (iv (-(tot * (ms.getD x Mb.z).b % all))) H'∧Keep H H' []:=by
 have key:=Zp (kn:=kn) (lo:=lo) (H:=H) (args:=[iv (x:Int),.pointer (some ⟨t1,0,none⟩),.pointer (some ⟨t2,0,none⟩),.pointer (some ⟨t3,0,none⟩)]) (Q:=fun w H'=>w=iv (-(tot * (ms.getD x Mb.z).b % all))∧Keep H H' []) Try.func66 B66 N66 Z66 L66 (by simp) ?_
 ·obtain ⟨w,H',h,rfl,q⟩:=key;exact ⟨H',h,q⟩
 have hk:=Keep.refl H []
 have fs:=hs.old
 have l1:=r1.1;have l2:=r2.1;have l3:=r3.1
 refine Zc<|Za rfl<|Zb<|YF<|ZM (b:=t1) (o:=0) (v:=iv tot) rfl r1 rfl<|ZM (b:=t2) (o:=0) (v:=.slice sa n cap) rfl r2 rfl<|Ze rfl ?_
 rcases id hs with ⟨_,h0s,_⟩ | ⟨sb,es,rs,_⟩
 ·omega
 have ls:=rs.1
 have hmi:=Y9 (z:=Mb.z) hm (show x < ms.length by omega);obtain ⟨hm1,hm2,hm3,hm4⟩:=hmi;have hmul:=jb ht0 ht1 hm3 hm4
 refine ZA (b:=sb) (o:=0) (k:=x) (j:=(x:Int)) (by rw [← es];rfl) rfl rfl hx<|ZS (b:=sb) (o:=0+x * 2) rfl<|ZM (b:=sb) (o:=0+x * 2+1) (v:=iv ((ms.getD x Mb.z).b)) rfl rs (ZfN (l:=ms) (i:=x) (j:=1) (by omega) rfl)<|Zdo (a:=tot) (b:=(ms.getD x Mb.z).b) rfl rfl ⟨by omega,by omega⟩<|ZM (b:=t3) (o:=0) (v:=iv all) rfl r3 rfl<|ZgL (a:=tot * ((ms.getD x Mb.z).b)) (b:=all) rfl rfl (by omega) (by omega) ⟨by omega,by omega⟩ ⟨by omega,by omega⟩ ?_
 have hrm:=Int.emod_nonneg (tot * (ms.getD x Mb.z).b) (show all≠0 by omega);have hrn:=Int.emod_lt_of_pos (tot * (ms.getD x Mb.z).b) ha0
 refine Yl (v:=iv (-((tot * ((ms.getD x Mb.z).b)) % all))) rfl (Zgr (z:=(tot * ((ms.getD x Mb.z).b)) % all) (by omega) (by omega) rfl)<|Ze rfl ?_
 refine ZH (by repeat' first | exact True.intro | exact (fun h=>h) | refine And.intro ?_ ?_ | (intro h;have h:(_:Nat)=_:=h;omega)) ?_
 exact And.intro trivial (Exists.intro _ (And.intro rfl ⟨rfl,hk⟩))
set_option maxRecDepth 100000 in
theorem ZfJ {cb:Nat} (rc:Rd H cb [.func (.func 48) #[] #[]]) (hlo:lo≤H.next) {a b c d:Int}:∃ r H',FnX Try.prog kn lo 63 [.agg #[iv a,iv b],.agg #[iv c,iv d],.pointer (some ⟨cb,0,none⟩)] H (iv r) H'∧(r < 0↔a < c)∧Keep H H' []:=by
 have key:=Zp (kn:=kn) (lo:=lo) (H:=H) (args:=[.agg #[iv a,iv b],.agg #[iv c,iv d],.pointer (some ⟨cb,0,none⟩)]) (Q:=fun w H'=>∃ r,w=iv r∧(r < 0↔a < c)∧Keep H H' []) Try.func63 B63 N63 Z63 L63 (by simp) ?_
 ·obtain ⟨w,H',h,r,rfl,q⟩:=key;exact ⟨r,H',h,q⟩
 have hk:=Keep.refl H []
 have lc:=rc.1
 refine Zc<|YD (v:=.agg #[iv a,iv b]) rfl ?_
 intro H1 kH1 nH1 c1
 have c1:Cl H1 H.next [iv a,iv b]:=c1
 have mH1:=kH1.1
 have hk:=hk.trans kH1
 have rc:=kH1.rd rc (by simp)
 refine YD (v:=.agg #[iv c,iv d]) rfl ?_
 intro H2 kH2 nH2 c2
 have c2:Cl H2 H1.next [iv c,iv d]:=c2
 have mH2:=kH2.1
 have hk:=hk.trans kH2
 have rc:=kH2.rd rc (by simp)
 have c1:=kH2.cl c1 (by simp)
 refine Za rfl<|Zb<|YF<|ZM (b:=cb) (o:=0) (v:=.func (.func 48) #[] #[]) rfl rc rfl<|YS (b:=H.next) (o:=0) rfl c1.rd (show row 2 _ _=some [iv a,iv b] from rfl) ?_
 obtain ⟨H3,fH3,kH3⟩:=Zag (kn:=kn) (lo:=H2.next) (H:=H2) (a:=a) (b:=b) (Nat.le_refl _)
 refine WL (vs:=[.agg #[iv a,iv b]]) rfl rfl (YN rfl (by simpa using fH3)) ?_
 have mH3:=kH3.1
 have hk:=hk.trans kH3
 have rc:=kH3.rd rc (by simp)
 have c1:=kH3.cl c1 (by simp)
 have c2:=kH3.cl c2 (by simp)
 refine ZM (b:=cb) (o:=0) (v:=.func (.func 48) #[] #[]) rfl rc rfl<|YS (b:=H1.next) (o:=0) rfl c2.rd (show row 2 _ _=some [iv c,iv d] from rfl) ?_
 obtain ⟨H4,fH4,kH4⟩:=Zag (kn:=kn) (lo:=lo) (H:=H3) (a:=c) (b:=d) (by omega)
 refine YC (vs:=[.agg #[iv c,iv d]]) rfl (YN rfl (by simpa using fH4)) ?_
 have mH4:=kH4.1
 have hk:=hk.trans kH4
 have rc:=kH4.rd rc (by simp)
 have c1:=kH4.cl c1 (by simp)
 have c2:=kH4.cl c2 (by simp)
 obtain ⟨rH5,H5,fH5,hr,kH5⟩:=Qr (kn:=kn) (lo:=lo) (H:=H4) (x:=a) (y:=c)
 refine YC (vs:=[iv (a),iv (c)]) rfl (Zh fH5) ?_
 have mH5:=kH5.1
 have hk:=hk.trans kH5
 have rc:=kH5.rd rc (by simp)
 have c1:=kH5.cl c1 (by simp)
 have c2:=kH5.cl c2 (by simp)
 refine Ze rfl ?_
 refine ZH (by repeat' first | exact True.intro | exact (fun h=>h) | refine And.intro ?_ ?_ | (intro h;have h:(_:Nat)=_:=h;omega)) ?_
 exact And.intro trivial (Exists.intro _ (And.intro rfl ⟨_,rfl,by omega,hk⟩))
set_option maxRecDepth 100000 in
theorem ZfO {cb:Nat} (rc:Rd H cb [.func (.func 61) #[] #[]]) (hlo:lo≤H.next) {a b:Int} (h1:0≤a∧a≤1099511627776) (h2:0≤b∧b≤1099511627776):∃ r H',FnX Try.prog kn lo 74 [iv a,iv b,.pointer (some ⟨cb,0,none⟩)] H (iv r) H'∧(r < 0↔-a < -b)∧Keep H H' []:=by
 have key:=Zp (kn:=kn) (lo:=lo) (H:=H) (args:=[iv a,iv b,.pointer (some ⟨cb,0,none⟩)]) (Q:=fun w H'=>∃ r,w=iv r∧(r < 0↔-a < -b)∧Keep H H' []) Try.func74 B74 N74 Z74 L74 (by simp) ?_
 ·obtain ⟨w,H',h,r,rfl,q⟩:=key;exact ⟨r,H',h,q⟩
 have hk:=Keep.refl H []
 have lc:=rc.1
 refine Zc<|Za rfl<|Zb<|YF<|ZM (b:=cb) (o:=0) (v:=.func (.func 61) #[] #[]) rfl rc rfl<|Ze rfl ?_
 obtain ⟨H1,fH1,kH1⟩:=ZaG (kn:=kn) (lo:=H.next) (H:=H) (a:=a) (by omega) (by omega)
 refine WL (vs:=[iv a]) rfl rfl (YN rfl (by simpa using fH1)) ?_
 have mH1:=kH1.1
 have hk:=hk.trans kH1
 have rc:=kH1.rd rc (by simp)
 refine ZM (b:=cb) (o:=0) (v:=.func (.func 61) #[] #[]) rfl rc rfl<|Ze rfl ?_
 obtain ⟨H2,fH2,kH2⟩:=ZaG (kn:=kn) (lo:=lo) (H:=H1) (a:=b) (by omega) (by omega)
 refine YC (vs:=[iv b]) rfl (YN rfl (by simpa using fH2)) ?_
 have mH2:=kH2.1
 have hk:=hk.trans kH2
 have rc:=kH2.rd rc (by simp)
 obtain ⟨rH3,H3,fH3,hr,kH3⟩:=Qr (kn:=kn) (lo:=lo) (H:=H2) (x:=(-a)) (y:=(-b))
 refine YC (vs:=[iv ((-a)),iv ((-b))]) rfl (Zh fH3) ?_
 have mH3:=kH3.1
 have hk:=hk.trans kH3
 have rc:=kH3.rd rc (by simp)
 refine Ze rfl ?_
 refine ZH (by repeat' first | exact True.intro | exact (fun h=>h) | refine And.intro ?_ ?_ | (intro h;have h:(_:Nat)=_:=h;omega)) ?_
 exact And.intro trivial (Exists.intro _ (And.intro rfl ⟨_,rfl,by omega,hk⟩))
set_option maxRecDepth 100000 in
theorem Zfc {ms:List Mb} {sa:Option Addr} {n cap:Nat} (hs:Sl H sa n cap (mbc ms)) (hl:ms.length=n) (hn:n≤400) (hm:∀ m∈ms,okM m) {tot all:Int} (ht0:0≤tot) (ht1:tot≤1048576) (ha0:0 < all) (ha1:all≤439804651110400) {t1 t2 t3:Nat} (r1:Rd H t1 [iv tot]) (r2:Rd H t2 [.slice sa n cap]) (r3:Rd H t3 [iv all]) {cb:Nat} (rc:Rd H cb [.func (.func 66) #[] #[.pointer (some ⟨t1,0,none⟩),.pointer (some ⟨t2,0,none⟩),.pointer (some ⟨t3,0,none⟩)]]) (hlo:lo≤H.next) {x y:Nat} (hx:x < n) (hy:y < n):∃ r H',FnX Try.prog kn lo 74 [iv (x:Int),iv (y:Int),.pointer (some ⟨cb,0,none⟩)] H (iv r) H'∧(r < 0↔-(tot * (ms.getD x Mb.z).b % all) < -(tot * (ms.getD y Mb.z).b % all))∧Keep H H' []:=by
 have key:=Zp (kn:=kn) (lo:=lo) (H:=H) (args:=[iv (x:Int),iv (y:Int),.pointer (some ⟨cb,0,none⟩)]) (Q:=fun w H'=>∃ r,w=iv r∧(r < 0↔-(tot * (ms.getD x Mb.z).b % all) < -(tot * (ms.getD y Mb.z).b % all))∧Keep H H' []) Try.func74 B74 N74 Z74 L74 (by simp) ?_
 ·obtain ⟨w,H',h,r,rfl,q⟩:=key;exact ⟨r,H',h,q⟩
 have hk:=Keep.refl H []
 have fs:=hs.old
 have lc:=rc.1;have l1:=r1.1;have l2:=r2.1;have l3:=r3.1
 refine Zc<|Za rfl<|Zb<|YF<|ZM (b:=cb) (o:=0) (v:=.func (.func 66) #[] #[.pointer (some ⟨t1,0,none⟩),.pointer (some ⟨t2,0,none⟩),.pointer (some ⟨t3,0,none⟩)]) rfl rc rfl<|Ze rfl ?_
 obtain ⟨H1,fH1,kH1⟩:=jV (kn:=kn) (lo:=H.next) (H:=H) hs hl hn hm ht0 ht1 ha0 ha1 r1 r2 r3 (Nat.le_refl _) (x:=x) (by omega)
 refine WL (vs:=[iv (x:Int)]) rfl rfl (YN rfl (by simpa using fH1)) ?_
 have mH1:=kH1.1
 have hk:=hk.trans kH1
 have hs:=kH1.sl0 hs
 have rc:=kH1.rd rc (by simp)
 have r1:=kH1.rd r1 (by simp)
 have r2:=kH1.rd r2 (by simp)
 have r3:=kH1.rd r3 (by simp)
 refine ZM (b:=cb) (o:=0) (v:=.func (.func 66) #[] #[.pointer (some ⟨t1,0,none⟩),.pointer (some ⟨t2,0,none⟩),.pointer (some ⟨t3,0,none⟩)]) rfl rc rfl<|Ze rfl ?_
 obtain ⟨H2,fH2,kH2⟩:=jV (kn:=kn) (lo:=lo) (H:=H1) hs hl hn hm ht0 ht1 ha0 ha1 r1 r2 r3 (by omega) (x:=y) (by omega)
 refine YC (vs:=[iv (y:Int)]) rfl (YN rfl (by simpa using fH2)) ?_
 have mH2:=kH2.1
 have hk:=hk.trans kH2
 have hs:=kH2.sl0 hs
 have rc:=kH2.rd rc (by simp)
 have r1:=kH2.rd r1 (by simp)
 have r2:=kH2.rd r2 (by simp)
 have r3:=kH2.rd r3 (by simp)
 obtain ⟨rH3,H3,fH3,hr,kH3⟩:=Qr (kn:=kn) (lo:=lo) (H:=H2) (x:=(-(tot * (ms.getD x Mb.z).b % all))) (y:=(-(tot * (ms.getD y Mb.z).b % all)))
 refine YC (vs:=[iv ((-(tot * (ms.getD x Mb.z).b % all))),iv ((-(tot * (ms.getD y Mb.z).b % all)))]) rfl (Zh fH3) ?_
 have mH3:=kH3.1
 have hk:=hk.trans kH3
 have hs:=kH3.sl0 hs
 have rc:=kH3.rd rc (by simp)
 have r1:=kH3.rd r1 (by simp)
 have r2:=kH3.rd r2 (by simp)
 have r3:=kH3.rd r3 (by simp)
 refine Ze rfl ?_
 refine ZH (by repeat' first | exact True.intro | exact (fun h=>h) | refine And.intro ?_ ?_ | (intro h;have h:(_:Nat)=_:=h;omega)) ?_
 exact And.intro trivial (Exists.intro _ (And.intro rfl ⟨_,rfl,by omega,hk⟩))
end
end
end Go.Ax

/-
 Pool: members,amounts,indexes sorted;best;who is cut off most (47,60,46,53) (written by program).
-/
namespace Go.Ax
open Go Go.RowKit Go.Proofs

noncomputable section
theorem qo:∀ xs:List Int,xs.flatMap (fun x=>[iv x])=cI xs
 | []=>rfl
 | x :: l=>by rw [List.flatMap_cons,qo l];rfl
def idx (n:Nat):List Int:=(List.range n).map fun i:Nat=>(i:Int)
theorem Zf2 {n:Nat}:idx (n+1)=idx n ++ [(n:Int)]:=by unfold idx;rw [List.range_succ,List.map_append];rfl
theorem qu {n:Nat}:(idx n).length=n:=by simp [idx]
theorem J1 {n:Nat}:cG (fun x=>[iv (x:Int)]) n (fun i=>i)=cI (idx n):=by
 unfold cG idx cI
 rw [List.map_map,List.flatMap_map]
 induction (List.range n) with
 | nil=>rfl
 | cons a l ih=>rw [List.flatMap_cons,ih];rfl
def J4 (n:Nat) (s:Nat→Nat):List Int:=(List.range n).map fun i:Nat=>(s i:Int)
theorem ZaI {n:Nat} {s:Nat→Nat}:(J4 n s).length=n:=by simp [J4]
theorem ZfU {n i:Nat} {s:Nat→Nat} (h:i < n):(J4 n s).getD i 0=(s i:Int):=by
 unfold J4;rw [List.getD_eq_getElem?_getD,List.getElem?_map,List.getElem?_range h];rfl
theorem ZbB {n:Nat} {s:Nat→Nat}:cG (fun x=>[iv (x:Int)]) n s=cI (J4 n s):=by
 unfold cG J4 cI
 rw [List.map_map,List.flatMap_map]
 induction (List.range n) with
 | nil=>rfl
 | cons a l ih=>rw [List.flatMap_cons,ih];rfl
theorem Zcd {H:Hp} {b:Nat} {cs:List Value} {t:TypeId × Bool} (h:Cl H b cs) (q:U9 H b=some t):H.t.get b=some (.cells cs t.1 t.2):=by
 obtain ⟨_,e,l,g⟩:=h
 unfold U9 at q
 rw [g] at q
 cases q;exact g
theorem ZbY {H:Hp} {b:Nat} {cs:List Value} {e:TypeId} {l:Bool} (h:H.t.get b=some (.cells cs e l)):U9 H b=some (e,l):=by unfold U9;rw [h]
section
variable {kn:Kn} {lo:Nat} {H:Hp}
set_option maxRecDepth 100000 in
theorem Zd4 {ms:List Mb} {bd cap:Nat} (hlb:lo≤bd) (hn160:ms.length≤160) (hc:Cl H bd (mbc ms)) (hlo:lo≤H.next):∃ s H',FnX Try.prog kn lo 47 [.slice (some ⟨bd,0,none⟩) ms.length cap,.func (.func 48) #[] #[]] H (.tuple #[]) H'∧PRm 0 ms.length (fun i=>i) s∧So (fun i=>(ms.getD i Mb.z).g) 0 ms.length s∧KT bd H H'∧Cl H' bd (mbc (U8 ms Mb.z s)):=by
 have key:=Zp (kn:=kn) (lo:=lo) (H:=H) (args:=[.slice (some ⟨bd,0,none⟩) ms.length cap,.func (.func 48) #[] #[]]) (Q:=fun w H'=>w=.tuple #[]∧∃ s,PRm 0 ms.length (fun i=>i) s∧So (fun i=>(ms.getD i Mb.z).g) 0 ms.length s∧KT bd H H'∧Cl H' bd (mbc (U8 ms Mb.z s))) Try.func47 B47 N47 Z47 L47 (by simp) ?_
 ·obtain ⟨w,H',h,rfl,s,r⟩:=key;exact ⟨s,H',h,r⟩
 have hk:=KT.refl (H:=H) hc.1
 refine Zc<|YD (v:=.func (.func 48) #[] #[]) rfl ?_
 intro H1 kH1 nH1 c1
 have c1:Cl H1 H.next [.func (.func 48) #[] #[]]:=c1
 have mH1:=kH1.1
 have hk:=hk.keep kH1
 have hc:=kH1.cl hc (by simp)
 refine Zb ?_
 show Zl _ _ _ _ _ _ _ _
 refine Za rfl<|Zg (v:=.func (.func 63) #[] #[pt H.next]) rfl (by kernel_rfl) ?_
 obtain ⟨cb,ecb⟩:∃ cb,cb=H.next:=⟨_,rfl⟩
 have hbd:=hk.b
 have hecb:bd < cb:=by omega
 rw [← ecb] at c1 ⊢
 have hlcb:=c1.1
 have hcm:Uh Try.prog kn lo bd 63 #[.pointer (some ⟨cb,0,none⟩)] (fun x=>.agg #[iv (ms.getD x Mb.z).g,iv (ms.getD x Mb.z).b]) ms.length (fun i=>(ms.getD i Mb.z).g) H1:=fun HH kH x y hx hy=>by
  have mH:=kH.1
  obtain ⟨r,H9,f9,hr,k9⟩:=ZfJ (kn:=kn) (lo:=lo) (H:=HH) (kH.rd c1.rd (by simp;omega)) (by omega) (a:=(ms.getD x Mb.z).g) (b:=(ms.getD x Mb.z).b) (c:=(ms.getD y Mb.z).g) (d:=(ms.getD y Mb.z).b)
  exact ⟨r,H9,YN rfl (by simpa using f9),k9,hr⟩
 obtain ⟨H2,s,fH2,pH2,sH2,kH2,cH2⟩:=ZfQ (kn:=kn) (lo:=lo) (H:=H1) (bd:=bd) (n:=ms.length) (v:=fun i=>(ms.getD i Mb.z).g) (u:=fun i=>(ms.getD i Mb.z).b) (by omega) hlb hn160 (cap:=cap) (by have e:=Zgp (l:=ms) (d:=Mb.z) (e:=Mb.f);unfold mbc at hc;rw [← e] at hc;exact hc) hcm
 refine Zu (vs:=[.slice (some ⟨bd,0,none⟩) ms.length cap,.func (.func 63) #[] #[.pointer (some ⟨cb,0,none⟩)]]) rfl (Zh fH2) ?_
 have hk:=hk.trans kH2
 refine Zb ?_
 have hcz:Cl H2 bd (mbc (U8 ms Mb.z s)):=by unfold mbc;rw [← zX];exact cH2
 exact And.intro trivial (Exists.intro _ (And.intro rfl ⟨rfl,s,pH2,sH2,hk,hcz⟩))
set_option maxRecDepth 100000 in
theorem Zea {xs:List Int} {bd cap:Nat} (hlb:lo≤bd) (hn160:xs.length≤160) (hc:Cl H bd (cI xs)) (hlo:lo≤H.next) (hx0:∀ a∈xs,0≤a∧a≤1099511627776):∃ H',FnX Try.prog kn lo 60 [.slice (some ⟨bd,0,none⟩) xs.length cap,.func (.func 61) #[] #[]] H (.tuple #[]) H'∧KT bd H H'∧Cl H' bd (cI (dsc xs)):=by
 have key:=Zp (kn:=kn) (lo:=lo) (H:=H) (args:=[.slice (some ⟨bd,0,none⟩) xs.length cap,.func (.func 61) #[] #[]]) (Q:=fun w H'=>w=.tuple #[]∧KT bd H H'∧Cl H' bd (cI (dsc xs))) Try.func60 B60 N60 Z60 L60 (by simp) ?_
 ·obtain ⟨w,H',h,rfl,r⟩:=key;exact ⟨H',h,r⟩
 have hk:=KT.refl (H:=H) hc.1
 refine Zc<|YD (v:=.func (.func 61) #[] #[]) rfl ?_
 intro H1 kH1 nH1 c1
 have c1:Cl H1 H.next [.func (.func 61) #[] #[]]:=c1
 have mH1:=kH1.1
 have hk:=hk.keep kH1
 have hc:=kH1.cl hc (by simp)
 refine Zb ?_
 show Zl _ _ _ _ _ _ _ _
 refine Za rfl<|Zg (v:=.func (.func 74) #[] #[pt H.next]) rfl (by kernel_rfl) ?_
 obtain ⟨cb,ecb⟩:∃ cb,cb=H.next:=⟨_,rfl⟩
 have hbd:=hk.b
 have hecb:bd < cb:=by omega
 rw [← ecb] at c1 ⊢
 have hlcb:=c1.1
 have hcm:Uh Try.prog kn lo bd 74 #[.pointer (some ⟨cb,0,none⟩)] (fun x=>iv (xs.getD x 0)) xs.length (fun i=>-(xs.getD i 0)) H1:=fun HH kH x y hx hy=>by
  have mH:=kH.1
  obtain ⟨r,H9,f9,hr,k9⟩:=ZfO (kn:=kn) (lo:=lo) (H:=HH) (kH.rd c1.rd (by simp;omega)) (by omega) (a:=xs.getD x 0) (b:=xs.getD y 0) (KN hx0 hx) (KN hx0 hy)
  exact ⟨r,H9,YN rfl (by simpa using f9),k9,hr⟩
 obtain ⟨H2,s,fH2,pH2,sH2,kH2,cH2⟩:=Zb8 (kn:=kn) (lo:=lo) (H:=H1) (bd:=bd) (n:=xs.length) (v:=fun i=>xs.getD i 0) (by omega) hlb hn160 (cap:=cap) (by have e:=Zgp (l:=xs) (d:=0) (e:=fun x=>[iv x]);rw [qo] at e;rw [← e] at hc;exact hc) hcm
 refine Zu (vs:=[.slice (some ⟨bd,0,none⟩) xs.length cap,.func (.func 74) #[] #[.pointer (some ⟨cb,0,none⟩)]]) rfl (Zh fH2) ?_
 have hk:=hk.trans kH2
 refine Zb ?_
 have hys:U8 xs 0 s=dsc xs:=Zdf (yI pH2) ((J6 (f:=fun x:Int=>-x) sH2).imp fun h=>by omega)
 have hcz:Cl H2 bd (cI (dsc xs)):=by rw [← hys,← qo,← zX];exact cH2
 exact And.intro trivial (Exists.intro _ (And.intro rfl ⟨rfl,hk,hcz⟩))
set_option maxRecDepth 100000 in
theorem Zd2 {ms:List Mb} {sa:Option Addr} {n cap:Nat} (hs:Sl H sa n cap (mbc ms)) (hl:ms.length=n) (hn:n≤400) (hm:∀ m∈ms,okM m) {tot all:Int} (ht0:0≤tot) (ht1:tot≤1048576) (ha0:0 < all) (ha1:all≤439804651110400) {t1 t2 t3:Nat} (r1:Rd H t1 [iv tot]) (r2:Rd H t2 [.slice sa n cap]) (r3:Rd H t3 [iv all]) {bd capd:Nat} (hlb:lo≤bd) (hn160:n≤160) (hc:Cl H bd (cI (idx n))) (hlo:lo≤H.next) (hb1:t1≠bd) (hb2:t2≠bd) (hb3:t3≠bd) (hb4:∀ b,sa=some ⟨b,0,none⟩→b≠bd):∃ s H',FnX Try.prog kn lo 60 [.slice (some ⟨bd,0,none⟩) n capd,.func (.func 66) #[] #[.pointer (some ⟨t1,0,none⟩),.pointer (some ⟨t2,0,none⟩),.pointer (some ⟨t3,0,none⟩)]] H (.tuple #[]) H'∧PRm 0 n (fun i=>i) s∧So (fun x=>-(tot * (ms.getD x Mb.z).b % all)) 0 n s∧KT bd H H'∧Cl H' bd (cI (J4 n s)):=by
 have key:=Zp (kn:=kn) (lo:=lo) (H:=H) (args:=[.slice (some ⟨bd,0,none⟩) n capd,.func (.func 66) #[] #[.pointer (some ⟨t1,0,none⟩),.pointer (some ⟨t2,0,none⟩),.pointer (some ⟨t3,0,none⟩)]]) (Q:=fun w H'=>w=.tuple #[]∧∃ s,PRm 0 n (fun i=>i) s∧So (fun x=>-(tot * (ms.getD x Mb.z).b % all)) 0 n s∧KT bd H H'∧Cl H' bd (cI (J4 n s))) Try.func60 B60 N60 Z60 L60 (by simp) ?_
 ·obtain ⟨w,H',h,rfl,s,r⟩:=key;exact ⟨s,H',h,r⟩
 have hk:=KT.refl (H:=H) hc.1
 have fs:=hs.old
 refine Zc<|YD (v:=.func (.func 66) #[] #[.pointer (some ⟨t1,0,none⟩),.pointer (some ⟨t2,0,none⟩),.pointer (some ⟨t3,0,none⟩)]) rfl ?_
 intro H1 kH1 nH1 c1
 have c1:Cl H1 H.next [.func (.func 66) #[] #[.pointer (some ⟨t1,0,none⟩),.pointer (some ⟨t2,0,none⟩),.pointer (some ⟨t3,0,none⟩)]]:=c1
 have mH1:=kH1.1
 have hk:=hk.keep kH1
 have hc:=kH1.cl hc (by simp)
 have hs:=kH1.sl0 hs
 have r1:=kH1.rd r1 (by simp)
 have r2:=kH1.rd r2 (by simp)
 have r3:=kH1.rd r3 (by simp)
 refine Zb ?_
 show Zl _ _ _ _ _ _ _ _
 refine Za rfl<|Zg (v:=.func (.func 74) #[] #[pt H.next]) rfl (by kernel_rfl) ?_
 obtain ⟨cb,ecb⟩:∃ cb,cb=H.next:=⟨_,rfl⟩
 have hbd:=hk.b
 have hecb:bd < cb:=by omega
 rw [← ecb] at c1 ⊢
 have hlcb:=c1.1
 have hcm:Uh Try.prog kn lo bd 74 #[.pointer (some ⟨cb,0,none⟩)] (fun x=>iv (x:Int)) n (fun x=>-(tot * (ms.getD x Mb.z).b % all)) H1:=fun HH kH x y hx hy=>by
  have mH:=kH.1
  obtain ⟨r,H9,f9,hr,k9⟩:=Zfc (kn:=kn) (lo:=lo) (H:=HH) (kH.sl hs (fun b e=>by have:=hb4 b e;simp;omega)) hl hn hm ht0 ht1 ha0 ha1 (kH.rd r1 (by simp;omega)) (kH.rd r2 (by simp;omega)) (kH.rd r3 (by simp;omega)) (kH.rd c1.rd (by simp;omega)) (by omega) hx hy
  exact ⟨r,H9,YN rfl (by simpa using f9),k9,hr⟩
 obtain ⟨H2,s,fH2,pH2,sH2,kH2,cH2⟩:=Zb8 (kn:=kn) (lo:=lo) (H:=H1) (bd:=bd) (n:=n) (v:=fun i=>(i:Int)) (by omega) hlb hn160 (cap:=capd) (by rw [← J1] at hc;exact hc) hcm
 refine Zu (vs:=[.slice (some ⟨bd,0,none⟩) n capd,.func (.func 74) #[] #[.pointer (some ⟨cb,0,none⟩)]]) rfl (Zh fH2) ?_
 have hk:=hk.trans kH2
 refine Zb ?_
 exact And.intro trivial (Exists.intro _ (And.intro rfl ⟨rfl,s,pH2,sH2,hk,by rw [← ZbB];exact cH2⟩))
set_option maxRecDepth 100000 in
theorem Ze5 {xs:List Int} {bd k:Nat} (hlb:lo≤bd) (hl:xs.length=k) (h0:0 < k) (hn160:k≤160) (hc:Cl H bd (cI xs)) (hg:H.t.get bd=some (.cells (cI xs) 3 true)) (hlo:lo≤H.next) (hx0:∀ a∈xs,0≤a∧a≤1099511627776) {mb:Int} (hm1:1≤mb) (hm2:mb≤1000):∃ H',FnX Try.prog kn lo 46 [.slice (some ⟨bd,0,none⟩) k k,iv mb] H (.slice (some ⟨bd,0,none⟩) (min mb.toNat k) k) H'∧KT bd H H'∧Cl H' bd (cI (dsc xs)):=by
 have key:=Zp (kn:=kn) (lo:=lo) (H:=H) (args:=[.slice (some ⟨bd,0,none⟩) k k,iv mb]) (Q:=fun w H'=>w=.slice (some ⟨bd,0,none⟩) (min mb.toNat k) k∧KT bd H H'∧Cl H' bd (cI (dsc xs))) Try.func46 B46 N46 Z46 L46 (by simp) ?_
 ·obtain ⟨w,H',h,rfl,q⟩:=key;exact ⟨H',h,q⟩
 have hk:=KT.refl (H:=H) hc.1
 refine Zc<|Za rfl<|Zb<|Zc<|Za rfl ?_
 obtain ⟨H1,fH1,kH1,cH1⟩:=Zea (kn:=kn) (lo:=lo) (H:=H) (cap:=k) hlb (by omega) hc (by omega) hx0
 rw [hl] at fH1
 refine Zu (vs:=[.slice (some ⟨bd,0,none⟩) k k,.func (.func 61) #[] #[]]) rfl (Zh fH1) ?_
 have hk:=hk.trans kH1
 refine Zb<|Zc<|Za rfl<|Za rfl<|Za rfl<|Z6 (m:=k) rfl ?_
 obtain ⟨M,eM⟩:∃ M,M=min mb.toNat k:=⟨_,rfl⟩
 have hM:min mb (k:Int)=(M:Int):=by omega
 refine Zf7 (a:=mb) (b:=(k:Int)) rfl rfl ?_
 show Zl _ _ _ _ _ (Zy _ _ (iv (min mb (k:Int)))) _ _
 rw [hM]
 have hgt:=Zcd cH1 (kH1.tg.trans (ZbY hg))
 have hacz:Acc lo 0 3 H1 (.slice (some ⟨bd,0,none⟩) k k) k (cI (dsc xs)):=.inr ⟨bd,rfl,h0,by omega,hlb,cH1.1,hgt⟩
 obtain ⟨tv,kdt,et,dt,_,ta,htv,hts,hta⟩:=Q9 (lo:=lo) (k:=M) hacz (by rw [Wy,hl]) (by omega)
 have hta:=hta h0;cases hta;subst htv
 refine Yy (v:=.slice (some ⟨bd,0,none⟩) M k) (H':=H1) (k:=kdt) rfl rfl (et _ _ _ _ _ _ _ rfl rfl) (by rcases dt with rfl | ⟨bR,rfl,hbR⟩;exact (fun b e=>by cases e);exact (fun b e=>by cases e;exact hbR))<|Za rfl<|Zb ?_
 exact And.intro trivial (Exists.intro _ (And.intro rfl ⟨by rw [← eM];rfl,hk,cH1⟩))
set_option maxRecDepth 100000 in
set_option maxHeartbeats 1000000 in
theorem Zfm {ms:List Mb} {sa:Option Addr} {n cap:Nat} (hs:Sl H sa n cap (mbc ms)) (hl:ms.length=n) (hn:n≤400) (hlo:lo≤H.next) (hm:∀ m∈ms,okM m) (hn160:n≤160) (h0:0 < n) {tot:Int} (ht0:0≤tot) (ht1:tot≤1048576) (ha0:0 < ZW ms) (ha1:ZW ms≤439804651110400):∃ (s:Nat→Nat) (bd:Nat) (H':Hp),FnX Try.prog kn lo 53 [.slice sa n cap,iv tot] H (.slice (some ⟨bd,0,none⟩) n n) H'∧PRm 0 n (fun i=>i) s∧So (fun x=>-(tot * (ms.getD x Mb.z).b % ZW ms)) 0 n s∧H.next≤bd∧lo≤bd∧bd < H'.next∧H'.t.get bd=some (.cells (cI (J4 n s)) 3 true)∧Keep H H' []:=by
 have key:=Zp (kn:=kn) (lo:=lo) (H:=H) (args:=[.slice sa n cap,iv tot]) (Q:=fun w H'=>∃ (s:Nat→Nat) (bd:Nat),w=.slice (some ⟨bd,0,none⟩) n n∧PRm 0 n (fun i=>i) s∧So (fun x=>-(tot * (ms.getD x Mb.z).b % ZW ms)) 0 n s∧H.next≤bd∧lo≤bd∧bd < H'.next∧H'.t.get bd=some (.cells (cI (J4 n s)) 3 true)∧Keep H H' []) Try.func53 B53 N53 Z53 L53 (by simp) ?_
 ·obtain ⟨w,H',h,s,bd,rfl,r⟩:=key;exact ⟨s,bd,H',h,r⟩
 have hk:=Keep.refl H []
 have fs:=hs.old
 refine Zc<|YD (v:=.slice sa n cap) rfl ?_
 intro H1 kH1 nH1 c1
 have c1:Cl H1 H.next [.slice sa n cap]:=c1
 have mH1:=kH1.1
 have hk:=hk.trans kH1
 have hs:=kH1.sl0 hs
 refine YD (v:=iv tot) rfl ?_
 intro H2 kH2 nH2 c2
 have c2:Cl H2 H1.next [iv tot]:=c2
 have mH2:=kH2.1
 have hk:=hk.trans kH2
 have hs:=kH2.sl0 hs
 have c1:=kH2.cl c1 (by simp)
 refine Za rfl<|Zb<|Zc<|ZZ (b:=H.next) (o:=0) (v:=.slice sa n cap) rfl c1.rd rfl ?_
 obtain ⟨H3,fH3,kH3⟩:=JR (kn:=kn) (lo:=lo) (H:=H2) hs hl hn (by omega) hm
 refine Zu (vs:=[.slice sa n cap]) rfl (Zh fH3) ?_
 have mH3:=kH3.1
 have hk:=hk.trans kH3
 have hs:=kH3.sl0 hs
 have c1:=kH3.cl c1 (by simp)
 have c2:=kH3.cl c2 (by simp)
 refine WN ?_
 intro H4 kH4 nH4 c4
 have c4:Cl H4 H3.next [iv 0]:=c4
 have mH4:=kH4.1
 have hk:=hk.trans kH4
 have hs:=kH4.sl0 hs
 have c1:=kH4.cl c1 (by simp)
 have c2:=kH4.cl c2 (by simp)
 refine K5 (b:=H3.next) (o:=0) rfl rfl c4 (by omega) rfl rfl (by simp) ?_
 intro H5 kH5 nH5 sH5
 have mH5:=kH5.1
 have hk:=hk.new kH5 (fun b hb=>by simp at hb ⊢;omega)
 have hs:=kH5.sl hs (fun b e=>by have:=fs b e;first | (simp;done) | (simp;omega))
 have c1:=kH5.cl c1 (by first | (simp;done) | (simp;omega))
 have c2:=kH5.cl c2 (by first | (simp;done) | (simp;omega))
 have c4:Cl H5 H3.next [iv (ZW ms)]:=sH5
 refine Zb<|Zc<|Za rfl<|Zb<|Zc<|ZZ (b:=H.next) (o:=0) (v:=.slice sa n cap) rfl c1.rd rfl<|Z6 (m:=n) rfl<|Za rfl<|Zb ?_
 refine Zt (fn:=Try.f53) Zi9 N53 Ziq (fun z:Nat × Value=>[(2,pt H.next),(3,pt H1.next),(5,pt H3.next),(6,z.2),(11,iv (n:Int)),(12,iv (z.1:Int))])
  (fun k z H'=>z.1+k=n∧Keep H H' []∧H5.next≤H'.next∧Sl H' sa n cap (mbc ms)∧Cl H' H.next [.slice sa n cap]∧Cl H' H1.next [iv tot]∧Cl H' H3.next [iv (ZW ms)]∧Acc lo H5.next 3 H' z.2 z.1 (cI (idx z.1))) n (0,.slice none 0 0) ⟨by simp,hk,Nat.le_refl _,hs,c1,c2,c4,.inl ⟨rfl,rfl,rfl⟩⟩ ⟨rfl,rfl,rfl,rfl,rfl,rfl,trivial⟩ ?_
 rintro k ⟨i,wv⟩ L1 ⟨hik,hk,hnx,hs,r2,r1,r3,hacc⟩
 simp only [] at hik hacc
 have mk:=hk.1;have kacc:=Keep.refl L1 []
 refine Zc<|ZC (a:=(i:Int)) (b:=(n:Int)) rfl rfl<|Zb ?_
 refine And.intro (fun q1=>?_) (fun q1=>?_)
 ·have q1:(i:Int) < (n:Int):=of_decide_eq_true q1
  first | refine Zi ?_ | skip
  refine Zc<|Za rfl<|Za rfl<|Zb ?_
  show Zl _ _ _ _ _ _ _ _
  refine Za rfl<|Za rfl ?_
  obtain ⟨H6,hH6⟩:∃ H6,L1.new (.cells [iv (i:Int)] 3 false)=H6:=⟨_,rfl⟩
  refine Yy (H':=H6) (k:=.heavy) rfl (by kernel_rfl) ((YU (v:=iv (i:Int)) Qm zo3 rfl rfl rfl (by decide)).trans (by rw [← hH6];rfl)) (fun b e=>by cases e) ?_
  obtain ⟨kH6,nH6,c6⟩:=ZD hH6;clear hH6
  have c6:Cl H6 L1.next [iv (i:Int)]:=c6
  have mH6:=kH6.1
  have hk:=hk.trans kH6
  have hs:=kH6.sl0 hs
  have r2:=kH6.cl r2 (by simp)
  have r1:=kH6.cl r1 (by simp)
  have r3:=kH6.cl r3 (by simp)
  have kacc:=kacc.trans kH6
  obtain ⟨H7,kdH7,eH7,dH7,aH7,kbH7⟩:=Yw (P:=Try.prog) (lo:=lo) (k:=i) (t1:=67) Qm J0 (c6.sl (Nat.le_refl 1)) rfl (by decide) rfl (by rw [Vx,qu];omega) (by omega) (hacc.keep kacc) (by omega) (by omega)
  refine Yy (k:=kdH7) rfl (by cases wv<;>kernel_rfl) (eH7 _ _ _ _ _ _ _ rfl rfl) (Qx dH7 _) ?_
  have hk:=kbH7.keep hk (by omega)
  have hs:=kbH7.sl hs (fun b e=>by have:=fs b e;omega)
  have r2:=kbH7.cl r2 (by omega)
  have r1:=kbH7.cl r1 (by omega)
  have r3:=kbH7.cl r3 (by omega)
  have mH7:=kbH7.1
  refine Za rfl<|Zb ?_
  show Zl _ _ _ _ _ _ _ _
  refine Zs (a:=(i:Int)) (b:=1) rfl rfl ⟨by omega,by omega⟩<|Za rfl<|Zb ?_
  have hacc2:Acc lo H5.next 3 H7 (.slice (some ⟨H6.next,0,none⟩) (i+1) (i+1)) (i+1) (cI (idx (i+1))):=by rw [Zf2];unfold cI at *;rw [List.map_append];exact aH7
  exact ⟨k - 1,(i+1,_),by omega,⟨by simp only [];omega,hk,by omega,hs,r2,r1,r3,hacc2⟩,rfl,rfl,rfl,rfl,rfl,rfl,trivial⟩
 ·have q1:¬ ((i:Int) < (n:Int)):=of_decide_eq_false q1
  have ein:i=n:=by omega
  rcases hacc with ⟨q0,_⟩ | ⟨bd,rfl,q0,q1,q2,q3,q4⟩
  ·exfalso;omega
  rw [ein] at q0 q4 ⊢
  first | (refine Zz ?_;show wC _ _ _ _ _ _ _ _ _) | skip
  refine Zc<|Za rfl<|Zg (v:=.func (.func 66) #[] #[pt H1.next,pt H.next,pt H3.next]) rfl (by kernel_rfl) ?_
  obtain ⟨s,H8,fH8,pH8,sH8,kH8,cH8⟩:=Zd2 (kn:=kn) (lo:=lo) (H:=L1) (capd:=n) hs hl hn hm ht0 ht1 ha0 ha1 (t1:=H1.next) (t2:=H.next) (t3:=H3.next) r1.rd r2.rd r3.rd (bd:=bd) (by omega) hn160 (by rw [← J1];exact ⟨q3,3,true,by rw [J1];exact q4⟩) (by omega) (by omega) (by omega) (by omega) (fun b e=>by have:=fs b e;omega)
  refine Zu (vs:=[.slice (some ⟨bd,0,none⟩) n n,.func (.func 66) #[] #[.pointer (some ⟨H1.next,0,none⟩),.pointer (some ⟨H.next,0,none⟩),.pointer (some ⟨H3.next,0,none⟩)]]) rfl (Zh fH8)<|Zb<|Zc<|Za rfl<|Za rfl<|Zb ?_
  exact And.intro trivial (Exists.intro _ (And.intro rfl ⟨s,bd,rfl,pH8,sH8,by omega,by omega,cH8.1,Zcd cH8 (kH8.tg.trans (ZbY q4)),hk.new kH8.kp (fun b hb=>.inr (by simp at hb;omega))⟩))
end
end
end Go.Ax

/-
 Pool: shares (32) (written by program).
-/
namespace Go.Ax
open Go Go.RowKit Go.Proofs

noncomputable section
def shQ (ms:List Mb) (tot:Int) (m:Mb):Qt:=⟨m.g,m.b,tot * m.b / ZW ms⟩
def shP (ms:List Mb) (tot:Int):List Qt:=ms.map (shQ ms tot)
def shJ (ms:List Mb) (tot:Int) (s:Nat→Nat) (j:Nat):List Qt:=(List.range ms.length).map fun i=>⟨(ms.getD i Mb.z).g,(ms.getD i Mb.z).b,tot * (ms.getD i Mb.z).b / ZW ms+(if i∈(List.range j).map s then 1 else 0)⟩
theorem Zga {ms:List Mb} {tot:Int} {s:Nat→Nat}:shJ ms tot s 0=shP ms tot:=by
 unfold shJ shP
 refine List.ext_getElem? fun i=>?_
 rcases Nat.lt_or_ge i ms.length with q | q
 ·simp [q,shQ]
 ·simp [q]
theorem UY {ms:List Mb} {tot:Int} {s:Nat→Nat} {j:Nat}:(shJ ms tot s j).length=ms.length:=by simp [shJ]
theorem Zc3 {ms:List Mb} {tot:Int} {s:Nat→Nat} {j i:Nat} (h:i < ms.length):(shJ ms tot s j).getD i Qt.z=⟨(ms.getD i Mb.z).g,(ms.getD i Mb.z).b,tot * (ms.getD i Mb.z).b / ZW ms+(if i∈(List.range j).map s then 1 else 0)⟩:=by
 unfold shJ;rw [List.getD_eq_getElem?_getD,List.getElem?_map,List.getElem?_range h];rfl
theorem Zck {n:Nat} {s:Nat→Nat} (p:PRm 0 n (fun i=>i) s) {i j:Nat} (hi:i < n) (hj:j < n) (e:s i=s j):i=j:=by
 have hid:rg (fun i:Nat=>i) 0 n=List.range n:=by unfold rg;rw [List.range_eq_range'];simp
 have h:=p.perm
 rw [hid] at h
 have hn:(rg s 0 n).Nodup:=h.nodup_iff.2 List.nodup_range
 have key:∀ i j,i < j→j < n→s i≠s j:=by
  intro i j hij hj e
  have:=(List.pairwise_iff_getElem.1 hn) i j (by rw [ZaQ];omega) (by rw [ZaQ];omega) hij
  apply this
  simp only [rg,List.getElem_map,List.getElem_range']
  simpa using e
 rcases Nat.lt_trichotomy i j with q | q | q
 ·exact absurd e (key i j q hj)
 ·exact q
 ·exact absurd e.symm (key j i q hi)
theorem qK {n:Nat} {s:Nat→Nat} (p:PRm 0 n (fun i=>i) s) {i:Nat} (hi:i < n):s i < n:=p.dom (fun k h=>h) (Nat.le_refl _) i hi
theorem ZjD {ms:List Mb} {tot:Int} {s:Nat→Nat} {j:Nat} (p:PRm 0 ms.length (fun i=>i) s) (hj:j < ms.length):(shJ ms tot s j).set (s j) ⟨(ms.getD (s j) Mb.z).g,(ms.getD (s j) Mb.z).b,tot * (ms.getD (s j) Mb.z).b / ZW ms+1⟩=shJ ms tot s (j+1):=by
 refine List.ext_getElem? fun i=>?_
 rw [List.getElem?_set,UY]
 rcases Nat.lt_or_ge i ms.length with q | q
 ·by_cases e:s j=i
  ·rw [if_pos e,if_pos (by omega),← e]
   unfold shJ
   rw [List.getElem?_map,List.getElem?_range (by omega)]
   simp only [Option.map_some]
   rw [if_pos (show s j∈(List.range (j+1)).map s from List.mem_map.2 ⟨j,by simp,rfl⟩)]
  ·rw [if_neg e]
   unfold shJ
   rw [List.getElem?_map,List.getElem?_map,List.getElem?_range q]
   simp only [Option.map_some]
   have:i∈(List.range (j+1)).map s↔i∈(List.range j).map s:=by
    rw [List.range_succ,List.map_append,List.mem_append]
    simp only [List.map_cons,List.map_nil,List.mem_singleton]
    constructor
    ·rintro (h | h)
     ·exact h
     ·exact absurd h.symm e
    ·exact fun h=>.inl h
   simp only [this]
 ·rw [if_neg (by have:=qK p hj;omega),List.getElem?_eq_none (by rw [UY];exact q),List.getElem?_eq_none (by rw [UY];exact q)]
theorem Ze7 {ms:List Mb} {tot:Int} {s:Nat→Nat} {j:Nat} (p:PRm 0 ms.length (fun i=>i) s) (hj:j < ms.length):((shJ ms tot s j).getD (s j) Qt.z).a=tot * (ms.getD (s j) Mb.z).b / ZW ms:=by
 rw [Zc3 (qK p hj)]
 have:s j ∉ (List.range j).map s:=by
  intro h
  obtain ⟨i,hi,e⟩:=List.mem_map.1 h
  have hi:=List.mem_range.1 hi
  have:=Zck p (i:=i) (j:=j) (by omega) hj e
  omega
 simp only [if_neg this]
 omega
theorem ja {l:List Qt} {i:Nat} {v:Int} (h:i < l.length):(qtc l).set (0+i * 3+2) (iv v)=qtc (l.set i ⟨(l.getD i Qt.z).g,(l.getD i Qt.z).b,v⟩):=
 j5 (f:=Qt.f) (fun _ _=>rfl) (VP h) (by decide) rfl
def Uf (ms:List Mb) (tot:Int):Int:=tot - Y5 (shP ms tot)
def bI (ms:List Mb) (x:Int):Int:=(ms.getD x.toNat Mb.z).b
theorem K3 {ms:List Mb} {F:Mb→Int}:∀ n,n≤ms.length→YQ (fun x=>F (ms.getD x.toNat Mb.z)) (idx n)=YQ (fun x=>x) ((ms.take n).map F)
 | 0,_=>rfl
 | n+1,h=>by
  rw [Zf2,VL,K3 n (by omega),Y4 (z:=Mb.z) (by omega),List.map_append,VL]
  simp [YQ]
theorem ZeM {ms:List Mb}:YQ (bI ms) (idx ms.length)=ZW ms:=by
 have:=K3 (ms:=ms) (F:=fun m=>m.b) ms.length (Nat.le_refl _)
 rw [List.take_length] at this
 exact this
theorem Zde {ms:List Mb} {tot:Int}:Zbl tot (ZW ms) (bI ms) (idx ms.length)=Uf ms tot:=by
 have:=K3 (ms:=ms) (F:=fun m=>tot * m.b / ZW ms) ms.length (Nat.le_refl _)
 rw [List.take_length] at this
 unfold Zbl Uf Y5 shP
 rw [List.map_map]
 show tot - YQ (fun x=>tot * (ms.getD x.toNat Mb.z).b / ZW ms) _=_
 rw [this]
 rfl
theorem zf {ms:List Mb} {tot:Int} (ha:0 < ZW ms):0≤Uf ms tot∧Uf ms tot≤ms.length:=by
 have h0:0 < (idx ms.length).length:=by
  rw [qu]
  rcases Nat.eq_zero_or_pos ms.length with e | e
  ·exfalso
   have:ms=[]:=List.eq_nil_of_length_eq_zero e
   subst this
   exact absurd ha (by decide)
  ·exact e
 have:=ZeT (total:=tot) (b:=bI ms) ha ZeM
 rw [Zde,Zaj] at this
 have h2:=List.length_filter_le (fun g=>decide (0 < cut tot (ZW ms) (bI ms g))) (idx ms.length)
 rw [qu] at h2
 omega
theorem Jh:∀ {l:List Int},(∀ a∈l,0≤a)→0≤YQ (fun x=>x) l
 | [],_=>Int.le_refl _
 | y :: l,h=>by
  have h0:=h y List.mem_cons_self
  have:=Jh (l:=l) fun a ha=>h a (List.mem_cons_of_mem _ ha)
  simp only [YQ];omega
theorem J8:∀ {l:List Int},(∀ a∈l,0≤a)→∀ x∈l,x≤YQ (fun x=>x) l
 | y :: l,h,x,hx=>by
  have h0:=h y List.mem_cons_self
  have hr:0≤YQ (fun x=>x) l:=by
   exact Jh (fun a ha=>h a (List.mem_cons_of_mem _ ha))
  simp only [YQ]
  rcases List.mem_cons.1 hx with e | e
  ·omega
  ·have:=J8 (fun a ha=>h a (List.mem_cons_of_mem _ ha)) x e;omega
theorem Zbm {ms:List Mb} {tot:Int} (hm:∀ m∈ms,okM m) (ht0:0≤tot) (ht1:tot≤1048576) (ha:0 < ZW ms):∀ q∈shP ms tot,okQ q:=by
 intro q hq
 obtain ⟨m,hmm,e⟩:=List.mem_map.1 hq
 have k:=hm m hmm
 have hb:m.b≤ZW ms:=by
  have:=J8 (l:=ms.map (·.b)) (fun a ha=>(Zcq hm a ha).1) m.b (List.mem_map.2 ⟨m,hmm,rfl⟩)
  exact this
 rw [← e]
 have h1:0≤tot * m.b:=Int.mul_nonneg ht0 k.2.2.1
 have h2:tot * m.b≤tot * ZW ms:=Int.mul_le_mul_of_nonneg_left hb ht0
 constructor
 ·exact Int.ediv_nonneg h1 (by omega)
 ·have:tot * m.b / ZW ms≤tot:=Int.ediv_le_of_le_mul ha h2
  show tot * m.b / ZW ms≤2199023255552
  omega
section
variable {kn:Kn} {lo:Nat} {H:Hp}
set_option maxRecDepth 100000 in
set_option maxHeartbeats 1000000 in
theorem jY {ms:List Mb} {sa:Option Addr} {n cap:Nat} (hs:Sl H sa n cap (mbc ms)) (hl:ms.length=n) (hn:n≤400) (hlo:lo≤H.next) (hm:∀ m∈ms,okM m) (hn160:n≤160) (h0:0 < n) {tot:Int} (ht0:0≤tot) (ht1:tot≤1048576) (ha0:0 < ZW ms) (ha1:ZW ms≤439804651110400):∃ (s:Nat→Nat) (qb:Nat) (H':Hp),FnX Try.prog kn lo 32 [.slice sa n cap,iv tot] H (.slice (some ⟨qb,0,none⟩) n n) H'∧PRm 0 n (fun i=>i) s∧So (fun x=>-(tot * (ms.getD x Mb.z).b % ZW ms)) 0 n s∧H.next≤qb∧Cl H' qb (qtc (shJ ms tot s (Uf ms tot).toNat))∧Keep H H' []:=by
 have key:=Zp (kn:=kn) (lo:=lo) (H:=H) (args:=[.slice sa n cap,iv tot]) (Q:=fun w H'=>∃ (s:Nat→Nat) (qb:Nat),w=.slice (some ⟨qb,0,none⟩) n n∧PRm 0 n (fun i=>i) s∧So (fun x=>-(tot * (ms.getD x Mb.z).b % ZW ms)) 0 n s∧H.next≤qb∧Cl H' qb (qtc (shJ ms tot s (Uf ms tot).toNat))∧Keep H H' []) Try.func32 B32 N32 Z32 L32 (by simp) ?_
 ·obtain ⟨w,H',h,s,qb,rfl,r⟩:=key;exact ⟨s,qb,H',h,r⟩
 have hk:=Keep.refl H []
 have fs:=hs.old
 refine Zc<|Za rfl<|Zb<|Zc<|Za rfl ?_
 obtain ⟨H1,fH1,kH1⟩:=JR (kn:=kn) (lo:=lo) (H:=H) hs hl hn (by omega) hm
 refine Zu (vs:=[.slice sa n cap]) rfl (Zh fH1) ?_
 have mH1:=kH1.1
 have hk:=hk.trans kH1
 have hs:=kH1.sl0 hs
 refine Za rfl<|Zb<|Zc<|Za rfl<|Zb<|Zc<|Za rfl<|Z6 (m:=n) rfl<|Za rfl<|Zb ?_
 refine Zt (fn:=Try.f32) ZhS N32 Zh4 (fun z:Nat × Value=>[(0,.slice sa n cap),(1,iv tot),(5,iv (ZW ms)),(6,z.2),(13,.slice sa n cap),(14,iv (n:Int)),(15,iv (z.1:Int))])
  (fun k z H'=>z.1+k=n∧Keep H H' []∧H1.next≤H'.next∧Sl H' sa n cap (mbc ms)∧Acc lo H1.next 44 H' z.2 ((ms.take z.1).map (shQ ms tot)).length (qtc ((ms.take z.1).map (shQ ms tot)))) n (0,.slice none 0 0) ⟨by simp,hk,Nat.le_refl _,hs,.inl ⟨rfl,rfl,rfl⟩⟩ ⟨rfl,rfl,rfl,rfl,rfl,rfl,rfl,trivial⟩ ?_
 rintro k ⟨i,wv⟩ L1 ⟨hik,hk,hnx,hs,hacc⟩
 simp only [] at hik hacc
 have mk:=hk.1;have kacc:=Keep.refl L1 [];have hql:((ms.take i).map (shQ ms tot)).length=i:=by rw [List.length_map,List.length_take];omega
 refine Zc<|ZC (a:=(i:Int)) (b:=(n:Int)) rfl rfl<|Zb ?_
 refine And.intro (fun q1=>?_) (fun q1=>?_)
 ·have q1:(i:Int) < (n:Int):=of_decide_eq_true q1
  have hi:i < n:=by omega
  rcases id hs with ⟨_,h0s,_⟩ | ⟨sb,es,rs,_⟩
  ·omega
  have ls:=rs.1
  have lsb2:=fs sb es
  have hmi:=Y9 (z:=Mb.z) hm (show i < ms.length by omega);obtain ⟨hm1,hm2,hm3,hm4⟩:=hmi;have hmul:=jb ht0 ht1 hm3 hm4
  first | refine Zi ?_ | skip
  refine Zc<|YZ (b:=sb) (o:=0) (k:=i) (j:=(i:Int)) (by rw [← es];rfl) rfl rfl hi<|Y2 (b:=sb) (o:=0+i * 2) rfl rs (Q7 (by omega))<|WN ?_
  intro H2 kH2 nH2 c2
  have c2:Cl H2 L1.next [iv 0,iv 0]:=c2
  have mH2:=kH2.1
  have hk:=hk.trans kH2
  have hs:=kH2.sl0 hs
  have kacc:=kacc.trans kH2
  have rs:=kH2.rd rs (by simp)
  refine W9 (b:=L1.next) (o:=0) rfl rfl c2 (by omega) rfl rfl (by simp) ?_
  intro H3 kH3 nH3 sH3
  have mH3:=kH3.1
  have hk:=hk.new kH3 (fun b hb=>by simp at hb ⊢;omega)
  have hs:=kH3.sl hs (fun b e=>by have:=fs b e;first | (simp;done) | (simp;omega))
  have kacc:=kacc.new kH3 (fun b hb=>by simp at hb ⊢;omega)
  have rs:=kH3.rd rs (by first | (simp;done) | (simp;omega))
  have c2:Cl H3 L1.next [iv ((ms.getD i Mb.z).g),iv ((ms.getD i Mb.z).b)]:=sH3
  refine Zb ?_
  first | refine Ye ?_ | refine Wu ?_ | refine Vw ?_ | (refine YY ?_;refine Ye ?_)
  refine Ze rfl<|ZS (b:=L1.next) (o:=0) rfl<|ZM (b:=L1.next) (o:=0) (v:=iv ((ms.getD i Mb.z).g)) rfl c2.rd rfl<|ZS (b:=L1.next) (o:=0) rfl<|ZM (b:=L1.next) (o:=1) (v:=iv ((ms.getD i Mb.z).b)) rfl c2.rd rfl<|Ze rfl<|ZS (b:=L1.next) (o:=0) rfl<|ZM (b:=L1.next) (o:=1) (v:=iv ((ms.getD i Mb.z).b)) rfl c2.rd rfl<|Zdo (a:=tot) (b:=(ms.getD i Mb.z).b) rfl rfl ⟨by omega,by omega⟩<|Ze rfl<|Zg6 (a:=tot * ((ms.getD i Mb.z).b)) (b:=(ZW ms)) rfl rfl (by omega) (by omega) ⟨by omega,by omega⟩<|Yl (v:=.agg #[iv ((ms.getD i Mb.z).g),iv ((ms.getD i Mb.z).b),iv ((tot * ((ms.getD i Mb.z).b)) / (ZW ms))]) rfl (by kernel_rfl) ?_
  obtain ⟨H4,hH4⟩:∃ H4,H3.new (.cells [iv ((ms.getD i Mb.z).g),iv ((ms.getD i Mb.z).b),iv ((tot * ((ms.getD i Mb.z).b)) / (ZW ms))] 44 false)=H4:=⟨_,rfl⟩
  refine Wg (H':=H4) (k:=.heavy) rfl (by kernel_rfl) ((YU (v:=.agg #[iv ((ms.getD i Mb.z).g),iv ((ms.getD i Mb.z).b),iv ((tot * ((ms.getD i Mb.z).b)) / (ZW ms))]) Zcw Zhs rfl rfl rfl (by decide)).trans (by rw [← hH4];rfl)) (fun b e=>by cases e) ?_
  obtain ⟨kH4,nH4,c4⟩:=ZD hH4;clear hH4
  have c4:Cl H4 H3.next [iv ((ms.getD i Mb.z).g),iv ((ms.getD i Mb.z).b),iv ((tot * ((ms.getD i Mb.z).b)) / (ZW ms))]:=c4
  have mH4:=kH4.1
  have hk:=hk.trans kH4
  have hs:=kH4.sl0 hs
  have kacc:=kacc.trans kH4
  have rs:=kH4.rd rs (by simp)
  have c2:=kH4.cl c2 (by simp)
  obtain ⟨H5,kdH5,eH5,dH5,aH5,kbH5⟩:=Yw (P:=Try.prog) (lo:=lo) (k:=((ms.take i).map (shQ ms tot)).length) (t1:=27) Zcw Zhu (c4.sl (Nat.le_refl 1)) rfl (by decide) rfl (by rw [U5]) (by omega) (hacc.keep kacc) (by omega) (by omega)
  refine Wg (k:=kdH5) rfl (by cases wv<;>kernel_rfl) (eH5 _ _ _ _ _ _ _ rfl rfl) (Qx dH5 _) ?_
  have hk:=kbH5.keep hk (by omega)
  have hs:=kbH5.sl hs (fun b e=>by have:=fs b e;omega)
  have mH5:=kbH5.1
  refine Ze rfl ?_
  refine ZH (by rcases dH5 with rfl | ⟨bH5,rfl,hbH5⟩<;>repeat' first | exact True.intro | exact (fun h=>h) | refine And.intro ?_ ?_ | (intro h;have h:(_:Nat)=_:=h;omega)) ?_
  show Zl _ _ _ _ _ _ _ _
  refine Zs (a:=(i:Int)) (b:=1) rfl rfl ⟨by omega,by omega⟩<|Za rfl<|Zb ?_
  have hU:ms.take (i+1)=ms.take i ++ [(ms.getD i Mb.z)]:=Y4 (by omega)
  have hacc2:Acc lo H1.next 44 H5 (.slice (some ⟨H4.next,0,none⟩) (((ms.take i).map (shQ ms tot)).length+1) (((ms.take i).map (shQ ms tot)).length+1)) ((ms.take (i+1)).map (shQ ms tot)).length (qtc ((ms.take (i+1)).map (shQ ms tot))):=by unfold qtc at *;rw [hU,List.map_append,List.flatMap_append,List.length_append];exact aH5
  exact ⟨k - 1,(i+1,_),by omega,⟨by simp only [];omega,hk,by omega,hs,hacc2⟩,rfl,rfl,rfl,rfl,rfl,rfl,rfl,trivial⟩
 ·have q1:¬ ((i:Int) < (n:Int)):=of_decide_eq_false q1
  have ein:i=n:=by omega
  rw [ein,← hl,List.take_length] at hacc
  have hshl:(ms.map (shQ ms tot)).length=n:=by rw [List.length_map,hl]
  rw [hshl] at hacc
  rcases hacc with ⟨q0,_⟩ | ⟨qb,rfl,q0,q1,q2,q3,q4⟩
  ·exfalso;omega
  have hq:Cl L1 qb (qtc (shJ ms tot (fun i=>i) 0)):=⟨q3,44,true,by rw [Zga];exact q4⟩
  have hq:Cl L1 qb (qtc (shP ms tot)):=⟨q3,44,true,q4⟩
  first | (refine Zz ?_;show wC _ _ _ _ _ _ _ _ _) | skip
  refine Zc<|Za rfl<|Za rfl ?_
  obtain ⟨s,ib,H6,fH6,hp,hso,hib1,hib2,hib3,hib4,kH6⟩:=Zfm (kn:=kn) (lo:=lo) (H:=L1) hs hl hn (by omega) hm hn160 h0 ht0 ht1 ha0 ha1
  refine Zu (vs:=[.slice sa n cap,iv tot]) rfl (Zh fH6) ?_
  have mH6:=kH6.1
  have hk:=hk.trans kH6
  have hs:=kH6.sl0 hs
  have hq:=kH6.cl hq (by simp)
  have hib:Acc lo 0 3 H6 (.slice (some ⟨ib,0,none⟩) n n) n (cI (J4 n s)):=.inr ⟨ib,rfl,h0,by omega,hib2,hib3,hib4⟩
  refine Za rfl<|Za rfl ?_
  have hqs:Sl H6 (some ⟨qb,0,none⟩) n n (qtc (shP ms tot)):=.inr ⟨qb,rfl,hq.rd,Nat.le_refl _⟩
  obtain ⟨H7,fH7,kH7⟩:=Kf (kn:=kn) (lo:=lo) (H:=H6) hqs (by unfold shP;exact hshl) hn (by omega) (Zbm hm ht0 ht1 ha0)
  refine Zu (vs:=[.slice (some ⟨qb,0,none⟩) n n]) rfl (Zh fH7) ?_
  have mH7:=kH7.1
  have hk:=hk.trans kH7
  have hs:=kH7.sl0 hs
  have hq:=kH7.cl hq (by simp)
  have hib:=hib.keep kH7
  have hmk:=zf (tot:=tot) ha0;have hmd:Uf ms tot=tot - Y5 (shP ms tot):=rfl;have haa:0≤Y5 (shP ms tot):=Jh fun a ha=>(qf (Zbm hm ht0 ht1 ha0) a ha).1
  refine Z4 (a:=tot) (b:=(Y5 (shP ms tot))) rfl rfl ⟨by omega,by omega⟩ ?_
  obtain ⟨K,eK⟩:∃ K:Nat,K=(Uf ms tot).toNat:=⟨_,rfl⟩
  have hK:tot - Y5 (shP ms tot)=(K:Int):=by omega
  rw [hK]
  obtain ⟨tv,kdt,et,dt,_,ta,htv,hts,hta⟩:=Q9 (lo:=lo) (k:=K) hib (by rw [ZaI]) (by omega)
  have hta:=hta h0;cases hta;subst htv
  refine Yy (v:=.slice (some ⟨ib,0,none⟩) K n) (H':=H7) (k:=kdt) rfl rfl (et _ _ _ _ _ _ _ rfl rfl) (by rcases dt with rfl | ⟨bR,rfl,hbR⟩;exact (fun b e=>by cases e);exact (fun b e=>by cases e;exact hbR)) ?_
  have hri:Rd H7 ib (cI (J4 n s)):=by rcases hib with ⟨z,_⟩ | ⟨z,ez,_,_,_,z1,z2⟩;omega;cases ez;exact ⟨z1,by unfold cellsOf;rw [z2]⟩
  refine Z6 (m:=K) rfl<|Za rfl<|Zb ?_
  have hq:Cl H7 qb (qtc (shJ ms tot s 0)):=by rw [Zga];exact hq
  refine Zt (fn:=Try.f32) ZjR N32 ZiO (fun j:Nat=>[(6,.slice (some ⟨qb,0,none⟩) n n),(41,.slice (some ⟨ib,0,none⟩) K n),(42,iv (K:Int)),(43,iv (j:Int))])
   (fun k j H'=>j+k=K∧Keep H H' []∧H7.next≤H'.next∧Rd H' ib (cI (J4 n s))∧Cl H' qb (qtc (shJ ms tot s j))) K 0 ⟨by omega,hk,Nat.le_refl _,hri,hq⟩ ⟨rfl,rfl,rfl,rfl,trivial⟩ ?_
  rintro k j L2 ⟨hjk,hk,hnx2,hri,hq⟩
  have mk:=hk.1
  refine Zc<|ZC (a:=(j:Int)) (b:=(K:Int)) rfl rfl<|Zb ?_
  refine And.intro (fun q2=>?_) (fun q2=>?_)
  ·have q2:(j:Int) < (K:Int):=of_decide_eq_true q2
   have hjn:j < n:=by omega
   have hsj:=qK hp hjn;have hij:=ZfU (s:=s) hjn
   have hpl:PRm 0 ms.length (fun i=>i) s:=hl.symm ▸ hp
   have hnot:=Ze7 (tot:=tot) hpl (by omega:j < ms.length)
   have hmi:=Y9 (z:=Mb.z) hm (show s j < ms.length by omega);obtain ⟨hm1,hm2,hm3,hm4⟩:=hmi;have hmul:=jb ht0 ht1 hm3 hm4;have hqd:=Int.ediv_nonneg hmul.1 (show 0≤ZW ms by omega);have hqe:=Int.ediv_le_self (ZW ms) hmul.1
   first | refine Zi ?_ | skip
   refine Zc<|YZ (b:=ib) (o:=0) (k:=j) (j:=(j:Int)) rfl rfl rfl (by omega)<|ZZ (b:=ib) (o:=0+j * 1) (v:=iv (s j:Int)) rfl hri (by rw [← hij];exact UB (by rw [ZaI];omega))<|Za rfl<|Zb ?_
   show Zl _ _ _ _ _ _ _ _
   refine Za rfl<|Za rfl<|YZ (b:=qb) (o:=0) (k:=s j) (j:=(s j:Int)) rfl rfl rfl (by omega)<|ZB (b:=qb) (o:=0+(s j) * 3) rfl<|ZZ (b:=qb) (o:=0+(s j) * 3+2) (v:=iv (((shJ ms tot s j).getD (s j) Qt.z).a)) rfl hq.rd (VY (l:=shJ ms tot s j) (i:=(s j)) (j:=2) (by rw [UY];omega) rfl)<|Zs (a:=((shJ ms tot s j).getD (s j) Qt.z).a) (b:=1) rfl rfl ⟨by omega,by omega⟩<|YZ (b:=qb) (o:=0) (k:=s j) (j:=(s j:Int)) rfl rfl rfl (by omega)<|ZB (b:=qb) (o:=0+(s j) * 3) rfl<|K5 (b:=qb) (o:=0+s j * 3+2) rfl rfl hq (by omega) rfl rfl (by rw [U5,UY];omega) ?_
   intro H8 kH8 nH8 sH8
   have mH8:=kH8.1
   have hq:Cl H8 qb (qtc (shJ ms tot s (j+1))):=by rw [← ZjD hpl (by omega:j < ms.length)];rw [ja (by rw [UY];omega),hnot,Zc3 (by omega)] at sH8;exact sH8
   have hk:=hk.new kH8 (fun b hb=>.inr (by simp at hb;omega))
   have hri:=kH8.rd hri (by simp;omega)
   refine Zb ?_
   show Zl _ _ _ _ _ _ _ _
   refine Zs (a:=(j:Int)) (b:=1) rfl rfl ⟨by omega,by omega⟩<|Za rfl<|Zb ?_
   exact ⟨k - 1,j+1,by omega,⟨by omega,hk,by omega,hri,hq⟩,rfl,rfl,rfl,rfl,trivial⟩
  ·have q2:¬ ((j:Int) < (K:Int)):=of_decide_eq_false q2
   first | (refine Zz ?_;show wC _ _ _ _ _ _ _ _ _) | skip
   refine Zc<|Za rfl<|Za rfl<|Zb ?_
   have ejK:j=K:=by omega
   rw [ejK,eK] at hq
   exact And.intro trivial (Exists.intro _ (And.intro rfl ⟨s,qb,rfl,hp,hso,by omega,hq,hk⟩))
end
end
end Go.Ax


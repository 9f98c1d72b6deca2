import Derived.Test.YtlgfejokafimaaaMd
set_option linter.all false
/-
 Pool: what is valid: products,beds,stands,jobs (written by program).
-/
namespace Go.Ax
open Go Go.RowKit Go.Proofs

theorem ZcC {α:Type} {l:List α} {p:α→Bool} {z:α} {i:Nat} (h:i < l.length) (hp:p (l.getD i z)=false):l.all p=false:=by
 rw [List.all_eq_false]
 exact ⟨l.getD i z,by rw [List.getD_eq_getElem?_getD,List.getElem?_eq_getElem h];exact List.getElem_mem h,by rw [hp];simp⟩
theorem ZbE {α:Type} {l:List α} {p:α→Bool} {z:α} (h:∀ i,i < l.length→p (l.getD i z)=true):l.all p=true:=by
 rw [← XE (z:=z),List.all_eq_true]
 exact fun i hi=>h i (List.mem_range.1 hi)
theorem XZ {α:Type} {l:List α} {p:α→Bool} {z:α} {i:Nat} (h:l.all p=true) (hi:i < l.length):p (l.getD i z)=true:=by
 rw [← XE (z:=z),List.all_eq_true] at h
 exact h i (List.mem_range.2 hi)
def YaB (y:Yd):Prop:=y.ps.length≤1000∧y.bs.length≤1000∧y.ss.length≤1000∧y.js.length≤1000∧∀ i,i < y.ps.length→(y.ps.getD i Pd.z).wt.length≤1000
section
variable {kn:Kn} {lo:Nat} {H:Hp}
theorem Zbf {l:List Bd} {sa:Option Addr} {n cap:Nat} (hs:Sl H sa n cap (bdc l)) (hl:l.length=n) (hn:n≤1000000) (hlo:lo≤H.next) {F:FuncId} {gc:Array Value} {bad:Nat→Bool} (hc:∀ i,i < n→∀ H1,Zf H H1 []→∃ H2,ZJ Try.prog kn lo (.fn (.func F) gc) [.agg (Bd.f (l.getD i Bd.z)).toArray] H1 (.bool (bad i)) H2∧Zf H1 H2 []):∃ x H',FnX Try.prog kn lo 105 [.slice sa n cap,.func (.func F) #[] gc] H (iv x) H'∧(decide (x ≥ 0)=true↔∃ i,i < n∧bad i=true)∧Zf H H' []:=by
 have key:=Zt (kn:=kn) (lo:=lo) (H:=H) (args:=[.slice sa n cap,.func (.func F) #[] gc]) (Q:=fun w H'=>∃ x,w=iv x∧(decide (x ≥ 0)=true↔∃ i,i < n∧bad i=true)∧Zf H H' []) Try.func105 Zft ZdI ZeN ZeX (by simp) ?_
 ·obtain ⟨w,H',h,x,rfl,r⟩:=key;exact ⟨x,H',h,r⟩
 have hk:=Zf.refl H []
 refine Ze<|Za rfl<|Zb<|Ze<|Za rfl<|YL (m:=n) rfl<|Za rfl<|Zb ?_
 refine YO (fn:=Try.f105) Zcw ZdI Zdh (fun i:Nat=>[(0,.slice sa n cap),(1,.func (.func F) #[] gc),(7,iv (n:Int)),(8,iv (i:Int))])
  (fun k i H'=>i+k=n∧Zf H H' []∧∀ j,j < i→bad j=false) n 0 ⟨by omega,hk,fun j h=>absurd h (by omega)⟩ ⟨rfl,rfl,rfl,rfl,trivial⟩ ?_
 rintro k i L1 ⟨hik,hk,hall⟩
 have mk:=hk.1
 refine Ze<|YY (a:=(i:Int)) (b:=(n:Int)) rfl rfl<|Zb ?_
 refine And.intro (fun q1=>?_) (fun q1=>?_)
 ·have q1:(i:Int) < (n:Int):=of_decide_eq_true q1
  have hi:i < n:=by omega
  have ss0:=hk.sl0 hs
  rcases id ss0 with ⟨_,h0s,_⟩ | ⟨sb,es,rs,_⟩
  ·omega
  have ls:=rs.1
  have fs:=hs.old
  first | refine ZK ?_ | skip
  refine Ze<|Za rfl<|Za rfl<|Zb<|Ze<|Za rfl<|Za rfl<|Za rfl<|XH (b:=sb) (o:=0) (k:=i) (j:=(i:Int)) (by rw [← es];rfl) rfl rfl hi<|Z3 (b:=sb) (o:=0+i * 4) rfl rs (Up (by omega)) ?_
  obtain ⟨H1,fH1,kH1⟩:=hc i hi L1 hk
  have mH1:=kH1.1
  have hk:=hk.trans kH1
  have rs:=kH1.rd rs (by simp)
  cases hb:bad i
  ·rw [hb] at fH1
   refine Zq (v:=.bool false) (vs:=[.agg (Bd.f (l.getD i Bd.z)).toArray]) rfl fH1<|Zb<|YI ?_
   first | refine ZK ?_ | skip
   show Zw _ _ _ _ _ _ _ _
   refine Yw (a:=(i:Int)) (b:=1) rfl rfl ⟨by omega,by omega⟩<|Za rfl<|Zb ?_
   exact ⟨k - 1,i+1,by omega,⟨by omega,hk,fun j hj=>by rcases Nat.lt_or_ge j i with c | c;exact hall j c;rw [show j=i by omega];exact hb⟩,rfl,rfl,rfl,rfl,trivial⟩
  ·rw [hb] at fH1
   refine Zq (v:=.bool true) (vs:=[.agg (Bd.f (l.getD i Bd.z)).toArray]) rfl fH1<|Zb<|YN<|Ze<|Za rfl<|Za rfl<|Zb ?_
   exact And.intro trivial (Exists.intro _ (And.intro rfl ⟨(i:Int),rfl,⟨fun _=>⟨i,hi,hb⟩,fun _=>decide_eq_true (by omega)⟩,hk⟩))
 ·have q1:¬ ((i:Int) < (n:Int)):=of_decide_eq_false q1
  refine Ze<|Za rfl<|Zb ?_
  exact And.intro trivial (Exists.intro _ (And.intro rfl ⟨-1,rfl,⟨fun h=>absurd (of_decide_eq_true h) (by omega),fun ⟨j,hj,q⟩=>by rw [hall j (by omega)] at q;cases q⟩,hk⟩))
theorem Zb2 {l:List Bd} {sa:Option Addr} {n cap:Nat} (hs:Sl H sa n cap (bdc l)) (hl:l.length=n) (hn:n≤1000000) (hlo:lo≤H.next) {F:FuncId} {gc:Array Value} {bad:Nat→Bool} (hc:∀ i,i < n→∀ H1,Zf H H1 []→∃ H2,ZJ Try.prog kn lo (.fn (.func F) gc) [.agg (Bd.f (l.getD i Bd.z)).toArray] H1 (.bool (bad i)) H2∧Zf H1 H2 []):∃ b H',FnX Try.prog kn lo 92 [.slice sa n cap,.func (.func F) #[] gc] H (.bool b) H'∧(b=true↔∃ i,i < n∧bad i=true)∧Zf H H' []:=by
 have key:=Zt (kn:=kn) (lo:=lo) (H:=H) (args:=[.slice sa n cap,.func (.func F) #[] gc]) (Q:=fun w H'=>∃ b,w=.bool b∧(b=true↔∃ i,i < n∧bad i=true)∧Zf H H' []) Try.func92 B92 N92 Z92 L92 (by simp) ?_
 ·obtain ⟨w,H',h,x,rfl,r⟩:=key;exact ⟨x,H',h,r⟩
 have hk:=Zf.refl H []
 refine Ze<|Za rfl<|Zb<|Ze<|Za rfl<|Za rfl ?_
 obtain ⟨x,H1,fH1,hx,kH1⟩:=Zbf (kn:=kn) (lo:=lo) (H:=H) hs hl hn (by omega) (bad:=bad) hc
 refine Zq (vs:=[.slice sa n cap,.func (.func F) #[] gc]) rfl (Zk fH1) ?_
 have mH1:=kH1.1
 have hk:=hk.trans kH1
 refine WO (a:=x) (b:=0) rfl rfl<|Za rfl<|Zb ?_
 exact And.intro trivial (Exists.intro _ (And.intro rfl ⟨_,rfl,hx,hk⟩))
theorem ZbF {e:Bd} {G:FuncId} {gc:Array Value} {cc:Nat} {b:Bool} (r1:Rd H cc [.func (.func G) #[] gc]) (hg:∀ H1,Zf H H1 []→∃ H2,ZJ Try.prog kn lo (.fn (.func G) gc) [.agg (Bd.f e).toArray] H1 (.bool b) H2∧Zf H1 H2 []):∃ H',FnX Try.prog kn lo 93 [.agg (Bd.f e).toArray,.pointer (some ⟨cc,0,none⟩)] H (.bool (!b)) H'∧Zf H H' []:=by
 have key:=Zt (kn:=kn) (lo:=lo) (H:=H) (args:=[.agg (Bd.f e).toArray,.pointer (some ⟨cc,0,none⟩)]) (Q:=fun w H'=>w=.bool (!b)∧Zf H H' []) Try.func93 B93 N93 Z93 L93 (by simp) ?_
 ·obtain ⟨w,H',h,rfl,q⟩:=key;exact ⟨H',h,q⟩
 have hk:=Zf.refl H []
 refine Ze<|Ye (v:=.agg (Bd.f e).toArray) rfl ?_
 intro H1 kH1 nH1 c1
 have c1:Cl H1 H.next [iv e.x,iv e.y,iv e.h,iv e.m]:=c1
 have mH1:=kH1.1
 have hk:=hk.trans kH1
 have r1:=kH1.rd r1 (by simp)
 refine Za rfl<|Zb<|Ze<|ZD (b:=cc) (o:=0) (v:=.func (.func G) #[] gc) rfl r1 rfl<|Z3 (b:=H.next) (o:=0) rfl c1.rd (show row 4 _ _=some [iv e.x,iv e.y,iv e.h,iv e.m] from rfl) ?_
 obtain ⟨H2,fH2,kH2⟩:=hg H1 hk
 refine Zq (v:=.bool b) (vs:=[.agg (Bd.f e).toArray]) rfl fH2 ?_
 have mH2:=kH2.1
 have hk:=hk.trans kH2
 have r1:=kH2.rd r1 (by simp)
 have c1:=kH2.cl c1 (by simp)
 refine Zg (v:=.bool (!b)) rfl rfl<|Za rfl<|Zb ?_
 exact And.intro trivial (Exists.intro _ (And.intro rfl ⟨rfl,hk⟩))
theorem Za2 {l:List Bd} {sa:Option Addr} {n cap:Nat} (hs:Sl H sa n cap (bdc l)) (hl:l.length=n) (hn:n≤1000000) (hlo:lo≤H.next) {F:FuncId} {gc:Array Value} {ok:Nat→Bool} (hc:∀ i,i < n→∀ H1,Zf H H1 []→∃ H2,ZJ Try.prog kn lo (.fn (.func F) gc) [.agg (Bd.f (l.getD i Bd.z)).toArray] H1 (.bool (ok i)) H2∧Zf H1 H2 []):∃ H',FnX Try.prog kn lo 67 [.slice sa n cap,.func (.func F) #[] gc] H (.bool ((List.range n).all ok)) H'∧Zf H H' []:=by
 have key:=Zt (kn:=kn) (lo:=lo) (H:=H) (args:=[.slice sa n cap,.func (.func F) #[] gc]) (Q:=fun w H'=>w=.bool ((List.range n).all ok)∧Zf H H' []) Try.func67 B67 N67 Z67 L67 (by simp) ?_
 ·obtain ⟨w,H',h,rfl,q⟩:=key;exact ⟨H',h,q⟩
 have hk:=Zf.refl H []
 refine Ze<|Ye (v:=.func (.func F) #[] gc) rfl ?_
 intro H1 kH1 nH1 c1
 have c1:Cl H1 H.next [.func (.func F) #[] gc]:=c1
 have mH1:=kH1.1
 have hk:=hk.trans kH1
 refine Za rfl<|Zb<|Ze<|Za rfl<|Zg (v:=.func (.func 93) #[] #[pt H.next]) rfl (by kernel_rfl) ?_
 obtain ⟨x,H2,fH2,hx,kH2⟩:=Zb2 (kn:=kn) (lo:=lo) (H:=H1) (hk.sl0 hs) hl hn (by omega) (F:=93) (gc:=#[.pointer (some ⟨H.next,0,none⟩)]) (bad:=fun i=>!(ok i)) (fun i hi H9 k9=>by
  obtain ⟨H8,f8,k8⟩:=ZbF (kn:=kn) (lo:=lo) (H:=H9) (e:=l.getD i Bd.z) (b:=ok i) (k9.rd c1.rd (by simp)) (fun H7 k7=>hc i hi H7 (hk.trans (k9.trans k7)))
  exact ⟨H8,ZV rfl (by simpa using f8),k8⟩)
 refine Zq (vs:=[.slice sa n cap,.func (.func 93) #[] #[pt H.next]]) rfl (Zk fH2) ?_
 have mH2:=kH2.1
 have hk:=hk.trans kH2
 have c1:=kH2.cl c1 (by simp)
 refine Zg (v:=.bool (!x)) rfl rfl<|Za rfl<|Zb ?_
 exact And.intro trivial (Exists.intro _ (And.intro rfl ⟨congrArg Value.bool (U4 hx),hk⟩))
theorem Zbe {l:List Sd} {sa:Option Addr} {n cap:Nat} (hs:Sl H sa n cap (sdc l)) (hl:l.length=n) (hn:n≤1000000) (hlo:lo≤H.next) {F:FuncId} {gc:Array Value} {bad:Nat→Bool} (hc:∀ i,i < n→∀ H1,Zf H H1 []→∃ H2,ZJ Try.prog kn lo (.fn (.func F) gc) [.agg (Sd.f (l.getD i Sd.z)).toArray] H1 (.bool (bad i)) H2∧Zf H1 H2 []):∃ x H',FnX Try.prog kn lo 106 [.slice sa n cap,.func (.func F) #[] gc] H (iv x) H'∧(decide (x ≥ 0)=true↔∃ i,i < n∧bad i=true)∧Zf H H' []:=by
 have key:=Zt (kn:=kn) (lo:=lo) (H:=H) (args:=[.slice sa n cap,.func (.func F) #[] gc]) (Q:=fun w H'=>∃ x,w=iv x∧(decide (x ≥ 0)=true↔∃ i,i < n∧bad i=true)∧Zf H H' []) Try.func106 Zfm ZdF Ze5 Zfd (by simp) ?_
 ·obtain ⟨w,H',h,x,rfl,r⟩:=key;exact ⟨x,H',h,r⟩
 have hk:=Zf.refl H []
 refine Ze<|Za rfl<|Zb<|Ze<|Za rfl<|YL (m:=n) rfl<|Za rfl<|Zb ?_
 refine YO (fn:=Try.f106) Zde ZdF ZcQ (fun i:Nat=>[(0,.slice sa n cap),(1,.func (.func F) #[] gc),(7,iv (n:Int)),(8,iv (i:Int))])
  (fun k i H'=>i+k=n∧Zf H H' []∧∀ j,j < i→bad j=false) n 0 ⟨by omega,hk,fun j h=>absurd h (by omega)⟩ ⟨rfl,rfl,rfl,rfl,trivial⟩ ?_
 rintro k i L1 ⟨hik,hk,hall⟩
 have mk:=hk.1
 refine Ze<|YY (a:=(i:Int)) (b:=(n:Int)) rfl rfl<|Zb ?_
 refine And.intro (fun q1=>?_) (fun q1=>?_)
 ·have q1:(i:Int) < (n:Int):=of_decide_eq_true q1
  have hi:i < n:=by omega
  have ss0:=hk.sl0 hs
  rcases id ss0 with ⟨_,h0s,_⟩ | ⟨sb,es,rs,_⟩
  ·omega
  have ls:=rs.1
  have fs:=hs.old
  first | refine ZK ?_ | skip
  refine Ze<|Za rfl<|Za rfl<|Zb<|Ze<|Za rfl<|Za rfl<|Za rfl<|XH (b:=sb) (o:=0) (k:=i) (j:=(i:Int)) (by rw [← es];rfl) rfl rfl hi<|Z3 (b:=sb) (o:=0+i * 4) rfl rs (zs (by omega)) ?_
  obtain ⟨H1,fH1,kH1⟩:=hc i hi L1 hk
  have mH1:=kH1.1
  have hk:=hk.trans kH1
  have rs:=kH1.rd rs (by simp)
  cases hb:bad i
  ·rw [hb] at fH1
   refine Zq (v:=.bool false) (vs:=[.agg (Sd.f (l.getD i Sd.z)).toArray]) rfl fH1<|Zb<|YI ?_
   first | refine ZK ?_ | skip
   show Zw _ _ _ _ _ _ _ _
   refine Yw (a:=(i:Int)) (b:=1) rfl rfl ⟨by omega,by omega⟩<|Za rfl<|Zb ?_
   exact ⟨k - 1,i+1,by omega,⟨by omega,hk,fun j hj=>by rcases Nat.lt_or_ge j i with c | c;exact hall j c;rw [show j=i by omega];exact hb⟩,rfl,rfl,rfl,rfl,trivial⟩
  ·rw [hb] at fH1
   refine Zq (v:=.bool true) (vs:=[.agg (Sd.f (l.getD i Sd.z)).toArray]) rfl fH1<|Zb<|YN<|Ze<|Za rfl<|Za rfl<|Zb ?_
   exact And.intro trivial (Exists.intro _ (And.intro rfl ⟨(i:Int),rfl,⟨fun _=>⟨i,hi,hb⟩,fun _=>decide_eq_true (by omega)⟩,hk⟩))
 ·have q1:¬ ((i:Int) < (n:Int)):=of_decide_eq_false q1
  refine Ze<|Za rfl<|Zb ?_
  exact And.intro trivial (Exists.intro _ (And.intro rfl ⟨-1,rfl,⟨fun h=>absurd (of_decide_eq_true h) (by omega),fun ⟨j,hj,q⟩=>by rw [hall j (by omega)] at q;cases q⟩,hk⟩))
theorem ZbP {l:List Sd} {sa:Option Addr} {n cap:Nat} (hs:Sl H sa n cap (sdc l)) (hl:l.length=n) (hn:n≤1000000) (hlo:lo≤H.next) {F:FuncId} {gc:Array Value} {bad:Nat→Bool} (hc:∀ i,i < n→∀ H1,Zf H H1 []→∃ H2,ZJ Try.prog kn lo (.fn (.func F) gc) [.agg (Sd.f (l.getD i Sd.z)).toArray] H1 (.bool (bad i)) H2∧Zf H1 H2 []):∃ b H',FnX Try.prog kn lo 94 [.slice sa n cap,.func (.func F) #[] gc] H (.bool b) H'∧(b=true↔∃ i,i < n∧bad i=true)∧Zf H H' []:=by
 have key:=Zt (kn:=kn) (lo:=lo) (H:=H) (args:=[.slice sa n cap,.func (.func F) #[] gc]) (Q:=fun w H'=>∃ b,w=.bool b∧(b=true↔∃ i,i < n∧bad i=true)∧Zf H H' []) Try.func94 B94 N94 Z94 L94 (by simp) ?_
 ·obtain ⟨w,H',h,x,rfl,r⟩:=key;exact ⟨x,H',h,r⟩
 have hk:=Zf.refl H []
 refine Ze<|Za rfl<|Zb<|Ze<|Za rfl<|Za rfl ?_
 obtain ⟨x,H1,fH1,hx,kH1⟩:=Zbe (kn:=kn) (lo:=lo) (H:=H) hs hl hn (by omega) (bad:=bad) hc
 refine Zq (vs:=[.slice sa n cap,.func (.func F) #[] gc]) rfl (Zk fH1) ?_
 have mH1:=kH1.1
 have hk:=hk.trans kH1
 refine WO (a:=x) (b:=0) rfl rfl<|Za rfl<|Zb ?_
 exact And.intro trivial (Exists.intro _ (And.intro rfl ⟨_,rfl,hx,hk⟩))
theorem ZbV {e:Sd} {G:FuncId} {gc:Array Value} {cc:Nat} {b:Bool} (r1:Rd H cc [.func (.func G) #[] gc]) (hg:∀ H1,Zf H H1 []→∃ H2,ZJ Try.prog kn lo (.fn (.func G) gc) [.agg (Sd.f e).toArray] H1 (.bool b) H2∧Zf H1 H2 []):∃ H',FnX Try.prog kn lo 95 [.agg (Sd.f e).toArray,.pointer (some ⟨cc,0,none⟩)] H (.bool (!b)) H'∧Zf H H' []:=by
 have key:=Zt (kn:=kn) (lo:=lo) (H:=H) (args:=[.agg (Sd.f e).toArray,.pointer (some ⟨cc,0,none⟩)]) (Q:=fun w H'=>w=.bool (!b)∧Zf H H' []) Try.func95 B95 N95 Z95 L95 (by simp) ?_
 ·obtain ⟨w,H',h,rfl,q⟩:=key;exact ⟨H',h,q⟩
 have hk:=Zf.refl H []
 refine Ze<|Ye (v:=.agg (Sd.f e).toArray) rfl ?_
 intro H1 kH1 nH1 c1
 have c1:Cl H1 H.next [iv e.x,iv e.y,iv e.u,iv e.t]:=c1
 have mH1:=kH1.1
 have hk:=hk.trans kH1
 have r1:=kH1.rd r1 (by simp)
 refine Za rfl<|Zb<|Ze<|ZD (b:=cc) (o:=0) (v:=.func (.func G) #[] gc) rfl r1 rfl<|Z3 (b:=H.next) (o:=0) rfl c1.rd (show row 4 _ _=some [iv e.x,iv e.y,iv e.u,iv e.t] from rfl) ?_
 obtain ⟨H2,fH2,kH2⟩:=hg H1 hk
 refine Zq (v:=.bool b) (vs:=[.agg (Sd.f e).toArray]) rfl fH2 ?_
 have mH2:=kH2.1
 have hk:=hk.trans kH2
 have r1:=kH2.rd r1 (by simp)
 have c1:=kH2.cl c1 (by simp)
 refine Zg (v:=.bool (!b)) rfl rfl<|Za rfl<|Zb ?_
 exact And.intro trivial (Exists.intro _ (And.intro rfl ⟨rfl,hk⟩))
theorem ZbY {l:List Sd} {sa:Option Addr} {n cap:Nat} (hs:Sl H sa n cap (sdc l)) (hl:l.length=n) (hn:n≤1000000) (hlo:lo≤H.next) {F:FuncId} {gc:Array Value} {ok:Nat→Bool} (hc:∀ i,i < n→∀ H1,Zf H H1 []→∃ H2,ZJ Try.prog kn lo (.fn (.func F) gc) [.agg (Sd.f (l.getD i Sd.z)).toArray] H1 (.bool (ok i)) H2∧Zf H1 H2 []):∃ H',FnX Try.prog kn lo 69 [.slice sa n cap,.func (.func F) #[] gc] H (.bool ((List.range n).all ok)) H'∧Zf H H' []:=by
 have key:=Zt (kn:=kn) (lo:=lo) (H:=H) (args:=[.slice sa n cap,.func (.func F) #[] gc]) (Q:=fun w H'=>w=.bool ((List.range n).all ok)∧Zf H H' []) Try.func69 B69 N69 Z69 L69 (by simp) ?_
 ·obtain ⟨w,H',h,rfl,q⟩:=key;exact ⟨H',h,q⟩
 have hk:=Zf.refl H []
 refine Ze<|Ye (v:=.func (.func F) #[] gc) rfl ?_
 intro H1 kH1 nH1 c1
 have c1:Cl H1 H.next [.func (.func F) #[] gc]:=c1
 have mH1:=kH1.1
 have hk:=hk.trans kH1
 refine Za rfl<|Zb<|Ze<|Za rfl<|Zg (v:=.func (.func 95) #[] #[pt H.next]) rfl (by kernel_rfl) ?_
 obtain ⟨x,H2,fH2,hx,kH2⟩:=ZbP (kn:=kn) (lo:=lo) (H:=H1) (hk.sl0 hs) hl hn (by omega) (F:=95) (gc:=#[.pointer (some ⟨H.next,0,none⟩)]) (bad:=fun i=>!(ok i)) (fun i hi H9 k9=>by
  obtain ⟨H8,f8,k8⟩:=ZbV (kn:=kn) (lo:=lo) (H:=H9) (e:=l.getD i Sd.z) (b:=ok i) (k9.rd c1.rd (by simp)) (fun H7 k7=>hc i hi H7 (hk.trans (k9.trans k7)))
  exact ⟨H8,ZV rfl (by simpa using f8),k8⟩)
 refine Zq (vs:=[.slice sa n cap,.func (.func 95) #[] #[pt H.next]]) rfl (Zk fH2) ?_
 have mH2:=kH2.1
 have hk:=hk.trans kH2
 have c1:=kH2.cl c1 (by simp)
 refine Zg (v:=.bool (!x)) rfl rfl<|Za rfl<|Zb ?_
 exact And.intro trivial (Exists.intro _ (And.intro rfl ⟨congrArg Value.bool (U4 hx),hk⟩))
theorem ZbG {l:List Jb} {sa:Option Addr} {n cap:Nat} (hs:Sl H sa n cap (jbc l)) (hl:l.length=n) (hn:n≤1000000) (hlo:lo≤H.next) {F:FuncId} {gc:Array Value} {bad:Nat→Bool} (hc:∀ i,i < n→∀ H1,Zf H H1 []→∃ H2,ZJ Try.prog kn lo (.fn (.func F) gc) [.agg (Jb.f (l.getD i Jb.z)).toArray] H1 (.bool (bad i)) H2∧Zf H1 H2 []):∃ x H',FnX Try.prog kn lo 107 [.slice sa n cap,.func (.func F) #[] gc] H (iv x) H'∧(decide (x ≥ 0)=true↔∃ i,i < n∧bad i=true)∧Zf H H' []:=by
 have key:=Zt (kn:=kn) (lo:=lo) (H:=H) (args:=[.slice sa n cap,.func (.func F) #[] gc]) (Q:=fun w H'=>∃ x,w=iv x∧(decide (x ≥ 0)=true↔∃ i,i < n∧bad i=true)∧Zf H H' []) Try.func107 Zfx Zdz Zfe Zfy (by simp) ?_
 ·obtain ⟨w,H',h,x,rfl,r⟩:=key;exact ⟨x,H',h,r⟩
 have hk:=Zf.refl H []
 refine Ze<|Za rfl<|Zb<|Ze<|Za rfl<|YL (m:=n) rfl<|Za rfl<|Zb ?_
 refine YO (fn:=Try.f107) ZcG Zdz Zdp (fun i:Nat=>[(0,.slice sa n cap),(1,.func (.func F) #[] gc),(7,iv (n:Int)),(8,iv (i:Int))])
  (fun k i H'=>i+k=n∧Zf H H' []∧∀ j,j < i→bad j=false) n 0 ⟨by omega,hk,fun j h=>absurd h (by omega)⟩ ⟨rfl,rfl,rfl,rfl,trivial⟩ ?_
 rintro k i L1 ⟨hik,hk,hall⟩
 have mk:=hk.1
 refine Ze<|YY (a:=(i:Int)) (b:=(n:Int)) rfl rfl<|Zb ?_
 refine And.intro (fun q1=>?_) (fun q1=>?_)
 ·have q1:(i:Int) < (n:Int):=of_decide_eq_true q1
  have hi:i < n:=by omega
  have ss0:=hk.sl0 hs
  rcases id ss0 with ⟨_,h0s,_⟩ | ⟨sb,es,rs,_⟩
  ·omega
  have ls:=rs.1
  have fs:=hs.old
  first | refine ZK ?_ | skip
  refine Ze<|Za rfl<|Za rfl<|Zb<|Ze<|Za rfl<|Za rfl<|Za rfl<|XH (b:=sb) (o:=0) (k:=i) (j:=(i:Int)) (by rw [← es];rfl) rfl rfl hi<|Z3 (b:=sb) (o:=0+i * 4) rfl rs (Vo (by omega)) ?_
  obtain ⟨H1,fH1,kH1⟩:=hc i hi L1 hk
  have mH1:=kH1.1
  have hk:=hk.trans kH1
  have rs:=kH1.rd rs (by simp)
  cases hb:bad i
  ·rw [hb] at fH1
   refine Zq (v:=.bool false) (vs:=[.agg (Jb.f (l.getD i Jb.z)).toArray]) rfl fH1<|Zb<|YI ?_
   first | refine ZK ?_ | skip
   show Zw _ _ _ _ _ _ _ _
   refine Yw (a:=(i:Int)) (b:=1) rfl rfl ⟨by omega,by omega⟩<|Za rfl<|Zb ?_
   exact ⟨k - 1,i+1,by omega,⟨by omega,hk,fun j hj=>by rcases Nat.lt_or_ge j i with c | c;exact hall j c;rw [show j=i by omega];exact hb⟩,rfl,rfl,rfl,rfl,trivial⟩
  ·rw [hb] at fH1
   refine Zq (v:=.bool true) (vs:=[.agg (Jb.f (l.getD i Jb.z)).toArray]) rfl fH1<|Zb<|YN<|Ze<|Za rfl<|Za rfl<|Zb ?_
   exact And.intro trivial (Exists.intro _ (And.intro rfl ⟨(i:Int),rfl,⟨fun _=>⟨i,hi,hb⟩,fun _=>decide_eq_true (by omega)⟩,hk⟩))
 ·have q1:¬ ((i:Int) < (n:Int)):=of_decide_eq_false q1
  refine Ze<|Za rfl<|Zb ?_
  exact And.intro trivial (Exists.intro _ (And.intro rfl ⟨-1,rfl,⟨fun h=>absurd (of_decide_eq_true h) (by omega),fun ⟨j,hj,q⟩=>by rw [hall j (by omega)] at q;cases q⟩,hk⟩))
theorem Zca {l:List Jb} {sa:Option Addr} {n cap:Nat} (hs:Sl H sa n cap (jbc l)) (hl:l.length=n) (hn:n≤1000000) (hlo:lo≤H.next) {F:FuncId} {gc:Array Value} {bad:Nat→Bool} (hc:∀ i,i < n→∀ H1,Zf H H1 []→∃ H2,ZJ Try.prog kn lo (.fn (.func F) gc) [.agg (Jb.f (l.getD i Jb.z)).toArray] H1 (.bool (bad i)) H2∧Zf H1 H2 []):∃ b H',FnX Try.prog kn lo 96 [.slice sa n cap,.func (.func F) #[] gc] H (.bool b) H'∧(b=true↔∃ i,i < n∧bad i=true)∧Zf H H' []:=by
 have key:=Zt (kn:=kn) (lo:=lo) (H:=H) (args:=[.slice sa n cap,.func (.func F) #[] gc]) (Q:=fun w H'=>∃ b,w=.bool b∧(b=true↔∃ i,i < n∧bad i=true)∧Zf H H' []) Try.func96 B96 N96 Z96 L96 (by simp) ?_
 ·obtain ⟨w,H',h,x,rfl,r⟩:=key;exact ⟨x,H',h,r⟩
 have hk:=Zf.refl H []
 refine Ze<|Za rfl<|Zb<|Ze<|Za rfl<|Za rfl ?_
 obtain ⟨x,H1,fH1,hx,kH1⟩:=ZbG (kn:=kn) (lo:=lo) (H:=H) hs hl hn (by omega) (bad:=bad) hc
 refine Zq (vs:=[.slice sa n cap,.func (.func F) #[] gc]) rfl (Zk fH1) ?_
 have mH1:=kH1.1
 have hk:=hk.trans kH1
 refine WO (a:=x) (b:=0) rfl rfl<|Za rfl<|Zb ?_
 exact And.intro trivial (Exists.intro _ (And.intro rfl ⟨_,rfl,hx,hk⟩))
theorem Zbr {e:Jb} {G:FuncId} {gc:Array Value} {cc:Nat} {b:Bool} (r1:Rd H cc [.func (.func G) #[] gc]) (hg:∀ H1,Zf H H1 []→∃ H2,ZJ Try.prog kn lo (.fn (.func G) gc) [.agg (Jb.f e).toArray] H1 (.bool b) H2∧Zf H1 H2 []):∃ H',FnX Try.prog kn lo 97 [.agg (Jb.f e).toArray,.pointer (some ⟨cc,0,none⟩)] H (.bool (!b)) H'∧Zf H H' []:=by
 have key:=Zt (kn:=kn) (lo:=lo) (H:=H) (args:=[.agg (Jb.f e).toArray,.pointer (some ⟨cc,0,none⟩)]) (Q:=fun w H'=>w=.bool (!b)∧Zf H H' []) Try.func97 B97 N97 Z97 L97 (by simp) ?_
 ·obtain ⟨w,H',h,rfl,q⟩:=key;exact ⟨H',h,q⟩
 have hk:=Zf.refl H []
 refine Ze<|Ye (v:=.agg (Jb.f e).toArray) rfl ?_
 intro H1 kH1 nH1 c1
 have c1:Cl H1 H.next [iv e.b,iv e.p,iv e.u,iv e.t]:=c1
 have mH1:=kH1.1
 have hk:=hk.trans kH1
 have r1:=kH1.rd r1 (by simp)
 refine Za rfl<|Zb<|Ze<|ZD (b:=cc) (o:=0) (v:=.func (.func G) #[] gc) rfl r1 rfl<|Z3 (b:=H.next) (o:=0) rfl c1.rd (show row 4 _ _=some [iv e.b,iv e.p,iv e.u,iv e.t] from rfl) ?_
 obtain ⟨H2,fH2,kH2⟩:=hg H1 hk
 refine Zq (v:=.bool b) (vs:=[.agg (Jb.f e).toArray]) rfl fH2 ?_
 have mH2:=kH2.1
 have hk:=hk.trans kH2
 have r1:=kH2.rd r1 (by simp)
 have c1:=kH2.cl c1 (by simp)
 refine Zg (v:=.bool (!b)) rfl rfl<|Za rfl<|Zb ?_
 exact And.intro trivial (Exists.intro _ (And.intro rfl ⟨rfl,hk⟩))
theorem Zbc {l:List Jb} {sa:Option Addr} {n cap:Nat} (hs:Sl H sa n cap (jbc l)) (hl:l.length=n) (hn:n≤1000000) (hlo:lo≤H.next) {F:FuncId} {gc:Array Value} {ok:Nat→Bool} (hc:∀ i,i < n→∀ H1,Zf H H1 []→∃ H2,ZJ Try.prog kn lo (.fn (.func F) gc) [.agg (Jb.f (l.getD i Jb.z)).toArray] H1 (.bool (ok i)) H2∧Zf H1 H2 []):∃ H',FnX Try.prog kn lo 71 [.slice sa n cap,.func (.func F) #[] gc] H (.bool ((List.range n).all ok)) H'∧Zf H H' []:=by
 have key:=Zt (kn:=kn) (lo:=lo) (H:=H) (args:=[.slice sa n cap,.func (.func F) #[] gc]) (Q:=fun w H'=>w=.bool ((List.range n).all ok)∧Zf H H' []) Try.func71 B71 N71 Z71 L71 (by simp) ?_
 ·obtain ⟨w,H',h,rfl,q⟩:=key;exact ⟨H',h,q⟩
 have hk:=Zf.refl H []
 refine Ze<|Ye (v:=.func (.func F) #[] gc) rfl ?_
 intro H1 kH1 nH1 c1
 have c1:Cl H1 H.next [.func (.func F) #[] gc]:=c1
 have mH1:=kH1.1
 have hk:=hk.trans kH1
 refine Za rfl<|Zb<|Ze<|Za rfl<|Zg (v:=.func (.func 97) #[] #[pt H.next]) rfl (by kernel_rfl) ?_
 obtain ⟨x,H2,fH2,hx,kH2⟩:=Zca (kn:=kn) (lo:=lo) (H:=H1) (hk.sl0 hs) hl hn (by omega) (F:=97) (gc:=#[.pointer (some ⟨H.next,0,none⟩)]) (bad:=fun i=>!(ok i)) (fun i hi H9 k9=>by
  obtain ⟨H8,f8,k8⟩:=Zbr (kn:=kn) (lo:=lo) (H:=H9) (e:=l.getD i Jb.z) (b:=ok i) (k9.rd c1.rd (by simp)) (fun H7 k7=>hc i hi H7 (hk.trans (k9.trans k7)))
  exact ⟨H8,ZV rfl (by simpa using f8),k8⟩)
 refine Zq (vs:=[.slice sa n cap,.func (.func 97) #[] #[pt H.next]]) rfl (Zk fH2) ?_
 have mH2:=kH2.1
 have hk:=hk.trans kH2
 have c1:=kH2.cl c1 (by simp)
 refine Zg (v:=.bool (!x)) rfl rfl<|Za rfl<|Zb ?_
 exact And.intro trivial (Exists.intro _ (And.intro rfl ⟨congrArg Value.bool (U4 hx),hk⟩))
theorem Zb6 {l:List Tp} {sa:Option Addr} {n cap:Nat} (hs:Sl H sa n cap (tpc l)) (hl:l.length=n) (hn:n≤1000000) (hlo:lo≤H.next) {F:FuncId} {gc:Array Value} {bad:Nat→Bool} (hc:∀ i,i < n→∀ H1,Zf H H1 []→∃ H2,ZJ Try.prog kn lo (.fn (.func F) gc) [.agg (Tp.f (l.getD i Tp.z)).toArray] H1 (.bool (bad i)) H2∧Zf H1 H2 []):∃ x H',FnX Try.prog kn lo 103 [.slice sa n cap,.func (.func F) #[] gc] H (iv x) H'∧(decide (x ≥ 0)=true↔∃ i,i < n∧bad i=true)∧Zf H H' []:=by
 have key:=Zt (kn:=kn) (lo:=lo) (H:=H) (args:=[.slice sa n cap,.func (.func F) #[] gc]) (Q:=fun w H'=>∃ x,w=iv x∧(decide (x ≥ 0)=true↔∃ i,i < n∧bad i=true)∧Zf H H' []) Try.func103 Zfp Zee ZeZ ZeO (by simp) ?_
 ·obtain ⟨w,H',h,x,rfl,r⟩:=key;exact ⟨x,H',h,r⟩
 have hk:=Zf.refl H []
 refine Ze<|Za rfl<|Zb<|Ze<|Za rfl<|YL (m:=n) rfl<|Za rfl<|Zb ?_
 refine YO (fn:=Try.f103) Zdr Zee Zcz (fun i:Nat=>[(0,.slice sa n cap),(1,.func (.func F) #[] gc),(7,iv (n:Int)),(8,iv (i:Int))])
  (fun k i H'=>i+k=n∧Zf H H' []∧∀ j,j < i→bad j=false) n 0 ⟨by omega,hk,fun j h=>absurd h (by omega)⟩ ⟨rfl,rfl,rfl,rfl,trivial⟩ ?_
 rintro k i L1 ⟨hik,hk,hall⟩
 have mk:=hk.1
 refine Ze<|YY (a:=(i:Int)) (b:=(n:Int)) rfl rfl<|Zb ?_
 refine And.intro (fun q1=>?_) (fun q1=>?_)
 ·have q1:(i:Int) < (n:Int):=of_decide_eq_true q1
  have hi:i < n:=by omega
  have ss0:=hk.sl0 hs
  rcases id ss0 with ⟨_,h0s,_⟩ | ⟨sb,es,rs,_⟩
  ·omega
  have ls:=rs.1
  have fs:=hs.old
  first | refine ZK ?_ | skip
  refine Ze<|Za rfl<|Za rfl<|Zb<|Ze<|Za rfl<|Za rfl<|Za rfl<|XH (b:=sb) (o:=0) (k:=i) (j:=(i:Int)) (by rw [← es];rfl) rfl rfl hi<|Z3 (b:=sb) (o:=0+i * 3) rfl rs (Ji (by omega)) ?_
  obtain ⟨H1,fH1,kH1⟩:=hc i hi L1 hk
  have mH1:=kH1.1
  have hk:=hk.trans kH1
  have rs:=kH1.rd rs (by simp)
  cases hb:bad i
  ·rw [hb] at fH1
   refine Zq (v:=.bool false) (vs:=[.agg (Tp.f (l.getD i Tp.z)).toArray]) rfl fH1<|Zb<|YI ?_
   first | refine ZK ?_ | skip
   show Zw _ _ _ _ _ _ _ _
   refine Yw (a:=(i:Int)) (b:=1) rfl rfl ⟨by omega,by omega⟩<|Za rfl<|Zb ?_
   exact ⟨k - 1,i+1,by omega,⟨by omega,hk,fun j hj=>by rcases Nat.lt_or_ge j i with c | c;exact hall j c;rw [show j=i by omega];exact hb⟩,rfl,rfl,rfl,rfl,trivial⟩
  ·rw [hb] at fH1
   refine Zq (v:=.bool true) (vs:=[.agg (Tp.f (l.getD i Tp.z)).toArray]) rfl fH1<|Zb<|YN<|Ze<|Za rfl<|Za rfl<|Zb ?_
   exact And.intro trivial (Exists.intro _ (And.intro rfl ⟨(i:Int),rfl,⟨fun _=>⟨i,hi,hb⟩,fun _=>decide_eq_true (by omega)⟩,hk⟩))
 ·have q1:¬ ((i:Int) < (n:Int)):=of_decide_eq_false q1
  refine Ze<|Za rfl<|Zb ?_
  exact And.intro trivial (Exists.intro _ (And.intro rfl ⟨-1,rfl,⟨fun h=>absurd (of_decide_eq_true h) (by omega),fun ⟨j,hj,q⟩=>by rw [hall j (by omega)] at q;cases q⟩,hk⟩))
theorem Zbq {l:List Tp} {sa:Option Addr} {n cap:Nat} (hs:Sl H sa n cap (tpc l)) (hl:l.length=n) (hn:n≤1000000) (hlo:lo≤H.next) {F:FuncId} {gc:Array Value} {bad:Nat→Bool} (hc:∀ i,i < n→∀ H1,Zf H H1 []→∃ H2,ZJ Try.prog kn lo (.fn (.func F) gc) [.agg (Tp.f (l.getD i Tp.z)).toArray] H1 (.bool (bad i)) H2∧Zf H1 H2 []):∃ b H',FnX Try.prog kn lo 86 [.slice sa n cap,.func (.func F) #[] gc] H (.bool b) H'∧(b=true↔∃ i,i < n∧bad i=true)∧Zf H H' []:=by
 have key:=Zt (kn:=kn) (lo:=lo) (H:=H) (args:=[.slice sa n cap,.func (.func F) #[] gc]) (Q:=fun w H'=>∃ b,w=.bool b∧(b=true↔∃ i,i < n∧bad i=true)∧Zf H H' []) Try.func86 B86 N86 Z86 L86 (by simp) ?_
 ·obtain ⟨w,H',h,x,rfl,r⟩:=key;exact ⟨x,H',h,r⟩
 have hk:=Zf.refl H []
 refine Ze<|Za rfl<|Zb<|Ze<|Za rfl<|Za rfl ?_
 obtain ⟨x,H1,fH1,hx,kH1⟩:=Zb6 (kn:=kn) (lo:=lo) (H:=H) hs hl hn (by omega) (bad:=bad) hc
 refine Zq (vs:=[.slice sa n cap,.func (.func F) #[] gc]) rfl (Zk fH1) ?_
 have mH1:=kH1.1
 have hk:=hk.trans kH1
 refine WO (a:=x) (b:=0) rfl rfl<|Za rfl<|Zb ?_
 exact And.intro trivial (Exists.intro _ (And.intro rfl ⟨_,rfl,hx,hk⟩))
theorem ZbI {e:Tp} {G:FuncId} {gc:Array Value} {cc:Nat} {b:Bool} (r1:Rd H cc [.func (.func G) #[] gc]) (hg:∀ H1,Zf H H1 []→∃ H2,ZJ Try.prog kn lo (.fn (.func G) gc) [.agg (Tp.f e).toArray] H1 (.bool b) H2∧Zf H1 H2 []):∃ H',FnX Try.prog kn lo 87 [.agg (Tp.f e).toArray,.pointer (some ⟨cc,0,none⟩)] H (.bool (!b)) H'∧Zf H H' []:=by
 have key:=Zt (kn:=kn) (lo:=lo) (H:=H) (args:=[.agg (Tp.f e).toArray,.pointer (some ⟨cc,0,none⟩)]) (Q:=fun w H'=>w=.bool (!b)∧Zf H H' []) Try.func87 B87 N87 Z87 L87 (by simp) ?_
 ·obtain ⟨w,H',h,rfl,q⟩:=key;exact ⟨H',h,q⟩
 have hk:=Zf.refl H []
 refine Ze<|Ye (v:=.agg (Tp.f e).toArray) rfl ?_
 intro H1 kH1 nH1 c1
 have c1:Cl H1 H.next [iv e.c,iv e.l,iv e.h]:=c1
 have mH1:=kH1.1
 have hk:=hk.trans kH1
 have r1:=kH1.rd r1 (by simp)
 refine Za rfl<|Zb<|Ze<|ZD (b:=cc) (o:=0) (v:=.func (.func G) #[] gc) rfl r1 rfl<|Z3 (b:=H.next) (o:=0) rfl c1.rd (show row 3 _ _=some [iv e.c,iv e.l,iv e.h] from rfl) ?_
 obtain ⟨H2,fH2,kH2⟩:=hg H1 hk
 refine Zq (v:=.bool b) (vs:=[.agg (Tp.f e).toArray]) rfl fH2 ?_
 have mH2:=kH2.1
 have hk:=hk.trans kH2
 have r1:=kH2.rd r1 (by simp)
 have c1:=kH2.cl c1 (by simp)
 refine Zg (v:=.bool (!b)) rfl rfl<|Za rfl<|Zb ?_
 exact And.intro trivial (Exists.intro _ (And.intro rfl ⟨rfl,hk⟩))
theorem Za8 {l:List Tp} {sa:Option Addr} {n cap:Nat} (hs:Sl H sa n cap (tpc l)) (hl:l.length=n) (hn:n≤1000000) (hlo:lo≤H.next) {F:FuncId} {gc:Array Value} {ok:Nat→Bool} (hc:∀ i,i < n→∀ H1,Zf H H1 []→∃ H2,ZJ Try.prog kn lo (.fn (.func F) gc) [.agg (Tp.f (l.getD i Tp.z)).toArray] H1 (.bool (ok i)) H2∧Zf H1 H2 []):∃ H',FnX Try.prog kn lo 57 [.slice sa n cap,.func (.func F) #[] gc] H (.bool ((List.range n).all ok)) H'∧Zf H H' []:=by
 have key:=Zt (kn:=kn) (lo:=lo) (H:=H) (args:=[.slice sa n cap,.func (.func F) #[] gc]) (Q:=fun w H'=>w=.bool ((List.range n).all ok)∧Zf H H' []) Try.func57 B57 N57 Z57 L57 (by simp) ?_
 ·obtain ⟨w,H',h,rfl,q⟩:=key;exact ⟨H',h,q⟩
 have hk:=Zf.refl H []
 refine Ze<|Ye (v:=.func (.func F) #[] gc) rfl ?_
 intro H1 kH1 nH1 c1
 have c1:Cl H1 H.next [.func (.func F) #[] gc]:=c1
 have mH1:=kH1.1
 have hk:=hk.trans kH1
 refine Za rfl<|Zb<|Ze<|Za rfl<|Zg (v:=.func (.func 87) #[] #[pt H.next]) rfl (by kernel_rfl) ?_
 obtain ⟨x,H2,fH2,hx,kH2⟩:=Zbq (kn:=kn) (lo:=lo) (H:=H1) (hk.sl0 hs) hl hn (by omega) (F:=87) (gc:=#[.pointer (some ⟨H.next,0,none⟩)]) (bad:=fun i=>!(ok i)) (fun i hi H9 k9=>by
  obtain ⟨H8,f8,k8⟩:=ZbI (kn:=kn) (lo:=lo) (H:=H9) (e:=l.getD i Tp.z) (b:=ok i) (k9.rd c1.rd (by simp)) (fun H7 k7=>hc i hi H7 (hk.trans (k9.trans k7)))
  exact ⟨H8,ZV rfl (by simpa using f8),k8⟩)
 refine Zq (vs:=[.slice sa n cap,.func (.func 87) #[] #[pt H.next]]) rfl (Zk fH2) ?_
 have mH2:=kH2.1
 have hk:=hk.trans kH2
 have c1:=kH2.cl c1 (by simp)
 refine Zg (v:=.bool (!x)) rfl rfl<|Za rfl<|Zb ?_
 exact And.intro trivial (Exists.intro _ (And.intro rfl ⟨congrArg Value.bool (U4 hx),hk⟩))
theorem ZbJ {ws:Nat→Wa} {ps:List Pd} {sa:Option Addr} {n cap:Nat} (hs:Sl H sa n cap (pdc ws ps)) (hl:ps.length=n) (hn:n≤1000000) (hlo:lo≤H.next) {F:FuncId} {gc:Array Value} {bad:Nat→Bool} (hc:∀ i,i < n→∀ H1,Zf H H1 []→∃ H2,ZJ Try.prog kn lo (.fn (.func F) gc) [.agg (Pd.f (ws i) (ps.getD i Pd.z)).toArray] H1 (.bool (bad i)) H2∧Zf H1 H2 []):∃ x H',FnX Try.prog kn lo 104 [.slice sa n cap,.func (.func F) #[] gc] H (iv x) H'∧(decide (x ≥ 0)=true↔∃ i,i < n∧bad i=true)∧Zf H H' []:=by
 have key:=Zt (kn:=kn) (lo:=lo) (H:=H) (args:=[.slice sa n cap,.func (.func F) #[] gc]) (Q:=fun w H'=>∃ x,w=iv x∧(decide (x ≥ 0)=true↔∃ i,i < n∧bad i=true)∧Zf H H' []) Try.func104 ZfA Zdx Zfh ZfB (by simp) ?_
 ·obtain ⟨w,H',h,x,rfl,r⟩:=key;exact ⟨x,H',h,r⟩
 have hk:=Zf.refl H []
 refine Ze<|Za rfl<|Zb<|Ze<|Za rfl<|YL (m:=n) rfl<|Za rfl<|Zb ?_
 refine YO (fn:=Try.f104) Zc8 Zdx ZcY (fun i:Nat=>[(0,.slice sa n cap),(1,.func (.func F) #[] gc),(7,iv (n:Int)),(8,iv (i:Int))])
  (fun k i H'=>i+k=n∧Zf H H' []∧∀ j,j < i→bad j=false) n 0 ⟨by omega,hk,fun j h=>absurd h (by omega)⟩ ⟨rfl,rfl,rfl,rfl,trivial⟩ ?_
 rintro k i L1 ⟨hik,hk,hall⟩
 have mk:=hk.1
 refine Ze<|YY (a:=(i:Int)) (b:=(n:Int)) rfl rfl<|Zb ?_
 refine And.intro (fun q1=>?_) (fun q1=>?_)
 ·have q1:(i:Int) < (n:Int):=of_decide_eq_true q1
  have hi:i < n:=by omega
  have ss0:=hk.sl0 hs
  rcases id ss0 with ⟨_,h0s,_⟩ | ⟨sb,es,rs,_⟩
  ·omega
  have ls:=rs.1
  have fs:=hs.old
  first | refine ZK ?_ | skip
  refine Ze<|Za rfl<|Za rfl<|Zb<|Ze<|Za rfl<|Za rfl<|Za rfl<|XH (b:=sb) (o:=0) (k:=i) (j:=(i:Int)) (by rw [← es];rfl) rfl rfl hi<|Z3 (b:=sb) (o:=0+i * 4) rfl rs (Q5 (by omega)) ?_
  obtain ⟨H1,fH1,kH1⟩:=hc i hi L1 hk
  have mH1:=kH1.1
  have hk:=hk.trans kH1
  have rs:=kH1.rd rs (by simp)
  cases hb:bad i
  ·rw [hb] at fH1
   refine Zq (v:=.bool false) (vs:=[.agg (Pd.f (ws i) (ps.getD i Pd.z)).toArray]) rfl fH1<|Zb<|YI ?_
   first | refine ZK ?_ | skip
   show Zw _ _ _ _ _ _ _ _
   refine Yw (a:=(i:Int)) (b:=1) rfl rfl ⟨by omega,by omega⟩<|Za rfl<|Zb ?_
   exact ⟨k - 1,i+1,by omega,⟨by omega,hk,fun j hj=>by rcases Nat.lt_or_ge j i with c | c;exact hall j c;rw [show j=i by omega];exact hb⟩,rfl,rfl,rfl,rfl,trivial⟩
  ·rw [hb] at fH1
   refine Zq (v:=.bool true) (vs:=[.agg (Pd.f (ws i) (ps.getD i Pd.z)).toArray]) rfl fH1<|Zb<|YN<|Ze<|Za rfl<|Za rfl<|Zb ?_
   exact And.intro trivial (Exists.intro _ (And.intro rfl ⟨(i:Int),rfl,⟨fun _=>⟨i,hi,hb⟩,fun _=>decide_eq_true (by omega)⟩,hk⟩))
 ·have q1:¬ ((i:Int) < (n:Int)):=of_decide_eq_false q1
  refine Ze<|Za rfl<|Zb ?_
  exact And.intro trivial (Exists.intro _ (And.intro rfl ⟨-1,rfl,⟨fun h=>absurd (of_decide_eq_true h) (by omega),fun ⟨j,hj,q⟩=>by rw [hall j (by omega)] at q;cases q⟩,hk⟩))
theorem Zbl {ws:Nat→Wa} {ps:List Pd} {sa:Option Addr} {n cap:Nat} (hs:Sl H sa n cap (pdc ws ps)) (hl:ps.length=n) (hn:n≤1000000) (hlo:lo≤H.next) {F:FuncId} {gc:Array Value} {bad:Nat→Bool} (hc:∀ i,i < n→∀ H1,Zf H H1 []→∃ H2,ZJ Try.prog kn lo (.fn (.func F) gc) [.agg (Pd.f (ws i) (ps.getD i Pd.z)).toArray] H1 (.bool (bad i)) H2∧Zf H1 H2 []):∃ b H',FnX Try.prog kn lo 88 [.slice sa n cap,.func (.func F) #[] gc] H (.bool b) H'∧(b=true↔∃ i,i < n∧bad i=true)∧Zf H H' []:=by
 have key:=Zt (kn:=kn) (lo:=lo) (H:=H) (args:=[.slice sa n cap,.func (.func F) #[] gc]) (Q:=fun w H'=>∃ b,w=.bool b∧(b=true↔∃ i,i < n∧bad i=true)∧Zf H H' []) Try.func88 B88 N88 Z88 L88 (by simp) ?_
 ·obtain ⟨w,H',h,x,rfl,r⟩:=key;exact ⟨x,H',h,r⟩
 have hk:=Zf.refl H []
 refine Ze<|Za rfl<|Zb<|Ze<|Za rfl<|Za rfl ?_
 obtain ⟨x,H1,fH1,hx,kH1⟩:=ZbJ (kn:=kn) (lo:=lo) (H:=H) hs hl hn (by omega) (bad:=bad) hc
 refine Zq (vs:=[.slice sa n cap,.func (.func F) #[] gc]) rfl (Zk fH1) ?_
 have mH1:=kH1.1
 have hk:=hk.trans kH1
 refine WO (a:=x) (b:=0) rfl rfl<|Za rfl<|Zb ?_
 exact And.intro trivial (Exists.intro _ (And.intro rfl ⟨_,rfl,hx,hk⟩))
theorem ZbO {e:Pd} {v:Wa} {G:FuncId} {gc:Array Value} {cc:Nat} {b:Bool} (r1:Rd H cc [.func (.func G) #[] gc]) (hg:∀ H1,Zf H H1 []→∃ H2,ZJ Try.prog kn lo (.fn (.func G) gc) [.agg (Pd.f v e).toArray] H1 (.bool b) H2∧Zf H1 H2 []):∃ H',FnX Try.prog kn lo 89 [.agg (Pd.f v e).toArray,.pointer (some ⟨cc,0,none⟩)] H (.bool (!b)) H'∧Zf H H' []:=by
 have key:=Zt (kn:=kn) (lo:=lo) (H:=H) (args:=[.agg (Pd.f v e).toArray,.pointer (some ⟨cc,0,none⟩)]) (Q:=fun w H'=>w=.bool (!b)∧Zf H H' []) Try.func89 B89 N89 Z89 L89 (by simp) ?_
 ·obtain ⟨w,H',h,rfl,q⟩:=key;exact ⟨H',h,q⟩
 have hk:=Zf.refl H []
 refine Ze<|Ye (v:=.agg (Pd.f v e).toArray) rfl ?_
 intro H1 kH1 nH1 c1
 have c1:Cl H1 H.next [iv e.re,iv e.st,.slice v.1 e.wt.length v.2,iv e.us]:=c1
 have mH1:=kH1.1
 have hk:=hk.trans kH1
 have r1:=kH1.rd r1 (by simp)
 refine Za rfl<|Zb<|Ze<|ZD (b:=cc) (o:=0) (v:=.func (.func G) #[] gc) rfl r1 rfl<|Z3 (b:=H.next) (o:=0) rfl c1.rd (show row 4 _ _=some [iv e.re,iv e.st,.slice v.1 e.wt.length v.2,iv e.us] from rfl) ?_
 obtain ⟨H2,fH2,kH2⟩:=hg H1 hk
 refine Zq (v:=.bool b) (vs:=[.agg (Pd.f v e).toArray]) rfl fH2 ?_
 have mH2:=kH2.1
 have hk:=hk.trans kH2
 have r1:=kH2.rd r1 (by simp)
 have c1:=kH2.cl c1 (by simp)
 refine Zg (v:=.bool (!b)) rfl rfl<|Za rfl<|Zb ?_
 exact And.intro trivial (Exists.intro _ (And.intro rfl ⟨rfl,hk⟩))
theorem Za5 {ws:Nat→Wa} {ps:List Pd} {sa:Option Addr} {n cap:Nat} (hs:Sl H sa n cap (pdc ws ps)) (hl:ps.length=n) (hn:n≤1000000) (hlo:lo≤H.next) {F:FuncId} {gc:Array Value} {ok:Nat→Bool} (hc:∀ i,i < n→∀ H1,Zf H H1 []→∃ H2,ZJ Try.prog kn lo (.fn (.func F) gc) [.agg (Pd.f (ws i) (ps.getD i Pd.z)).toArray] H1 (.bool (ok i)) H2∧Zf H1 H2 []):∃ H',FnX Try.prog kn lo 65 [.slice sa n cap,.func (.func F) #[] gc] H (.bool ((List.range n).all ok)) H'∧Zf H H' []:=by
 have key:=Zt (kn:=kn) (lo:=lo) (H:=H) (args:=[.slice sa n cap,.func (.func F) #[] gc]) (Q:=fun w H'=>w=.bool ((List.range n).all ok)∧Zf H H' []) Try.func65 B65 N65 Z65 L65 (by simp) ?_
 ·obtain ⟨w,H',h,rfl,q⟩:=key;exact ⟨H',h,q⟩
 have hk:=Zf.refl H []
 refine Ze<|Ye (v:=.func (.func F) #[] gc) rfl ?_
 intro H1 kH1 nH1 c1
 have c1:Cl H1 H.next [.func (.func F) #[] gc]:=c1
 have mH1:=kH1.1
 have hk:=hk.trans kH1
 refine Za rfl<|Zb<|Ze<|Za rfl<|Zg (v:=.func (.func 89) #[] #[pt H.next]) rfl (by kernel_rfl) ?_
 obtain ⟨x,H2,fH2,hx,kH2⟩:=Zbl (kn:=kn) (lo:=lo) (H:=H1) (hk.sl0 hs) hl hn (by omega) (F:=89) (gc:=#[.pointer (some ⟨H.next,0,none⟩)]) (bad:=fun i=>!(ok i)) (fun i hi H9 k9=>by
  obtain ⟨H8,f8,k8⟩:=ZbO (kn:=kn) (lo:=lo) (H:=H9) (e:=ps.getD i Pd.z) (v:=ws i) (b:=ok i) (k9.rd c1.rd (by simp)) (fun H7 k7=>hc i hi H7 (hk.trans (k9.trans k7)))
  exact ⟨H8,ZV rfl (by simpa using f8),k8⟩)
 refine Zq (vs:=[.slice sa n cap,.func (.func 89) #[] #[pt H.next]]) rfl (Zk fH2) ?_
 have mH2:=kH2.1
 have hk:=hk.trans kH2
 have c1:=kH2.cl c1 (by simp)
 refine Zg (v:=.bool (!x)) rfl rfl<|Za rfl<|Zb ?_
 exact And.intro trivial (Exists.intro _ (And.intro rfl ⟨congrArg Value.bool (U4 hx),hk⟩))
theorem ZdH {p:Pd} {w:Wa} (hw:Sl H w.1 p.wt.length w.2 (cI p.wt)) (hlo:lo≤H.next):∃ H',FnX Try.prog kn lo 66 [.agg (Pd.f w p).toArray] H (.bool (vP p)) H'∧Zf H H' []:=by
 have key:=Zt (kn:=kn) (lo:=lo) (H:=H) (args:=[.agg (Pd.f w p).toArray]) (Q:=fun w H'=>w=.bool (vP p)∧Zf H H' []) Try.func66 B66 N66 Z66 L66 (by simp) ?_
 ·obtain ⟨w,H',h,rfl,q⟩:=key;exact ⟨H',h,q⟩
 have hk:=Zf.refl H []
 refine Ze<|Ye (v:=.agg (Pd.f w p).toArray) rfl ?_
 intro H1 kH1 nH1 c1
 have c1:Cl H1 H.next [iv p.re,iv p.st,.slice w.1 p.wt.length w.2,iv p.us]:=c1
 have mH1:=kH1.1
 have hk:=hk.trans kH1
 refine Za rfl<|Zb<|Ze<|Zn (b:=H.next) (o:=0) rfl<|ZD (b:=H.next) (o:=0) (v:=iv p.re) rfl c1.rd rfl<|Z2 rfl (Us) ?_
 intro tH2 H2 hH2 kH2
 have mH2:=kH2.1
 have hk:=hk.trans kH2
 have c1:=kH2.cl c1 (by simp)
 cases tH2
 ·have thH2:inB p.re 0 65536=false:=hH2
  have uhH2:=Y4 thH2
  refine Za rfl<|Zh rfl<|Zh rfl<|Zh rfl<|Zg (v:=.bool false) rfl rfl<|Za rfl<|Zh rfl<|Zh rfl<|Zh rfl<|Zg (v:=.bool false) rfl rfl<|Za rfl<|Zb<|Ze<|Za rfl<|Za rfl<|Zh rfl<|Zh rfl<|Zh rfl<|Zh rfl<|Zg (v:=.bool false) rfl rfl<|Za rfl<|Zh rfl<|Zh rfl<|Zh rfl<|Zg (v:=.bool false) rfl rfl<|Za rfl<|Zb ?_
  exact And.intro trivial (Exists.intro _ (And.intro rfl ⟨congrArg Value.bool (show false=vP p from by symm;rw [← Bool.not_eq_true];simp only [vP,Bool.and_eq_true,decide_eq_true_eq];intro q;obtain ⟨⟨⟨⟨q0,q1⟩,q2⟩,q3⟩,q4⟩:=q;first | omega | (simp_all;done)),hk⟩))
 ·have thH2:inB p.re 0 65536=true:=hH2
  have uhH2:=YH thH2
  refine Za rfl ?_
  refine Zs rfl (Zn (b:=H.next) (o:=0) rfl ?_)
  refine Zs rfl (ZD (b:=H.next) (o:=1) (v:=iv p.st) rfl c1.rd rfl ?_)
  refine Zs rfl (Z2 rfl (Wm) ?_)
  intro tH3 H3 hH3 kH3
  have mH3:=kH3.1
  have hk:=hk.trans kH3
  have c1:=kH3.cl c1 (by simp)
  cases tH3
  ·have thH3:inB p.st 0 30=false:=hH3
   have uhH3:=Y4 thH3
   refine Zg (v:=.bool false) rfl rfl<|Za rfl<|Zh rfl<|Zh rfl<|Zh rfl<|Zg (v:=.bool false) rfl rfl<|Za rfl<|Zb<|Ze<|Za rfl<|Za rfl<|Zh rfl<|Zh rfl<|Zh rfl<|Zh rfl<|Zg (v:=.bool false) rfl rfl<|Za rfl<|Zh rfl<|Zh rfl<|Zh rfl<|Zg (v:=.bool false) rfl rfl<|Za rfl<|Zb ?_
   exact And.intro trivial (Exists.intro _ (And.intro rfl ⟨congrArg Value.bool (show false=vP p from by symm;rw [← Bool.not_eq_true];simp only [vP,Bool.and_eq_true,decide_eq_true_eq];intro q;obtain ⟨⟨⟨⟨q0,q1⟩,q2⟩,q3⟩,q4⟩:=q;first | omega | (simp_all;done)),hk⟩))
  ·have thH3:inB p.st 0 30=true:=hH3
   have uhH3:=YH thH3
   refine Zg (v:=.bool true) rfl rfl<|Za rfl ?_
   refine Zs rfl (Zn (b:=H.next) (o:=0) rfl ?_)
   refine Zs rfl (ZD (b:=H.next) (o:=3) (v:=iv p.us) rfl c1.rd rfl ?_)
   refine Zs rfl (Z2 rfl (Wm) ?_)
   intro tH4 H4 hH4 kH4
   have mH4:=kH4.1
   have hk:=hk.trans kH4
   have c1:=kH4.cl c1 (by simp)
   cases tH4
   ·have thH4:inB p.us 1 16=false:=hH4
    have uhH4:=Y4 thH4
    refine Zg (v:=.bool false) rfl rfl<|Za rfl<|Zb<|Ze<|Za rfl<|Za rfl<|Zh rfl<|Zh rfl<|Zh rfl<|Zh rfl<|Zg (v:=.bool false) rfl rfl<|Za rfl<|Zh rfl<|Zh rfl<|Zh rfl<|Zg (v:=.bool false) rfl rfl<|Za rfl<|Zb ?_
    exact And.intro trivial (Exists.intro _ (And.intro rfl ⟨congrArg Value.bool (show false=vP p from by symm;rw [← Bool.not_eq_true];simp only [vP,Bool.and_eq_true,decide_eq_true_eq];intro q;obtain ⟨⟨⟨⟨q0,q1⟩,q2⟩,q3⟩,q4⟩:=q;first | omega | (simp_all;done)),hk⟩))
   ·have thH4:inB p.us 1 16=true:=hH4
    have uhH4:=YH thH4
    refine Zg (v:=.bool true) rfl rfl<|Za rfl<|Zb<|Ze<|Za rfl<|Za rfl ?_
    refine Zs rfl (Zn (b:=H.next) (o:=0) rfl ?_)
    refine Zs rfl (ZD (b:=H.next) (o:=2) (v:=.slice w.1 p.wt.length w.2) rfl c1.rd rfl ?_)
    refine Zs rfl (YL (m:=p.wt.length) rfl ?_)
    refine Zs rfl (XP (a:=(p.wt.length:Int)) (b:=8) rfl rfl ?_)
    intro t1 g1;cases t1
    ·have g1:¬ ((p.wt.length:Int)≤8):=of_decide_eq_false g1
     refine Zg (v:=.bool false) rfl rfl<|Za rfl<|Zh rfl<|Zh rfl<|Zh rfl<|Zg (v:=.bool false) rfl rfl<|Za rfl<|Zb ?_
     exact And.intro trivial (Exists.intro _ (And.intro rfl ⟨congrArg Value.bool (show false=vP p from by symm;rw [← Bool.not_eq_true];simp only [vP,Bool.and_eq_true,decide_eq_true_eq];intro q;obtain ⟨⟨⟨⟨q0,q1⟩,q2⟩,q3⟩,q4⟩:=q;first | omega | (simp_all;done)),hk⟩))
    ·have g1:(p.wt.length:Int)≤8:=of_decide_eq_true g1
     refine Zg (v:=.bool true) rfl rfl<|Za rfl ?_
     refine Zs rfl (Zn (b:=H.next) (o:=0) rfl ?_)
     refine Zs rfl (ZD (b:=H.next) (o:=2) (v:=.slice w.1 p.wt.length w.2) rfl c1.rd rfl ?_)
     obtain ⟨H5,fH5,kH5⟩:=ZbB (kn:=kn) (lo:=lo) (H:=H4) (hk.sl0 hw) rfl (by omega) (by omega) (F:=91) (gc:=#[]) (ok:=fun i=>inB (p.wt.getD i 0) 0 365) (fun i hi H9 k9=>by
      obtain ⟨H8,f8,k8⟩:=Zby (kn:=kn) (lo:=lo) (H:=H9) (n:=p.wt.getD i 0)
      exact ⟨H8,ZV rfl (by simpa using f8),k8⟩)
     rw [XE (p:=fun d=>inB d 0 365)] at fH5
     have mH5:=kH5.1
     have hk:=hk.trans kH5
     have c1:=kH5.cl c1 (by simp)
     cases hal:(p.wt.all fun d=>inB d 0 365)
     ·rw [hal] at fH5
      refine Zs rfl (Zq (v:=.bool false) (vs:=[.slice w.1 p.wt.length w.2,.func (.func 91) #[] #[]]) rfl (Zk fH5) ?_)
      refine Zg (v:=.bool false) rfl rfl<|Za rfl<|Zb ?_
      exact And.intro trivial (Exists.intro _ (And.intro rfl ⟨congrArg Value.bool (show false=vP p from by symm;rw [← Bool.not_eq_true];simp only [vP,Bool.and_eq_true,decide_eq_true_eq];intro q;obtain ⟨⟨⟨⟨q0,q1⟩,q2⟩,q3⟩,q4⟩:=q;first | omega | (simp_all;done)),hk⟩))
     ·rw [hal] at fH5
      refine Zs rfl (Zq (v:=.bool true) (vs:=[.slice w.1 p.wt.length w.2,.func (.func 91) #[] #[]]) rfl (Zk fH5) ?_)
      refine Zg (v:=.bool true) rfl rfl<|Za rfl<|Zb ?_
      exact And.intro trivial (Exists.intro _ (And.intro rfl ⟨congrArg Value.bool (show true=vP p from by symm;simp only [vP,Bool.and_eq_true,decide_eq_true_eq];refine ⟨⟨⟨⟨?_,?_⟩,?_⟩,?_⟩,?_⟩<;>first | assumption | omega),hk⟩))
theorem ZdX {a:Ya} {y:Yd} {j:Jb} (hy:YaH H a y) (hB:YaB y):∃ H',FnX Try.prog kn lo 73 [.agg (Jb.f j).toArray,.agg (Ya.f a y).toArray] H (.bool (vJ y j)) H'∧Zf H H' []:=by
 have key:=Zt (kn:=kn) (lo:=lo) (H:=H) (args:=[.agg (Jb.f j).toArray,.agg (Ya.f a y).toArray]) (Q:=fun w H'=>w=.bool (vJ y j)∧Zf H H' []) Try.func73 B73 N73 Z73 L73 (by simp) ?_
 ·obtain ⟨w,H',h,rfl,q⟩:=key;exact ⟨H',h,q⟩
 have hB1:=hB.1;have hB2:=hB.2.1
 have hk:=Zf.refl H []
 refine Ze<|Ye (v:=.agg (Jb.f j).toArray) rfl ?_
 intro H1 kH1 nH1 c1
 have c1:Cl H1 H.next [iv j.b,iv j.p,iv j.u,iv j.t]:=c1
 have mH1:=kH1.1
 have hk:=hk.trans kH1
 refine Ye (v:=.agg (Ya.f a y).toArray) rfl ?_
 intro H2 kH2 nH2 c2
 have c2:Cl H2 H1.next [.slice a.pa y.ps.length a.pc,.slice a.ba y.bs.length a.bc,.slice a.sa y.ss.length a.sc,.slice a.ja y.js.length a.jc]:=c2
 have mH2:=kH2.1
 have hk:=hk.trans kH2
 have c1:=kH2.cl c1 (by simp)
 refine Za rfl<|Zb<|Ze<|Zn (b:=H.next) (o:=0) rfl<|ZD (b:=H.next) (o:=0) (v:=iv j.b) rfl c1.rd rfl<|Zn (b:=H1.next) (o:=0) rfl<|ZD (b:=H1.next) (o:=1) (v:=.slice a.ba y.bs.length a.bc) rfl c2.rd rfl<|YL (m:=y.bs.length) rfl<|Z2 rfl (UB (by omega)) ?_
 intro tH3 H3 hH3 kH3
 have mH3:=kH3.1
 have hk:=hk.trans kH3
 have c1:=kH3.cl c1 (by simp)
 have c2:=kH3.cl c2 (by simp)
 cases tH3
 ·have thH3:inB j.b 0 ((y.bs.length:Int) - 1)=false:=hH3
  have uhH3:=Y4 thH3
  refine Zg (v:=.bool true) rfl rfl<|Za rfl<|Zh rfl<|Zh rfl<|Zh rfl<|Zh rfl<|Zh rfl<|Zh rfl<|Zh rfl<|Zg (v:=.bool true) rfl rfl<|Zb<|YN<|Ze<|Za rfl<|Zb ?_
  exact And.intro trivial (Exists.intro _ (And.intro rfl ⟨congrArg Value.bool (show false=vJ y j from by symm;rw [← Bool.not_eq_true];simp only [vJ,inB,Bool.and_eq_true,decide_eq_true_eq];simp only [jB,jP];omega),hk⟩))
 ·have thH3:inB j.b 0 ((y.bs.length:Int) - 1)=true:=hH3
  have uhH3:=YH thH3
  refine Zg (v:=.bool false) rfl rfl<|Za rfl ?_
  refine Zs rfl (Zn (b:=H.next) (o:=0) rfl ?_)
  refine Zs rfl (ZD (b:=H.next) (o:=1) (v:=iv j.p) rfl c1.rd rfl ?_)
  refine Zs rfl (Zn (b:=H1.next) (o:=0) rfl ?_)
  refine Zs rfl (ZD (b:=H1.next) (o:=0) (v:=.slice a.pa y.ps.length a.pc) rfl c2.rd rfl ?_)
  refine Zs rfl (YL (m:=y.ps.length) rfl ?_)
  refine Zs rfl (Z2 rfl (UB (by omega)) ?_)
  intro tH4 H4 hH4 kH4
  have mH4:=kH4.1
  have hk:=hk.trans kH4
  have c1:=kH4.cl c1 (by simp)
  have c2:=kH4.cl c2 (by simp)
  cases tH4
  ·have thH4:inB j.p 0 ((y.ps.length:Int) - 1)=false:=hH4
   have uhH4:=Y4 thH4
   refine Zs rfl (Zg (v:=.bool true) rfl rfl ?_)
   refine Zg (v:=.bool true) rfl rfl<|Zb<|YN<|Ze<|Za rfl<|Zb ?_
   exact And.intro trivial (Exists.intro _ (And.intro rfl ⟨congrArg Value.bool (show false=vJ y j from by symm;rw [← Bool.not_eq_true];simp only [vJ,inB,Bool.and_eq_true,decide_eq_true_eq];simp only [jB,jP];omega),hk⟩))
  ·have thH4:inB j.p 0 ((y.ps.length:Int) - 1)=true:=hH4
   have uhH4:=YH thH4
   refine Zs rfl (Zg (v:=.bool false) rfl rfl ?_)
   refine Zg (v:=.bool false) rfl rfl<|Zb<|YI ?_
   have hjb:j.b.toNat < y.bs.length:=by omega
   have hjp:j.p.toNat < y.ps.length:=by omega
   have hwl:=hB.2.2.2.2 j.p.toNat hjp
   have sb0:=(hy.keep hk).b
   rcases id sb0 with ⟨_,h0b,_⟩ | ⟨bb,eb,rb,_⟩
   ·omega
   have lb:=rb.1
   have sp0:=(hy.keep hk).p
   rcases id sp0 with ⟨_,h0p,_⟩ | ⟨pb,ep,rp,_⟩
   ·omega
   have lp:=rp.1
   first | refine ZK ?_ | skip
   refine Ze<|Zn (b:=H.next) (o:=0) rfl<|ZD (b:=H.next) (o:=2) (v:=iv j.u) rfl c1.rd rfl<|Z2 rfl (US) ?_
   intro tH5 H5 hH5 kH5
   have mH5:=kH5.1
   have hk:=hk.trans kH5
   have c1:=kH5.cl c1 (by simp)
   have c2:=kH5.cl c2 (by simp)
   have rb:=kH5.rd rb (by simp)
   have rp:=kH5.rd rp (by simp)
   cases tH5
   ·have thH5:inB j.u 0 16384=false:=hH5
    have uhH5:=Y4 thH5
    refine Za rfl<|Zh rfl<|Zh rfl<|Zh rfl<|Zg (v:=.bool false) rfl rfl<|Za rfl<|Zh rfl<|Zh rfl<|Zh rfl<|Zh rfl<|Zh rfl<|Zh rfl<|Zg (v:=.bool false) rfl rfl<|Za rfl<|Zb<|W1<|Yr rfl<|Yr rfl<|ZR rfl<|ZR rfl<|ZR rfl<|ZR rfl<|ZR rfl<|ZR rfl<|ZR rfl<|ZR rfl<|ZR rfl<|ZR rfl<|ZR rfl<|ZR rfl<|ZR rfl<|ZR rfl<|ZR rfl<|ZR rfl<|QZ (v:=.bool false) rfl rfl<|Yr rfl ?_
    refine Xv (by repeat' first | exact True.intro | exact (fun h=>h) | refine And.intro ?_ ?_ | (intro h;have h:(_:Nat)=_:=h;omega)) ?_
    exact And.intro trivial (Exists.intro _ (And.intro rfl ⟨congrArg Value.bool (show false=vJ y j from by symm;rw [← Bool.not_eq_true];simp only [vJ,inB,Bool.and_eq_true,decide_eq_true_eq];simp only [jB,jP];omega),hk⟩))
   ·have thH5:inB j.u 0 16384=true:=hH5
    have uhH5:=YH thH5
    refine Za rfl ?_
    refine Zs rfl (Zn (b:=H.next) (o:=0) rfl ?_)
    refine Zs rfl (ZD (b:=H.next) (o:=3) (v:=iv j.t) rfl c1.rd rfl ?_)
    refine Zs rfl (Z2 rfl (US) ?_)
    intro tH6 H6 hH6 kH6
    have mH6:=kH6.1
    have hk:=hk.trans kH6
    have c1:=kH6.cl c1 (by simp)
    have c2:=kH6.cl c2 (by simp)
    have rb:=kH6.rd rb (by simp)
    have rp:=kH6.rd rp (by simp)
    cases tH6
    ·have thH6:inB j.t 0 16384=false:=hH6
     have uhH6:=Y4 thH6
     refine Zg (v:=.bool false) rfl rfl<|Za rfl<|Zh rfl<|Zh rfl<|Zh rfl<|Zh rfl<|Zh rfl<|Zh rfl<|Zg (v:=.bool false) rfl rfl<|Za rfl<|Zb<|W1<|Yr rfl<|Yr rfl<|ZR rfl<|ZR rfl<|ZR rfl<|ZR rfl<|ZR rfl<|ZR rfl<|ZR rfl<|ZR rfl<|ZR rfl<|ZR rfl<|ZR rfl<|ZR rfl<|ZR rfl<|ZR rfl<|ZR rfl<|ZR rfl<|QZ (v:=.bool false) rfl rfl<|Yr rfl ?_
     refine Xv (by repeat' first | exact True.intro | exact (fun h=>h) | refine And.intro ?_ ?_ | (intro h;have h:(_:Nat)=_:=h;omega)) ?_
     exact And.intro trivial (Exists.intro _ (And.intro rfl ⟨congrArg Value.bool (show false=vJ y j from by symm;rw [← Bool.not_eq_true];simp only [vJ,inB,Bool.and_eq_true,decide_eq_true_eq];simp only [jB,jP];omega),hk⟩))
    ·have thH6:inB j.t 0 16384=true:=hH6
     have uhH6:=YH thH6
     refine Zg (v:=.bool true) rfl rfl<|Za rfl ?_
     refine Zs rfl (Zn (b:=H.next) (o:=0) rfl ?_)
     refine Zs rfl (ZD (b:=H.next) (o:=3) (v:=iv j.t) rfl c1.rd rfl ?_)
     refine Zs rfl (Zn (b:=H.next) (o:=0) rfl ?_)
     refine Zs rfl (ZD (b:=H.next) (o:=2) (v:=iv j.u) rfl c1.rd rfl ?_)
     refine Zs rfl (Qb (a:=j.t) (b:=j.u) rfl rfl ⟨by omega,by omega⟩ ?_)
     refine Zs rfl (Z2 rfl (Wm) ?_)
     intro tH7 H7 hH7 kH7
     have mH7:=kH7.1
     have hk:=hk.trans kH7
     have c1:=kH7.cl c1 (by simp)
     have c2:=kH7.cl c2 (by simp)
     have rb:=kH7.rd rb (by simp)
     have rp:=kH7.rd rp (by simp)
     cases tH7
     ·have thH7:inB (j.t - j.u) 0 40=false:=hH7
      have uhH7:=Y4 thH7
      refine Zg (v:=.bool false) rfl rfl<|Za rfl<|Zb<|W1<|Yr rfl<|Yr rfl<|ZR rfl<|ZR rfl<|ZR rfl<|ZR rfl<|ZR rfl<|ZR rfl<|ZR rfl<|ZR rfl<|ZR rfl<|ZR rfl<|ZR rfl<|ZR rfl<|ZR rfl<|ZR rfl<|ZR rfl<|ZR rfl<|QZ (v:=.bool false) rfl rfl<|Yr rfl ?_
      refine Xv (by repeat' first | exact True.intro | exact (fun h=>h) | refine And.intro ?_ ?_ | (intro h;have h:(_:Nat)=_:=h;omega)) ?_
      exact And.intro trivial (Exists.intro _ (And.intro rfl ⟨congrArg Value.bool (show false=vJ y j from by symm;rw [← Bool.not_eq_true];simp only [vJ,inB,Bool.and_eq_true,decide_eq_true_eq];simp only [jB,jP];omega),hk⟩))
     ·have thH7:inB (j.t - j.u) 0 40=true:=hH7
      have uhH7:=YH thH7
      refine Zg (v:=.bool true) rfl rfl<|Za rfl<|Zb<|W1<|Yr rfl<|Yr rfl ?_
      refine Ui rfl (ZC (b:=H1.next) (o:=0) rfl ?_)
      refine Ui rfl (Yb (b:=H1.next) (o:=1) (v:=.slice a.ba y.bs.length a.bc) rfl c2.rd rfl ?_)
      refine Ui rfl (ZC (b:=H.next) (o:=0) rfl ?_)
      refine Ui rfl (Yb (b:=H.next) (o:=0) (v:=iv j.b) rfl c1.rd rfl ?_)
      refine Ui rfl (WJ (b:=bb) (o:=0) (k:=j.b.toNat) (j:=j.b) (by rw [← eb];rfl) rfl (by omega) (by omega) ?_)
      refine Ui rfl (ZC (b:=bb) (o:=0+j.b.toNat * 4) rfl ?_)
      refine Ui rfl (Yb (b:=bb) (o:=0+j.b.toNat * 4+3) (v:=iv ((y.bs.getD j.b.toNat Bd.z).m)) rfl rb (Zb3 (l:=y.bs) (i:=j.b.toNat) (j:=3) (by omega) rfl) ?_)
      refine Ui rfl (ZC (b:=H1.next) (o:=0) rfl ?_)
      refine Ui rfl (Yb (b:=H1.next) (o:=0) (v:=.slice a.pa y.ps.length a.pc) rfl c2.rd rfl ?_)
      refine Ui rfl (ZC (b:=H.next) (o:=0) rfl ?_)
      refine Ui rfl (Yb (b:=H.next) (o:=1) (v:=iv j.p) rfl c1.rd rfl ?_)
      refine Ui rfl (WJ (b:=pb) (o:=0) (k:=j.p.toNat) (j:=j.p) (by rw [← ep];rfl) rfl (by omega) (by omega) ?_)
      refine Ui rfl (ZC (b:=pb) (o:=0+j.p.toNat * 4) rfl ?_)
      refine Ui rfl (Yb (b:=pb) (o:=0+j.p.toNat * 4+2) (v:=.slice ((a.ws j.p.toNat).1) ((y.ps.getD j.p.toNat Pd.z).wt.length) ((a.ws j.p.toNat).2)) rfl rp (KU (i:=j.p.toNat) (j:=2) (by omega) rfl) ?_)
      refine Ui rfl (ZcL (m:=(y.ps.getD j.p.toNat Pd.z).wt.length) rfl ?_)
      refine ZdY (UB (by omega)) ?_
      intro tH8 H8 hH8 kH8
      have mH8:=kH8.1
      have hk:=hk.trans kH8
      have c1:=kH8.cl c1 (by simp)
      have c2:=kH8.cl c2 (by simp)
      have rb:=kH8.rd rb (by simp)
      have rp:=kH8.rd rp (by simp)
      cases tH8
      ·have thH8:inB ((y.bs.getD j.b.toNat Bd.z).m) 0 (((y.ps.getD j.p.toNat Pd.z).wt.length:Int) - 1)=false:=hH8
       have uhH8:=Y4 thH8
       refine QZ (v:=.bool false) rfl rfl<|Yr rfl ?_
       refine Xv (by repeat' first | exact True.intro | exact (fun h=>h) | refine And.intro ?_ ?_ | (intro h;have h:(_:Nat)=_:=h;omega)) ?_
       exact And.intro trivial (Exists.intro _ (And.intro rfl ⟨congrArg Value.bool (show false=vJ y j from by symm;rw [← Bool.not_eq_true];simp only [vJ,inB,Bool.and_eq_true,decide_eq_true_eq];simp only [jB,jP];omega),hk⟩))
      ·have thH8:inB ((y.bs.getD j.b.toNat Bd.z).m) 0 (((y.ps.getD j.p.toNat Pd.z).wt.length:Int) - 1)=true:=hH8
       have uhH8:=YH thH8
       refine QZ (v:=.bool true) rfl rfl<|Yr rfl ?_
       refine Xv (by repeat' first | exact True.intro | exact (fun h=>h) | refine And.intro ?_ ?_ | (intro h;have h:(_:Nat)=_:=h;omega)) ?_
       exact And.intro trivial (Exists.intro _ (And.intro rfl ⟨congrArg Value.bool (show true=vJ y j from by symm;simp only [vJ,inB,Bool.and_eq_true,decide_eq_true_eq];simp only [jB,jP];omega),hk⟩))
theorem ZcT {a:Ya} {y:Yd} {j:Jb} {cc:Nat} (r1:Rd H cc (Ya.f a y)) (hy:YaH H a y) (hB:YaB y):∃ H',FnX Try.prog kn lo 72 [.agg (Jb.f j).toArray,.pointer (some ⟨cc,0,none⟩)] H (.bool (vJ y j)) H'∧Zf H H' []:=by
 have key:=Zt (kn:=kn) (lo:=lo) (H:=H) (args:=[.agg (Jb.f j).toArray,.pointer (some ⟨cc,0,none⟩)]) (Q:=fun w H'=>w=.bool (vJ y j)∧Zf H H' []) Try.func72 B72 N72 Z72 L72 (by simp) ?_
 ·obtain ⟨w,H',h,rfl,q⟩:=key;exact ⟨H',h,q⟩
 have hk:=Zf.refl H []
 refine Ze<|Ye (v:=.agg (Jb.f j).toArray) rfl ?_
 intro H1 kH1 nH1 c1
 have c1:Cl H1 H.next [iv j.b,iv j.p,iv j.u,iv j.t]:=c1
 have mH1:=kH1.1
 have hk:=hk.trans kH1
 have r1:=kH1.rd r1 (by simp)
 refine Za rfl<|Zb<|Ze<|Z3 (b:=H.next) (o:=0) rfl c1.rd (show row 4 _ _=some [iv j.b,iv j.p,iv j.u,iv j.t] from rfl)<|Z3 (b:=cc) (o:=0) rfl r1 (show row 4 _ _=some [.slice a.pa y.ps.length a.pc,.slice a.ba y.bs.length a.bc,.slice a.sa y.ss.length a.sc,.slice a.ja y.js.length a.jc] from rfl) ?_
 obtain ⟨H2,fH2,kH2⟩:=ZdX (kn:=kn) (lo:=lo) (H:=H1) (j:=j) (hy.keep hk) hB
 refine Zq (vs:=[.agg (Jb.f j).toArray,.agg (Ya.f a y).toArray]) rfl (Zk fH2) ?_
 have mH2:=kH2.1
 have hk:=hk.trans kH2
 have r1:=kH2.rd r1 (by simp)
 have c1:=kH2.cl c1 (by simp)
 refine Za rfl<|Zb ?_
 exact And.intro trivial (Exists.intro _ (And.intro rfl ⟨congrArg Value.bool rfl,hk⟩))
end
end Go.Ax

/-
 Pool: traps: how many insects there can be (written by program).
-/
namespace Go.Ax
open Go Go.RowKit Go.Proofs

noncomputable section
def Zac:Code→Array Oper
 | .region _ ops _=>ops
 | _=>#[]
theorem Zcc {P:Program} {kn:Kn} {lo:Nat} {H:Hp} {n:Nat} {rd:Bool} {x y:RC} {S:Rg} {K:Exit→Rg→Hp→Prop} (h:wC P kn lo n rd x S H fun e S' H'=>match e with | .normal=>wC P kn lo n rd y S' H' K | e=>K e S' H'):wC P kn lo n rd (.seq x y) S H K:=h
noncomputable def R60v:RC:=(.seq (.reg [oK 1 57 0,oN 2 0])
 (.seq (.other (at_ Try.f60 [1,0]))
 .ret))
theorem V60:LV Try.prog 13 (at_ Try.f60 []) R60v:=by
 have e:at_ Try.f60 []=(.seq (at_ Try.f60 [0]) (.seq (at_ Try.f60 [1,0]) (at_ Try.f60 [1,1]))):=by kernel_rfl
 rw [e]
 exact (.seq (.low (by kernel_rfl)) (.seq (.other _) (.low (by kernel_rfl))))
def ZP (t:Tp):Int:=if t.c=0 then 0 else (t.c - 1) * 1000 / t.h+1
def Z1 (t:Tp):Int:=((t.c+1) * 1000 - 1) / t.l
theorem jd {t:Tp} (h:vT t=true):0≤t.c∧t.c≤1048576∧1≤t.l∧t.l≤t.h∧t.h≤1000:=by
 simp only [vT,inB,Bool.and_eq_true,decide_eq_true_eq] at h;omega
theorem jW {t:Tp} (h:vT t=true):-1000≤((t.c - 1) * 1000).tdiv t.h∧((t.c - 1) * 1000).tdiv t.h≤2000000000∧max 0 (((t.c - 1) * 1000).tdiv t.h+1)=ZP t:=by
 have hv:=jd h
 unfold ZP
 by_cases e:t.c=0
 ·rw [e,if_pos rfl,show ((0:Int) - 1) * 1000 = -1000 from rfl,Int.neg_tdiv,Jf (by decide) (by omega)]
  have h1:1≤1000 / t.h:=Int.le_ediv_of_mul_le (by omega) (by omega)
  have h2:1000 / t.h≤1000:=Int.ediv_le_self _ (by decide)
  omega
 ·rw [if_neg e,Jf (by omega) (by omega)]
  have h1:0≤(t.c - 1) * 1000 / t.h:=Int.ediv_nonneg (by omega) (by omega)
  have h2:(t.c - 1) * 1000 / t.h≤(t.c - 1) * 1000:=Int.ediv_le_self _ (by omega)
  omega
theorem yv {t:Tp} (h:vT t=true):0≤ZP t∧ZP t≤2199023255552:=by have:=jW h;omega
theorem qc {t:Tp} (h:vT t=true):0≤Z1 t∧Z1 t≤2199023255552:=by
 have hv:=jd h
 unfold Z1
 have h1:0≤((t.c+1) * 1000 - 1) / t.l:=Int.ediv_nonneg (by omega) (by omega)
 have h2:((t.c+1) * 1000 - 1) / t.l≤(t.c+1) * 1000 - 1:=Int.ediv_le_self _ (by omega)
 omega
theorem jJ {n:Nat} {S:Rg} {d:Option Tmp} {x y:Operand} {p:String} {a b:Int} (hx:evS S x=some (iv a)) (hy:evS S y=some (iv b)) (hb:0 < b) (h:InR (a.tdiv b)):Zo Try.prog (frS n S) ⟨d,.binOp .quo 3 x y 3,3,p,#[],none⟩=some (iv (a.tdiv b)):=by
 have:Zo Try.prog (frS n S) ⟨d,.binOp .quo 3 x y 3,3,p,#[],none⟩=match Zz Try.prog (Op.intDiv .quo .i64 a b) with | some v=>bif flat v then some v else none | none=>none:=by unfold Zo;simp only [YC,hx,hy];rfl
 rw [this]
 unfold Op.intDiv
 rw [if_neg (by omega)]
 show some (Value.int .i64 (IntKind.i64.wrap (a.tdiv b)))=_
 rw [wrap_i64 h]
def smT:Nat→(Nat→Int)→Int
 | 0,_=>0
 | n+1,g=>smT n g+g n
theorem yF {n:Nat} {g:Nat→Int} (h:∀ i,i < n→0≤g i∧g i≤2199023255552):0≤smT n g∧smT n g≤2199023255552 * n:=by
 induction n with
 | zero=>simp [smT]
 | succ n ih=>
  have a:=ih fun i hi=>h i (by omega)
  have b:=h n (by omega)
  unfold smT
  omega
theorem qa {P:Program} {S:Rg} {H:Hp} {a b x n:Nat} {t:TypeId} {cs:List Value} {v:Value} (ha:lk S a=some (.pointer (some ⟨x,0,none⟩))) (h1:XO P t=some true) (hi:∃ i,P.info? t=some i∧i.size=n) (hl:cs.length=n) (h:Cl H x cs) (hb:lk S b=some v):Ww P S H [.cell a t,.tmp b]=some [.agg cs.toArray,v]:=by
 simp only [Ww,ha,hb,yf h1 hi h.rd hl]
def peL (l:List Tp):Int:=if l.length≤64∧l.all vT=true then smT l.length fun i=>ZP (l.getD i Tp.z) else 0
def peH (l:List Tp):Int:=if l.length≤64∧l.all vT=true then smT l.length fun i=>Z1 (l.getD i Tp.z) else 0
def peE (l:List Tp):Int:=if l.length≤64 then (if l.all vT=true then 0 else 1) else 3
theorem ZbW {l:List Tp} (h:¬ l.length≤64):peL l=0∧peH l=0∧peE l=3:=by
 unfold peL peH peE;rw [if_neg (fun q=>h q.1),if_neg (fun q=>h q.1),if_neg h];exact ⟨rfl,rfl,rfl⟩
theorem qi {l:List Tp} (h:l.length≤64) (h2:l.all vT=false):peL l=0∧peH l=0∧peE l=1:=by
 unfold peL peH peE;rw [if_neg (fun q=>by rw [h2] at q;cases q.2),if_neg (fun q=>by rw [h2] at q;cases q.2),if_pos h,if_neg (by rw [h2];simp)];exact ⟨rfl,rfl,rfl⟩
theorem qF {l:List Tp} (h:l.length≤64) (h2:l.all vT=true):peL l=(smT l.length fun i=>ZP (l.getD i Tp.z))∧peH l=(smT l.length fun i=>Z1 (l.getD i Tp.z))∧peE l=0:=by
 unfold peL peH peE;rw [if_pos ⟨h,h2⟩,if_pos ⟨h,h2⟩,if_pos h,if_pos h2];exact ⟨rfl,rfl,rfl⟩
theorem Zfb:at_ Try.f60 [1,0]=.region 1 (Zac (at_ Try.f60 [1,0])) false:=by kernel_rfl
noncomputable def R60p : List RO := [⟨(some 3), none, (.addo (.tmp 1) 0)⟩, ⟨(some 4), none, (.ld (.tmp 3) 1)⟩, ⟨(some 5), none, (.ari .sub (.tmp 4) (.const (.int .i64 1)))⟩, ⟨(some 6), none, (.ari .mul (.tmp 5) (.const (.int .i64 1000)))⟩, ⟨(some 7), none, (.addo (.tmp 1) 1)⟩, ⟨(some 8), none, (.addo (.tmp 7) 1)⟩, ⟨(some 9), none, (.ld (.tmp 8) 1)⟩, ⟨(some 10), none, (.pur ⟨(some 10), (.binOp .quo 3 (.tmp 6) (.tmp 9) 3), 3, "", #[], none⟩)⟩, ⟨(some 11), none, (.ari .add (.tmp 10) (.const (.int .i64 1)))⟩, ⟨(some 12), none, (.mm false (.const (.int .i64 0)) (.tmp 11))⟩, ⟨(some 2), none, (.mov (.tmp 12))⟩]
theorem Ze0:VM Try.prog 13 (Zac (at_ Try.f60 [1,0])).toList [7] (Zac (at_ Try.f60 [1,0])).toList 0=some R60p:=by kernel_rfl
section
variable {kn:Kn} {lo:Nat} {H:Hp}
theorem Zc9 {t:Tp} (hv:vT t=true):∃ H',FnX Try.prog kn lo 60 [.agg (Tp.f t).toArray] H (iv (ZP t)) H'∧Zf H H' []:=by
 have key:=Zdq (kn:=kn) (lo:=lo) (H:=H) (args:=[.agg (Tp.f t).toArray]) (Q:=fun w H'=>w=iv (ZP t)∧Zf H H' []) Try.func60 B60 N60 Z60 V60 (by simp) ?_
 ·obtain ⟨w,H',h,rfl,q⟩:=key;exact ⟨H',h,q⟩
 have hk:=Zf.refl H []
 have hvt:=jd hv
 have hfe:=jW hv
 refine Ze<|Ye (v:=.agg (Tp.f t).toArray) rfl ?_
 intro H1 kH1 nH1 c1
 have c1:Cl H1 H.next [iv t.c,iv t.l,iv t.h]:=c1
 have mH1:=kH1.1
 have hk:=hk.trans kH1
 refine Za rfl<|Zb ?_
 refine Zcc ?_
 refine ZaU Zfb Ze0 ?_
 refine Zn (b:=H.next) (o:=0) rfl<|ZD (b:=H.next) (o:=0) (v:=iv t.c) rfl c1.rd rfl<|Qb (a:=t.c) (b:=1) rfl rfl ⟨by omega,by omega⟩<|Q8 (a:=t.c - 1) (b:=1000) rfl rfl ⟨by omega,by omega⟩<|Zn (b:=H.next) (o:=0) rfl<|Zn (b:=H.next) (o:=1) rfl<|ZD (b:=H.next) (o:=2) (v:=iv t.h) rfl c1.rd rfl<|Zg (v:=iv (((t.c - 1) * 1000).tdiv t.h)) rfl (jJ rfl rfl (by omega) ⟨by omega,by omega⟩)<|Yw (a:=((t.c - 1) * 1000).tdiv t.h) (b:=1) rfl rfl ⟨by omega,by omega⟩<|Zco (a:=0) (b:=((t.c - 1) * 1000).tdiv t.h+1) rfl rfl<|Za rfl<|Zb ?_
 exact And.intro trivial (Exists.intro _ (And.intro rfl ⟨congrArg iv hfe.2.2,hk⟩))
theorem Zcx {t:Tp} (hv:vT t=true):∃ H',FnX Try.prog kn lo 61 [.agg (Tp.f t).toArray] H (iv (Z1 t)) H'∧Zf H H' []:=by
 have key:=Zt (kn:=kn) (lo:=lo) (H:=H) (args:=[.agg (Tp.f t).toArray]) (Q:=fun w H'=>w=iv (Z1 t)∧Zf H H' []) Try.func61 B61 N61 Z61 L61 (by simp) ?_
 ·obtain ⟨w,H',h,rfl,q⟩:=key;exact ⟨H',h,q⟩
 have hk:=Zf.refl H []
 have hvt:=jd hv
 refine Ze<|Ye (v:=.agg (Tp.f t).toArray) rfl ?_
 intro H1 kH1 nH1 c1
 have c1:Cl H1 H.next [iv t.c,iv t.l,iv t.h]:=c1
 have mH1:=kH1.1
 have hk:=hk.trans kH1
 refine Za rfl<|Zb<|Ze<|Zn (b:=H.next) (o:=0) rfl<|ZD (b:=H.next) (o:=0) (v:=iv t.c) rfl c1.rd rfl<|Yw (a:=t.c) (b:=1) rfl rfl ⟨by omega,by omega⟩<|Q8 (a:=t.c+1) (b:=1000) rfl rfl ⟨by omega,by omega⟩<|Qb (a:=(t.c+1) * 1000) (b:=1) rfl rfl ⟨by omega,by omega⟩<|Zn (b:=H.next) (o:=0) rfl<|Zn (b:=H.next) (o:=1) rfl<|ZD (b:=H.next) (o:=1) (v:=iv t.l) rfl c1.rd rfl<|yl (a:=((t.c+1) * 1000) - 1) (b:=t.l) rfl rfl (by omega) (by omega) ⟨by omega,by omega⟩<|Za rfl<|Zb ?_
 exact And.intro trivial (Exists.intro _ (And.intro rfl ⟨rfl,hk⟩))
theorem ZaX {l:List Tp} {sa:Option Addr} {n cap:Nat} (hs:Sl H sa n cap (tpc l)) (hl:l.length=n) (hn:n≤1000) (hlo:lo≤H.next) {F:FuncId} {g:Nat→Int} (hg:∀ i,i < n→0≤g i∧g i≤2199023255552)
  (hc:∀ i,i < n→∀ H1,Zf H H1 []→∃ H2,ZJ Try.prog kn lo (.fn (.func F) #[]) [.agg (Tp.f (l.getD i Tp.z)).toArray] H1 (iv (g i)) H2∧Zf H1 H2 []):∃ H',FnX Try.prog kn lo 59 [.slice sa n cap,.func (.func F) #[] #[]] H (iv (smT n g)) H'∧Zf H H' []:=by
 have key:=Zt (kn:=kn) (lo:=lo) (H:=H) (args:=[.slice sa n cap,.func (.func F) #[] #[]]) (Q:=fun w H'=>w=iv (smT n g)∧Zf H H' []) Try.func59 B59 N59 Z59 L59 (by simp) ?_
 ·obtain ⟨w,H',h,rfl,q⟩:=key;exact ⟨H',h,q⟩
 have hk:=Zf.refl H []
 refine Ze<|Za rfl<|Zb<|Ze<|Za rfl<|Zb<|Ze<|Za rfl<|YL (m:=n) rfl<|Za rfl<|Zb ?_
 refine YO (fn:=Try.f59) ZdE N59 ZeG (fun i:Nat=>[(1,.func (.func F) #[] #[]),(5,iv (smT i g)),(8,.slice sa n cap),(9,iv (n:Int)),(10,iv (i:Int))])
  (fun k i H'=>i+k=n∧Zf H H' []) n 0 ⟨by omega,hk⟩ ⟨rfl,rfl,rfl,rfl,rfl,trivial⟩ ?_
 rintro k i L1 ⟨hik,hk⟩
 have mk:=hk.1
 refine Ze<|YY (a:=(i:Int)) (b:=(n:Int)) rfl rfl<|Zb ?_
 refine And.intro (fun q1=>?_) (fun q1=>?_)
 ·have q1:(i:Int) < (n:Int):=of_decide_eq_true q1
  have hi:i < n:=by omega
  have ss0:=hk.sl0 hs
  rcases id ss0 with ⟨_,h0s,_⟩ | ⟨sb,es,rs,_⟩
  ·omega
  have ls:=rs.1
  have fs:=hs.old
  have hsm:=yF (n:=i) (g:=g) fun j hj=>hg j (by omega)
  have hgi:=hg i hi
  first | refine ZK ?_ | skip
  refine Ze<|XH (b:=sb) (o:=0) (k:=i) (j:=(i:Int)) (by rw [← es];rfl) rfl rfl hi<|Z3 (b:=sb) (o:=0+i * 3) rfl rs (Ji (by omega))<|Xw ?_
  intro H1 kH1 nH1 c1
  have c1:Cl H1 L1.next [iv 0,iv 0,iv 0]:=c1
  have mH1:=kH1.1
  have hk:=hk.trans kH1
  have rs:=kH1.rd rs (by simp)
  refine Xz (b:=L1.next) (o:=0) rfl rfl c1 (by omega) rfl rfl (by simp) ?_
  intro H2 kH2 nH2 sH2
  have mH2:=kH2.1
  have hk:=hk.new kH2 (fun b hb=>by simp at hb ⊢;omega)
  have rs:=kH2.rd rs (by first | (simp;done) | (simp;omega))
  have c1:Cl H2 L1.next [iv ((l.getD i Tp.z).c),iv ((l.getD i Tp.z).l),iv ((l.getD i Tp.z).h)]:=sH2
  refine Zb ?_
  show Zw _ _ _ _ _ _ _ _
  refine Za rfl<|Za rfl<|Z3 (b:=L1.next) (o:=0) rfl c1.rd (show row 3 _ _=some [iv ((l.getD i Tp.z).c),iv ((l.getD i Tp.z).l),iv ((l.getD i Tp.z).h)] from rfl) ?_
  obtain ⟨H3,fH3,kH3⟩:=hc i hi H2 hk
  refine Zq (v:=iv (g i)) (vs:=[.agg (Tp.f (l.getD i Tp.z)).toArray]) rfl fH3 ?_
  have mH3:=kH3.1
  have hk:=hk.trans kH3
  have rs:=kH3.rd rs (by simp)
  have c1:=kH3.cl c1 (by simp)
  refine Yw (a:=(smT i g)) (b:=(g i)) rfl rfl ⟨by omega,by omega⟩<|Za rfl<|Zb ?_
  show Zw _ _ _ _ _ _ _ _
  refine Yw (a:=(i:Int)) (b:=1) rfl rfl ⟨by omega,by omega⟩<|Za rfl<|Zb ?_
  exact ⟨k - 1,i+1,by omega,⟨by omega,hk⟩,rfl,rfl,rfl,rfl,rfl,trivial⟩
 ·have q1:¬ ((i:Int) < (n:Int)):=of_decide_eq_false q1
  first | (refine Vb ?_;show wC _ _ _ _ _ _ _ _ _) | skip
  refine Ze<|Za rfl<|Za rfl<|Zb ?_
  have ein:i=n:=by omega
  exact And.intro trivial (Exists.intro _ (And.intro rfl ⟨by rw [ein];rfl,hk⟩))
theorem JE {l:List Tp} {sa:Option Addr} {n cap:Nat} (hs:Sl H sa n cap (tpc l)) (hl:l.length=n) (hn:n≤1000) (hlo:lo≤H.next):∃ H',FnX Try.prog kn lo 29 [.slice sa n cap] H (.tuple #[.agg #[iv (peL l),iv (peH l)],iv (peE l)]) H'∧Zf H H' []:=by
 have key:=Zt (kn:=kn) (lo:=lo) (H:=H) (args:=[.slice sa n cap]) (Q:=fun w H'=>w=(.tuple #[.agg #[iv (peL l),iv (peH l)],iv (peE l)])∧Zf H H' []) Try.func29 B29 N29 Z29 L29 (by simp) ?_
 ·obtain ⟨w,H',h,rfl,q⟩:=key;exact ⟨H',h,q⟩
 have hk:=Zf.refl H []
 refine Ze<|Xw ?_
 intro H1 kH1 nH1 c1
 have c1:Cl H1 H.next [iv 0,iv 0]:=c1
 have mH1:=kH1.1
 have hk:=hk.trans kH1
 refine Za rfl<|Zb<|Ze<|Za rfl<|YL (m:=n) rfl<|zp (a:=(n:Int)) (b:=64) rfl rfl<|Zb ?_
 refine And.intro (fun q1=>?_) (fun q1=>?_)
 ·have q1:(n:Int) > 64:=of_decide_eq_true q1
  refine Ze<|Zg (v:=.agg #[iv 0,iv 0]) rfl (by kernel_rfl)<|Xz (b:=H.next) (o:=0) rfl rfl c1 (by omega) rfl rfl (by simp) ?_
  intro H2 kH2 nH2 sH2
  have mH2:=kH2.1
  have hk:=hk.new kH2 (fun b hb=>by simp at hb ⊢;omega)
  have c1:Cl H2 H.next [iv 0,iv 0]:=sH2
  refine Za rfl<|Zb ?_
  have hpe:=ZbW (l:=l) (by omega)
  exact And.intro trivial (Exists.intro _ (And.intro (qa rfl a46 Zc7 rfl c1 rfl) ⟨by rw [hpe.1,hpe.2.1,hpe.2.2];rfl,hk⟩))
 ·have q1:¬ ((n:Int) > 64):=of_decide_eq_false q1
  first | refine ZK ?_ | skip
  refine Ze<|Za rfl ?_
  obtain ⟨H3,fH3,kH3⟩:=Za8 (kn:=kn) (lo:=lo) (H:=H1) (hk.sl0 hs) hl (by omega) (by omega) (F:=58) (gc:=#[]) (ok:=fun i=>vT (l.getD i Tp.z)) (fun i hi H9 k9=>by
   obtain ⟨H8,f8,k8⟩:=Zer (kn:=kn) (lo:=lo) (H:=H9) (t:=l.getD i Tp.z)
   exact ⟨H8,ZV rfl (by simpa using f8),k8⟩)
  rw [← hl,XE (p:=vT),hl] at fH3
  have mH3:=kH3.1
  have hk:=hk.trans kH3
  have c1:=kH3.cl c1 (by simp)
  cases hal:l.all vT
  ·rw [hal] at fH3
   refine Zq (v:=.bool false) (vs:=[.slice sa n cap,.func (.func 58) #[] #[]]) rfl (Zk fH3)<|Zg (v:=.bool true) rfl rfl<|Zb<|YN<|Ze<|Zg (v:=.agg #[iv 0,iv 0]) rfl (by kernel_rfl)<|Xz (b:=H.next) (o:=0) rfl rfl c1 (by omega) rfl rfl (by simp) ?_
   intro H4 kH4 nH4 sH4
   have mH4:=kH4.1
   have hk:=hk.new kH4 (fun b hb=>by simp at hb ⊢;omega)
   have c1:Cl H4 H.next [iv 0,iv 0]:=sH4
   refine Za rfl<|Zb ?_
   have hpe:=qi (l:=l) (by omega) hal
   exact And.intro trivial (Exists.intro _ (And.intro (qa rfl a46 Zc7 rfl c1 rfl) ⟨by rw [hpe.1,hpe.2.1,hpe.2.2];rfl,hk⟩))
  ·rw [hal] at fH3
   refine Zq (v:=.bool true) (vs:=[.slice sa n cap,.func (.func 58) #[] #[]]) rfl (Zk fH3)<|Zg (v:=.bool false) rfl rfl<|Zb<|YI ?_
   first | refine ZK ?_ | skip
   refine Ze<|Za rfl ?_
   obtain ⟨H5,fH5,kH5⟩:=ZaX (kn:=kn) (lo:=lo) (H:=H3) (hk.sl0 hs) hl hn (by omega) (F:=60) (g:=fun i=>ZP (l.getD i Tp.z)) (fun i hi=>yv (XZ hal (by omega))) (fun i hi H9 k9=>by
    obtain ⟨H8,f8,k8⟩:=Zc9 (kn:=kn) (lo:=lo) (H:=H9) (XZ (z:=Tp.z) hal (show i < l.length by omega))
    exact ⟨H8,ZV rfl (by simpa using f8),k8⟩)
   refine Zq (v:=iv (smT n fun i=>ZP (l.getD i Tp.z))) (vs:=[.slice sa n cap,.func (.func 60) #[] #[]]) rfl (Zk fH5) ?_
   have mH5:=kH5.1
   have hk:=hk.trans kH5
   have c1:=kH5.cl c1 (by simp)
   refine Za rfl ?_
   obtain ⟨H6,fH6,kH6⟩:=ZaX (kn:=kn) (lo:=lo) (H:=H5) (hk.sl0 hs) hl hn (by omega) (F:=61) (g:=fun i=>Z1 (l.getD i Tp.z)) (fun i hi=>qc (XZ hal (by omega))) (fun i hi H9 k9=>by
    obtain ⟨H8,f8,k8⟩:=Zcx (kn:=kn) (lo:=lo) (H:=H9) (XZ (z:=Tp.z) hal (show i < l.length by omega))
    exact ⟨H8,ZV rfl (by simpa using f8),k8⟩)
   refine Zq (v:=iv (smT n fun i=>Z1 (l.getD i Tp.z))) (vs:=[.slice sa n cap,.func (.func 61) #[] #[]]) rfl (Zk fH6) ?_
   have mH6:=kH6.1
   have hk:=hk.trans kH6
   have c1:=kH6.cl c1 (by simp)
   refine Zg (v:=.agg #[iv (smT n fun i=>ZP (l.getD i Tp.z)),iv (smT n fun i=>Z1 (l.getD i Tp.z))]) rfl (by kernel_rfl)<|Xz (b:=H.next) (o:=0) rfl rfl c1 (by omega) rfl rfl (by simp) ?_
   intro H7 kH7 nH7 sH7
   have mH7:=kH7.1
   have hk:=hk.new kH7 (fun b hb=>by simp at hb ⊢;omega)
   have c1:Cl H7 H.next [iv (smT n fun i=>ZP (l.getD i Tp.z)),iv (smT n fun i=>Z1 (l.getD i Tp.z))]:=sH7
   refine Za rfl<|Zb ?_
   have hpe:=qF (l:=l) (by omega) hal
   exact And.intro trivial (Exists.intro _ (And.intro (qa rfl a46 Zc7 rfl c1 rfl) ⟨by rw [hpe.1,hpe.2.1,hpe.2.2];rw [hl];rfl,hk⟩))
end
end
end Go.Ax

/-! Drawn regions whose values are told by the run: calls that come to one of several ends. Pieces of code over the machine. -/
namespace Go.Ax
open Go Go.RowKit
section
variable {P:Program} {kn:Kn} {lo n:Nat} {rd:Bool}
end
end Go.Ax

/-! Sets of jobs as_ bits (no program in it). -/
namespace Go.Ax
def pc8 (s:Nat):Nat:=((List.range 8).filter fun k=>s.testBit k).length
theorem qV {p:Nat→Int} {d:Int} {j:Nat}:∀ {m:Nat},j≤m→((List.range m).filter fun k=>decide (k < j) && decide (p k=d)).length=cnQ j p d:=by
 intro m h
 induction h with
 | refl=>
  unfold cnQ
  congr 1
  apply List.filter_congr
  intro k hk
  have:=List.mem_range.1 hk
  simp [this]
 | step h ih=>
  rename_i m
  rw [List.range_succ,List.filter_append,List.length_append,ih]
  have:¬ m < j:=by have:j≤m:=h;omega
  simp [this]
theorem Zb7 {s j:Nat} {p:Nat→Int} {d:Int} (h:∀ b,s.testBit b=true↔b < j∧p b=d) (hj:j≤8):pc8 s=cnQ j p d:=by
 rw [← qV hj]
 unfold pc8
 congr 1
 apply List.filter_congr
 intro k _
 rw [Bool.eq_iff_iff,h k]
 simp
def JP (j:Nat) (B p:Nat→Int) (cr bed d:Int) (s:Nat):Prop:=
 (∃ k,k < j∧B k=bed∧p k=d∧s=2 ^ k)∨
  ((∀ k,k < j→B k=bed→p k≠d)∧∃ t,(∀ b,t.testBit b=true↔b < j∧p b=d)∧t < 256∧s=if (cnQ j p d:Int) < cr then 0 else t)
section
variable {n j:Nat} {D:Nat→List Int} {B p q:Nat→Int} {cr lim d:Int} {s:Nat}
theorem JP.lt (h:JP j B p cr (B j) d s) (hj:j≤8):s < 256:=by
 rcases h with ⟨k,hk,_,_,rfl⟩ | ⟨_,t,_,h2,rfl⟩
 ·exact Nat.lt_of_lt_of_le (Nat.pow_lt_pow_right (by omega) (by omega:k < 8)) (by decide)
 ·split<;>omega
theorem JP.low (h:JP j B p cr (B j) d s):∀ b,s.testBit b=true→b < j:=by
 intro b hb
 rcases h with ⟨k,hk,_,_,rfl⟩ | ⟨_,t,h1,_,rfl⟩
 ·rw [Nat.testBit_two_pow] at hb;have:=of_decide_eq_true hb;omega
 ·split at hb
  ·rw [Nat.zero_testBit] at hb;cases hb
  ·exact ((h1 b).1 hb).1
theorem JP.no (h:JP j B p cr (B j) d s) (hj:j < n) (hs:s≠0) (hq:OkQ n D B cr lim q) (ha:∀ b,s.testBit b=true→q b=p b):q j≠d:=by
 rcases h with ⟨k,hk,h1,h2,rfl⟩ | ⟨_,t,h1,_,rfl⟩
 ·exact jE hk hj h1 h2 hq (ha k (by rw [Nat.testBit_two_pow];simp))
 ·by_cases c:(cnQ j p d:Int) < cr
  ·rw [if_pos c] at hs;exact absurd rfl hs
  ·rw [if_neg c] at ha
   exact yE hj (by omega) hq fun b hb hp=>ha b ((h1 b).2 ⟨hb,hp⟩)
theorem JP.yes (h:JP j B p cr (B j) d 0) (hcr:1≤cr):(∀ k,k < j→B k=B j→p k≠d)∧(cnQ j p d:Int) < cr:=by
 rcases h with ⟨k,hk,h1,h2,e⟩ | ⟨h0,t,h1,_,e⟩
 ·have:=Nat.pow_pos (n:=k) (show 0 < 2 by omega);omega
 ·refine ⟨h0,?_⟩
  by_cases c:(cnQ j p d:Int) < cr
  ·exact c
  ·exfalso
   rw [if_neg c] at e
   have hz:∀ b,b < j→p b≠d:=fun b hb hp=>by
    have:=(h1 b).2 ⟨hb,hp⟩
    rw [← e,Nat.zero_testBit] at this;cases this
   have:cnQ j p d=0:=by
    unfold cnQ
    rw [List.length_eq_zero_iff,List.filter_eq_nil_iff]
    intro k hk
    have:=hz k (List.mem_range.1 hk)
    simp [this]
   omega
theorem XT.riv {i s2:Nat} (h:XT n D B cr lim j p (fun b=>s.testBit b) i) (hi:i < (D j).length) (hj:j < n) (hr:JP j B p cr (B j) ((D j).getD i 0) s2) (h0:s2≠0):XT n D B cr lim j p (fun b=>(s ||| s2).testBit b) (i+1):=by
 refine h.next hi (fun b hb=>?_) (fun b hb=>?_) fun q hq ha=>hr.no hj h0 hq fun b hb=>ha b ?_
 ·show (s ||| s2).testBit b=true
  rw [Nat.testBit_or,show s.testBit b=true from hb];rfl
 ·have hb:(s ||| s2).testBit b=true:=hb
  rw [Nat.testBit_or,Bool.or_eq_true] at hb
  rcases hb with hb | hb
  ·exact h.1 b hb
  ·exact hr.low b hb
 ·show (s ||| s2).testBit b=true
  rw [Nat.testBit_or,hb,Bool.or_true]
end
end Go.Ax

/-
 Pool: maps whose keys are two numbers;drawn regions (written by program).
-/
namespace Go.Ax
open Go Go.RowKit Go.Proofs

noncomputable section
section
variable {P:Program} {kn:Kn} {lo n:Nat} {α:Type} [DecidableEq α] {enc:α→Value} {masks:List Nat} {ks:List Kd} {r:List RO} {S:Rg} {H:Hp} {K:Rg→Hp→Prop} {d:Option Nat}
theorem Zbs {o:Oper} {H':Hp} {b:Nat} (hd:We S o.op.operands.toList=true) (hp:Zo P (frS n S) o=none) (hh:Zu P lo (frS n S) H o=some (.skip H',.store b))
  (h:Zx P kn lo n masks r (.store b :: ks) (Zv S d undef) H' K):Zx P kn lo n masks (⟨d,none,.mst o⟩ :: r) ks S H K:=⟨hd,hp,H',.store b,hh,h⟩
theorem jt {tm tk te:TypeId} (k:Xc P tk enc) (hu:P.underlying tm=some (.map tk te)) {b c:Nat} {L:ML α} {a:α} {v:Value} (hm:Mpa enc H b L c) (hl:lo≤b) (hf:flat v=true) :
  ∃ H',(∀ (S:Rg) (n:Nat) x y w dd ty p,evS S x=some (.map (some b))→evS S y=some (enc a)→evS S w=some v→Zu P lo (frS n S) H ⟨dd,.mapUpdate tm x y w,ty,p,#[],none⟩=some (.skip H',.store b))∧Zf H H' [b]∧H'.next=H.next∧Mpa enc H' b (YW a v c L) (YR a c L):=by
 obtain ⟨k1,k2⟩:=Vp (H:=H) (b:=b) (o:=.mp (mEs enc (YW a v c L)) (YR a c L)) (fun cs e=>by cases e)
 exact ⟨_,fun S n x y w dd ty p hx hy hw=>Zay k hu hx hy hw hm hl hf,k1,rfl,hm.1,k2⟩
end
theorem UX {P:Program} {d:Nat} {t:TypeId} {xs ys:Array Value} {fs:Array Field} (hu:Zz P (underlying t)=some (.struct fs)) (hp:P.stoodInHeld t=false) (g:Field→Bool)
  (hf : ∀ f ∈ fs.toList, f.name ≠ "_" ∧ ∃ u v, Zz P (part f.type xs f.offset) = some u ∧ Zz P (part f.type ys f.offset) = some v ∧ Zz P (Op.equalIn d f.type u v) = some (g f)) :
  Zz P (Op.equalIn (d+1) t (.agg xs) (.agg ys))=some (fs.toList.all g):=by
 simp only [Op.equalIn,YD,hu,Option.bind_some,show Zz P program=some P from rfl,hp,Bool.false_eq_true,if_false]
 rw [← Array.forIn_toList]
 generalize fs.toList=l at hf
 induction l with
 | nil=>rfl
 | cons f l ih=>
  obtain ⟨hn,u,v,h1,h2,h3⟩:=hf f (by simp)
  have ih:=ih (fun g hg=>hf g (by simp [hg]))
  simp only [List.forIn_cons,YD,ZcJ]
  rw [if_pos hn]
  cases hg:g f with
  | true=>
   simp only [h1,h2,h3,hg,Option.bind_some,Bool.not_true,Bool.false_eq_true,if_false,Xr,List.all_cons,Bool.true_and]
   exact ih
  | false=>
   simp only [h1,h2,h3,hg,Option.bind_some,Bool.not_false,if_true,Xr,List.all_cons,Bool.false_and]
theorem Js {d:Nat} {x y:Int}:Zz Try.prog (Op.equalIn (d+1) 3 (iv x) (iv y))=some (decide (x=y)):=by
 have h:Zz Try.prog (Op.equalIn (d+1) 3 (iv x) (iv y))=some (x == y):=by kernel_rfl
 rw [h]
 by_cases e:x=y<;>simp [e]
def VE (P:Program) (t:TypeId):Array Field:=
 match P.underlying t with
 | some (.struct fs)=>fs
 | _=>#[]
theorem all_map {β γ:Type} (l:List β) (f:β→γ) (g:γ→Bool):l.all (fun x=>g (f x))=(l.map f).all g:=by
 induction l with
 | nil=>rfl
 | cons a l ih=>simp [ih]
theorem K8:Try.prog.underlying 121=some (.map 123 3):=by kernel_rfl
theorem ZcZ:Try.prog.underlying 125=some (.map 130 3):=by kernel_rfl
theorem z6:Zz Try.prog (zeroValue 3)=some (iv 0):=by kernel_rfl
abbrev Se:=Int × Int
def seV (p:Se):Value:=.agg #[iv p.1,iv p.2]
theorem Zcq (l:List Int):Instr.sameBits 10000 (.agg (l.map iv).toArray) (.agg (l.map iv).toArray)=true:=by
 show ((l.map iv).toArray.size == (l.map iv).toArray.size && ((l.map iv).toArray.toList.zip (l.map iv).toArray.toList).all fun (x:Value × Value)=>Instr.sameBits 9999 x.1 x.2)=true
 rw [beq_self_eq_true,Bool.true_and]
 simp only []
 induction l with
 | nil=>rfl
 | cons a l ih=>
  simp only [List.map_cons,List.zip_cons_cons,List.all_cons]
  rw [ih,Bool.and_true]
  show (IntKind.i64 == IntKind.i64 && a == a)=true
  simp
theorem j4:Try.prog.underlying 123=some (.struct (VE Try.prog 123)):=by kernel_rfl
theorem Zcd : (VE Try.prog 123).toList.map (fun f => (f.type, f.offset, f.name == "_")) = [(3, 0, false), (3, 1, false)] := by kernel_rfl
theorem Zek:Program.stoodInHeld Try.prog 123=false:=by kernel_rfl
set_option maxRecDepth 100000 in
theorem Zeq {d:Nat} (a b:Se):Zz Try.prog (Op.equalIn (d+2) 123 (seV a) (seV b))=some (decide (a=b)):=by
 have h:=UX (d:=d+1) (xs:=#[iv a.1,iv a.2]) (ys:=#[iv b.1,iv b.2]) (X9 j4) Zek
  (fun f => (fun q : TypeId × Nat × Bool => if q.2.1 = 0 then decide (a.1 = b.1) else decide (a.2 = b.2)) (f.type, f.offset, f.name == "_")) (by
   intro f hf
   have h : (f.type, f.offset, f.name == "_") ∈ [(3, 0, false), (3, 1, false)] := by rw [← Zcd]; exact List.mem_map.mpr ⟨f, hf, rfl⟩
   simp only [List.mem_cons,List.not_mem_nil,or_false,Prod.mk.injEq] at h
   rcases h with ⟨h1,h2,h3⟩ | ⟨h1,h2,h3⟩<;>(refine ⟨by intro e;rw [e] at h3;simp at h3,?_⟩;rw [h1,h2])
   ·exact ⟨iv a.1,iv b.1,by kernel_rfl,by kernel_rfl,Js⟩
   ·exact ⟨iv a.2,iv b.2,by kernel_rfl,by kernel_rfl,Js⟩)
 rw [all_map (VE Try.prog 123).toList (fun f => (f.type, f.offset, f.name == "_")) (fun q : TypeId × Nat × Bool => if q.2.1 = 0 then decide (a.1 = b.1) else decide (a.2 = b.2)), Zcd] at h
 unfold seV
 rw [show d+2=d+1+1 from rfl,h]
 congr 1
 obtain ⟨a1,a2⟩:=a
 obtain ⟨b1,b2⟩:=b
 by_cases e1:a1=b1<;>by_cases e2:a2=b2<;>simp [e1,e2]
theorem K3:Xc Try.prog 123 seV where
 fl:=fun _=>rfl
 chk:=fun a e=>by
  have:∀ x y:Int,Zz Try.prog (Instr.checkKey e 10000 123 (.agg #[iv x,iv y]))=some ():=fun x y=>by kernel_rfl
  exact this _ _
 now:=⟨_,j4,.inr ⟨fun _ _=>rfl,fun a b=>Zeq (d:=9998) a b⟩⟩
 bits:=fun a=>Zcq [a.1,a.2]
theorem Zap:Try.prog.underlying 130=some (.struct (VE Try.prog 130)):=by kernel_rfl
theorem Zci : (VE Try.prog 130).toList.map (fun f => (f.type, f.offset, f.name == "_")) = [(3, 0, false), (3, 1, false)] := by kernel_rfl
theorem Zd9:Program.stoodInHeld Try.prog 130=false:=by kernel_rfl
set_option maxRecDepth 100000 in
theorem ZdW {d:Nat} (a b:Se):Zz Try.prog (Op.equalIn (d+2) 130 (seV a) (seV b))=some (decide (a=b)):=by
 have h:=UX (d:=d+1) (xs:=#[iv a.1,iv a.2]) (ys:=#[iv b.1,iv b.2]) (X9 Zap) Zd9
  (fun f => (fun q : TypeId × Nat × Bool => if q.2.1 = 0 then decide (a.1 = b.1) else decide (a.2 = b.2)) (f.type, f.offset, f.name == "_")) (by
   intro f hf
   have h : (f.type, f.offset, f.name == "_") ∈ [(3, 0, false), (3, 1, false)] := by rw [← Zci]; exact List.mem_map.mpr ⟨f, hf, rfl⟩
   simp only [List.mem_cons,List.not_mem_nil,or_false,Prod.mk.injEq] at h
   rcases h with ⟨h1,h2,h3⟩ | ⟨h1,h2,h3⟩<;>(refine ⟨by intro e;rw [e] at h3;simp at h3,?_⟩;rw [h1,h2])
   ·exact ⟨iv a.1,iv b.1,by kernel_rfl,by kernel_rfl,Js⟩
   ·exact ⟨iv a.2,iv b.2,by kernel_rfl,by kernel_rfl,Js⟩)
 rw [all_map (VE Try.prog 130).toList (fun f => (f.type, f.offset, f.name == "_")) (fun q : TypeId × Nat × Bool => if q.2.1 = 0 then decide (a.1 = b.1) else decide (a.2 = b.2)), Zci] at h
 unfold seV
 rw [show d+2=d+1+1 from rfl,h]
 congr 1
 obtain ⟨a1,a2⟩:=a
 obtain ⟨b1,b2⟩:=b
 by_cases e1:a1=b1<;>by_cases e2:a2=b2<;>simp [e1,e2]
theorem Ja:Xc Try.prog 130 seV where
 fl:=fun _=>rfl
 chk:=fun a e=>by
  have:∀ x y:Int,Zz Try.prog (Instr.checkKey e 10000 130 (.agg #[iv x,iv y]))=some ():=fun x y=>by kernel_rfl
  exact this _ _
 now:=⟨_,Zap,.inr ⟨fun _ _=>rfl,fun a b=>ZdW (d:=9998) a b⟩⟩
 bits:=fun a=>Zcq [a.1,a.2]
section
variable {P:Program} {kn:Kn} {lo n:Nat}
theorem K0 {rd:Bool} {x y:RC} {S:Rg} {H:Hp} {K:Exit→Rg→Hp→Prop} (h:wCM P kn lo n rd x S H fun e S' H'=>match e with | .normal=>wCM P kn lo n rd y S' H' K | e=>K e S' H'):wCM P kn lo n rd (.seq x y) S H K:=h
theorem jY {rd:Bool} {id:Nat} {b:RC} {S:Rg} {H:Hp} {K:Exit→Rg→Hp→Prop} (h:wCM P kn lo n rd b S H fun e S' H'=>match e with | .exit j=>(bif Nat.beq j id then K .normal S' H' else K (.exit j) S' H') | e=>K e S' H'):wCM P kn lo n rd (.block id b) S H K:=h
theorem WD {o:RO} {S:Rg} {H:Hp} {K:Rg→Hp→Prop} (h:Zp P kn lo n [o] S H K):XF P kn lo n S H o K:=h
theorem Zbu {rd:Bool} {ops:List RO} {ms:List Nat} {S:Rg} {H:Hp} {K:Exit→Rg→Hp→Prop} (h:wDI P kn lo n ms ops S H fun S' H'=>K .normal S' H'):wCM P kn lo n rd (.dreg ops ms) S H K:=.inr (.inr h)
theorem KD.own {ops:List RO} {V:Nat→Value} {done:Nat→Bool} {S S':Rg} (h:KD ops V done S S') (i:Nat) {d:Nat} {v:Value} (hi:(ops[i]?).map (·.dst)=some (some d)) (hd:done i=true) (hv:V i=v):lk S' d=some v:=by
 cases ho:ops[i]? with
 | none=>rw [ho] at hi;cases hi
 | some o=>rw [ho] at hi;rw [← hv];exact h.1 i o d ho (by simpa using hi) hd
theorem KD.old {ops:List RO} {V:Nat→Value} {done:Nat→Bool} {S S':Rg} (h:KD ops V done S S') {j:Nat} {v:Value} (hv:lk S j=some v) (hj:(ops.all fun o=>!(o.dst == some j))=true):lk S' j=some v:=
 h.2 j v hv fun o ho e=>by have:=List.all_eq_true.1 hj o ho;rw [e] at this;simp at this
end
section
variable {P:Program} {kn:Kn} {lo n:Nat} {r:List RO} {S:Rg} {H:Hp} {K:Rg→Hp→Prop} {d:Option Nat} {rd:Bool} {masks:List Nat}
theorem qR {ops:List RO} {c:RC} {K:Exit→Rg→Hp→Prop} (h:Zx P kn lo n masks ops [] S H fun S' H'=>wCM P kn lo n rd c S' H' K):wCM P kn lo n rd (.seq (.dreg ops masks) c) S H K:=.inl h
theorem zO (s:Snd P kn) {c:Call} {f:FuncId} {v:Value} {args:List Value} {t0:Bool} (ht:Xp S c=some (.fn (.func f) #[],v :: args)) (h:∃ H',FnX P kn lo f (v :: args) H (.bool t0) H'∧Zf H H' [])
  (hk:∀ t H',t0=t→Zf H H' []→Zp P kn lo n r (Zv S d (.bool t)) H' K) (hs:XK f=false:=by rfl):Zp P kn lo n (⟨d,none,.call c true⟩ :: r) S H K:=by
 obtain ⟨H',hf,k⟩:=h
 exact Z4 s ht (Zk hf hs) (hk t0 H' rfl k)
end
theorem Ka {done:Nat→Bool} {i j:Nat} (h:done j=true):U0 done i j=true:=by
 unfold U0;rw [h];cases Nat.beq j i<;>rfl
theorem J2 {done:Nat→Bool} {i:Nat}:U0 done i i=true:=by
 unfold U0;rw [Nat.beq_refl];rfl
theorem Ws {done:Nat→Bool} {i n:Nat} (hi:Nat.beq n i=false) (h:done n=true→∀ j,j < n→done j=true):U0 done i n=true→∀ j,j < n→U0 done i j=true:=by
 intro q j hj
 unfold U0 at q
 rw [hi] at q
 exact Ka (h q j hj)
theorem qD {done:Nat→Bool} {st:Nat} (hall:done st=true→∀ j,j < st→done j=true) (i:Nat) (hi:i < st) (h:done i=false):done st=false:=by
 cases q:done st with
 | false=>rfl
 | true=>rw [hall q i hi] at h;cases h
theorem Zej {S:Rg} {x:Operand} {a:Value} (hx:evS S x=some a):We S [x]=true:=by simp [We,hx]
def Rm (L:ML Se) (R:Se→Int):Prop:=∀ x,(ZQ x L).getD (iv 0)=iv (R x)
def Zbd (R:Se→Int) (x:Se) (v:Int):Se→Int:=fun y=>if y=x then v else R y
theorem Rm.put {L:ML Se} {R:Se→Int} (h:Rm L R) (x:Se) (v:Int) (c:Nat):Rm (YW x (iv v) c L) (Zbd R x v):=by
 intro y
 rw [QN]
 unfold Zbd
 split
 ·rfl
 ·exact h y
theorem Rm.congr {L:ML Se} {R R2:Se→Int} (h:Rm L R) (e:∀ x,R x=R2 x):Rm L R2:=fun x=>by rw [h x,e x]
end
end Go.Ax

/-
 Pool: no bed gets a product too often;a yard is valid (74,40) (written by program).
-/
namespace Go.Ax
open Go Go.RowKit Go.Proofs

noncomputable section
def cnU (l:List Jb) (b p:Int):Nat:=(l.filter fun k=>decide (k.b=b) && decide (k.p=p)).length
theorem Zdb {l:List Jb} {j:Jb}:usN l j=cnU l j.b j.p:=rfl
theorem yO {l:List Jb} {i:Nat} (h:i < l.length):l.take (i+1)=l.take i ++ [l.getD i Jb.z]:=by
 rw [List.take_add_one,List.getElem?_eq_getElem h,List.getD_eq_getElem?_getD,List.getElem?_eq_getElem h];rfl
theorem ZaJ {l:List Jb} {i:Nat} {b p:Int} (h:i < l.length):cnU (l.take (i+1)) b p=cnU (l.take i) b p+(if (l.getD i Jb.z).b=b∧(l.getD i Jb.z).p=p then 1 else 0):=by
 unfold cnU
 rw [yO h,List.filter_append,List.length_append]
 congr 1
 by_cases q:(l.getD i Jb.z).b=b∧(l.getD i Jb.z).p=p
 ·rw [if_pos q,List.filter_cons,if_pos (by simp only [Bool.and_eq_true,decide_eq_true_eq];exact q)];rfl
 ·rw [if_neg q,List.filter_cons,if_neg (by simp only [Bool.and_eq_true,decide_eq_true_eq];exact q)];rfl
theorem Zax {l:List Jb} {i:Nat} {b p:Int}:cnU (l.take i) b p≤cnU l b p:=by
 unfold cnU
 conv=>rhs;rw [← List.take_append_drop i l,List.filter_append,List.length_append]
 omega
theorem Zcb {l:List Jb} {b p:Int}:cnU l b p≤l.length:=List.length_filter_le _ _
def cnR (l:List Jb) (i:Nat) (x:Se):Int:=(cnU (l.take i) x.1 x.2:Nat)
theorem ZeH {l:List Jb} {i:Nat} (h:i < l.length) (x:Se):Zbd (cnR l i) ((l.getD i Jb.z).b,(l.getD i Jb.z).p) (cnR l i ((l.getD i Jb.z).b,(l.getD i Jb.z).p)+1) x=cnR l (i+1) x:=by
 obtain ⟨b,p⟩:=x
 unfold Zbd cnR
 rw [ZaJ h]
 by_cases q:(l.getD i Jb.z).b=b∧(l.getD i Jb.z).p=p
 ·rw [if_pos q,if_pos (by rw [q.1,q.2]),q.1,q.2];simp
 ·rw [if_neg q,if_neg (fun e=>q ⟨by rw [Prod.mk.injEq] at e;exact e.1.symm,by rw [Prod.mk.injEq] at e;exact e.2.symm⟩)];simp
theorem Zc3 {l:List Jb} {i:Nat} {x:Se}:0≤cnR l i x∧cnR l i x≤l.length:=by
 unfold cnR
 have:=Zax (l:=l) (i:=i) (b:=x.1) (p:=x.2)
 have:=Zcb (l:=l) (b:=x.1) (p:=x.2)
 omega
def usI (y:Yd) (i:Nat):Prop:=∀ k,k < i→(cnU (y.js.take i) (y.js.getD k Jb.z).b (y.js.getD k Jb.z).p:Int)≤(jP y (y.js.getD k Jb.z)).us
theorem Zew {y:Yd} {i:Nat} (h:usI y i) (hi:i < y.js.length) (hc:cnR y.js (i+1) ((y.js.getD i Jb.z).b,(y.js.getD i Jb.z).p)≤(jP y (y.js.getD i Jb.z)).us):usI y (i+1):=by
 intro k hk
 rw [ZaJ hi]
 by_cases q:(y.js.getD i Jb.z).b=(y.js.getD k Jb.z).b∧(y.js.getD i Jb.z).p=(y.js.getD k Jb.z).p
 ·have e:jP y (y.js.getD k Jb.z)=jP y (y.js.getD i Jb.z):=by unfold jP;rw [q.2]
  rw [e]
  unfold cnR at hc
  rw [ZaJ hi] at hc
  simp only [q.1,q.2] at hc ⊢
  exact hc
 ·rw [if_neg q]
  by_cases e:k=i
  ·subst e;exact absurd ⟨rfl,rfl⟩ q
  ·have:=h k (by omega);simpa using this
theorem ZcE {y:Yd} (h:usI y y.js.length):vU y=true:=by
 unfold vU
 refine ZbE (z:=Jb.z) fun i hi=>?_
 have:=h i hi
 rw [List.take_length] at this
 exact decide_eq_true this
theorem ZdA {y:Yd} {i:Nat} (hi:i < y.js.length) (h:¬ cnR y.js (i+1) ((y.js.getD i Jb.z).b,(y.js.getD i Jb.z).p)≤(jP y (y.js.getD i Jb.z)).us):vU y=false:=by
 unfold vU
 refine ZcC (z:=Jb.z) (i:=i) hi (decide_eq_false fun q=>h ?_)
 rw [Zdb] at q
 have:=Zax (l:=y.js) (i:=i+1) (b:=(y.js.getD i Jb.z).b) (p:=(y.js.getD i Jb.z).p)
 have e:cnR y.js (i+1) ((y.js.getD i Jb.z).b,(y.js.getD i Jb.z).p)=(cnU (y.js.take (i+1)) (y.js.getD i Jb.z).b (y.js.getD i Jb.z).p:Nat):=rfl
 rw [e]
 omega
section
variable {kn:Kn} {lo:Nat} {H:Hp}
set_option maxRecDepth 100000 in
set_option maxHeartbeats 1000000 in
theorem Zef (s:Snd Try.prog kn) {a:Ya} {y:Yd} (hy:YaH H a y) (hB:YaB y) (hJ:∀ i,i < y.js.length→0≤(y.js.getD i Jb.z).p∧(y.js.getD i Jb.z).p < y.ps.length) (hlo:lo≤H.next) :
  FnM Try.prog lo 74 [.agg (Ya.f a y).toArray] H fun v H'=>v=.bool (vU y)∧Zf H H' []:=by
 refine WA s Try.func74 B74 N74 Z74 L74 (by simp) ?_
 have hk:=Zf.refl H []
 have hB1:=hB.1;have hB4:=hB.2.2.2.1
 refine Zm<|Vu (v:=.agg (Ya.f a y).toArray) rfl ?_
 intro H1 kH1 nH1 c1
 have c1:Cl H1 H.next [.slice a.pa y.ps.length a.pc,.slice a.ba y.bs.length a.bc,.slice a.sa y.ss.length a.sc,.slice a.ja y.js.length a.jc]:=c1
 have mH1:=kH1.1
 have hk:=hk.trans kH1
 refine Zd rfl<|Zi<|Zm<|qH (enc:=seV) ?_
 intro H2 kH2 nH2 mp
 have mH2:=kH2.1
 have hk:=hk.trans kH2
 have c1:=kH2.cl c1 (by simp)
 refine Zd rfl<|Zi<|Zm<|YB (b:=H.next) (o:=0) rfl<|YE (b:=H.next) (o:=3) (v:=.slice a.ja y.js.length a.jc) rfl c1.rd rfl<|W0 (m:=y.js.length) rfl<|Zd rfl<|Zi ?_
 have hmb:H1.next < H2.next:=mp.1
 refine VT s (fn:=Try.f74) ZeI N74 ZeA (fun i:Nat=>[(1,pt H.next),(3,.map (some H1.next)),(9,.slice a.ja y.js.length a.jc),(10,iv (y.js.length:Int)),(11,iv (i:Int))])
  (fun k i H'=>i+k=y.js.length∧Zf H H' []∧Cl H' H.next (Ya.f a y)∧(∃ L c,Mpa seV H' (H1.next) L c∧WfA L c∧Rm L (cnR y.js i))∧usI y i) y.js.length 0 ⟨by omega,hk,c1,⟨[],0,mp,WfA.nil,fun x=>rfl⟩,fun k h=>absurd h (by omega)⟩ ⟨rfl,rfl,rfl,rfl,rfl,trivial⟩ ?_
 rintro k i L1 ⟨hik,hk,c1,⟨L,c,mp,hwf,hR⟩,hus⟩
 have mk:=hk.1
 have mc:=c1.1
 have mq:=mp.1
 refine Zm<|Jj (a:=(i:Int)) (b:=(y.js.length:Int)) rfl rfl<|Zi ?_
 refine And.intro (fun q1=>?_) (fun q1=>?_)
 ·have q1:(i:Int) < (y.js.length:Int):=of_decide_eq_true q1
  have hi:i < y.js.length:=by omega
  have sj0:=(hy.keep hk).j
  rcases id sj0 with ⟨_,h0j,_⟩ | ⟨jb,ej,rj,_⟩
  ·omega
  have lj:=rj.1
  have oj:=hy.j.old jb ej
  have hji:=hJ i hi
  have hcn:=Zc3 (l:=y.js) (i:=i) (x:=((y.js.getD i Jb.z).b,(y.js.getD i Jb.z).p))
  first | refine Yn ?_ | skip
  refine Zm<|zb (b:=jb) (o:=0) (k:=i) (j:=(i:Int)) (by rw [← ej];rfl) rfl rfl hi<|XG (b:=jb) (o:=0+i * 4) rfl rj (Vo (by omega))<|W4 ?_
  intro H3 kH3 nH3 c3
  have c3:Cl H3 L1.next [iv 0,iv 0,iv 0,iv 0]:=c3
  have mH3:=kH3.1
  have hk:=hk.trans kH3
  have c1:=kH3.cl c1 (by simp)
  have mp:=kH3.mpa0 mp
  have rj:=kH3.rd rj (by simp)
  refine U5 (b:=L1.next) (o:=0) rfl rfl c3 (by omega) rfl rfl (by simp) ?_
  intro H4 kH4 nH4 sH4
  have mH4:=kH4.1
  have hk:=hk.new kH4 (fun b hb=>by simp at hb ⊢;omega)
  have c1:=kH4.cl c1 (by first | (simp;done) | (simp;omega))
  have mp:=kH4.mpa mp (by simp;omega)
  have rj:=kH4.rd rj (by first | (simp;done) | (simp;omega))
  have c3:Cl H4 L1.next [iv ((y.js.getD i Jb.z).b),iv ((y.js.getD i Jb.z).p),iv ((y.js.getD i Jb.z).u),iv ((y.js.getD i Jb.z).t)]:=sH4
  refine Zi<|Zm<|YB (b:=L1.next) (o:=0) rfl<|YE (b:=L1.next) (o:=0) (v:=iv ((y.js.getD i Jb.z).b)) rfl c3.rd rfl<|YB (b:=L1.next) (o:=0) rfl<|YE (b:=L1.next) (o:=1) (v:=iv ((y.js.getD i Jb.z).p)) rfl c3.rd rfl<|Zl (v:=seV ((y.js.getD i Jb.z).b,(y.js.getD i Jb.z).p)) rfl (by kernel_rfl)<|W4 ?_
  intro H5 kH5 nH5 c5
  have c5:Cl H5 H4.next [iv 0,iv 0]:=c5
  have mH5:=kH5.1
  have hk:=hk.trans kH5
  have c1:=kH5.cl c1 (by simp)
  have mp:=kH5.mpa0 mp
  have rj:=kH5.rd rj (by simp)
  have c3:=kH5.cl c3 (by simp)
  refine U5 (b:=H4.next) (o:=0) rfl rfl c5 (by omega) rfl rfl (by simp) ?_
  intro H6 kH6 nH6 sH6
  have mH6:=kH6.1
  have hk:=hk.new kH6 (fun b hb=>by simp at hb ⊢;omega)
  have c1:=kH6.cl c1 (by first | (simp;done) | (simp;omega))
  have mp:=kH6.mpa mp (by simp;omega)
  have rj:=kH6.rd rj (by first | (simp;done) | (simp;omega))
  have c3:=kH6.cl c3 (by first | (simp;done) | (simp;omega))
  have c5:Cl H6 H4.next [iv ((y.js.getD i Jb.z).b),iv ((y.js.getD i Jb.z).p)]:=sH6
  refine Zi ?_
  have hne:H4.next≠H1.next:=by omega
  have hzl:(ZQ ((y.js.getD i Jb.z).b,(y.js.getD i Jb.z).p) L).getD (iv 0)=iv (cnR y.js i ((y.js.getD i Jb.z).b,(y.js.getD i Jb.z).p)):=hR ((y.js.getD i Jb.z).b,(y.js.getD i Jb.z).p)
  refine K0 (Zbu ⟨fun q=>match q with | 0=>.map (some H1.next) | 1=>seV ((y.js.getD i Jb.z).b,(y.js.getD i Jb.z).p) | 2=>iv (cnR y.js i ((y.js.getD i Jb.z).b,(y.js.getD i Jb.z).p)) | 3=>iv ((cnR y.js i ((y.js.getD i Jb.z).b,(y.js.getD i Jb.z).p))+1) | 4=>.tuple #[(ZQ ((y.js.getD i Jb.z).b,(y.js.getD i Jb.z).p) L).getD (iv 0),goInt (Yt ((y.js.getD i Jb.z).b,(y.js.getD i Jb.z).p) c L)] | 5=>goInt (Yt ((y.js.getD i Jb.z).b,(y.js.getD i Jb.z).p) c L) | _=>undef,
   fun done H'=>(done 6=true→∀ j,j < 6→done j=true)∧Zf H6 H' [H1.next]∧(if done 6=true then Mpa seV H' H1.next (YW ((y.js.getD i Jb.z).b,(y.js.getD i Jb.z).p) (iv ((cnR y.js i ((y.js.getD i Jb.z).b,(y.js.getD i Jb.z).p))+1)) c L) (YR ((y.js.getD i Jb.z).b,(y.js.getD i Jb.z).p) c L) else if done 4=true then Mpa seV H' H1.next (X6 ((y.js.getD i Jb.z).b,(y.js.getD i Jb.z).p) (iv 0) c L) (YR ((y.js.getD i Jb.z).b,(y.js.getD i Jb.z).p) c L) else Mpa seV H' H1.next L c),by decide,⟨(fun h=>by cases h),Zf.refl _ _,mp⟩,⟨?_,?_,?_,?_,?_,?_,?_,True.intro⟩,fun done H9 hd hH=>?_⟩)
  all_goals try (intro done S' H' hi hmk ⟨hall,hk,hH⟩ kd)
  ·exact WD (Zd (kd.old rfl rfl) (Zi ⟨rfl,Ws rfl hall,hk,hH⟩))
  ·exact WD (XG (q:=[iv (y.js.getD i Jb.z).b,iv (y.js.getD i Jb.z).p]) (kd.old rfl rfl) (hk.rd c5.rd (by simpa using hne)) rfl (Zi ⟨rfl,Ws rfl hall,hk,hH⟩))
  ·have a1:evS S' (.tmp 20)=some (.map (some H1.next)):=kd.own 0 rfl (hmk 0 (by decide)) rfl
   have a2:evS S' (.tmp 21)=some (seV ((y.js.getD i Jb.z).b,(y.js.getD i Jb.z).p)):=kd.own 1 rfl (hmk 1 (by decide)) rfl
   have h9:=qD hall 2 (by omega) hi
   have hH0:=hH
   rw [h9] at hH
   simp only [Bool.false_eq_true,if_false] at hH
   cases h7:done 4 with
   | true=>
    rw [h7,if_pos rfl] at hH
    refine WD (qB K3 K8 z6 a1 a2 hH (by rw [qN,hzl];rfl) (Zi ⟨?_,Ws rfl hall,hk,hH0⟩))
    rw [qN,hzl];try rfl
   | false=>
    rw [h7] at hH
    simp only [Bool.false_eq_true,if_false] at hH
    refine WD (qB K3 K8 z6 a1 a2 hH (by rw [hzl];rfl) (Zi ⟨?_,Ws rfl hall,hk,hH0⟩))
    rw [hzl];try rfl
  ·exact WD (Jg (a:=(cnR y.js i ((y.js.getD i Jb.z).b,(y.js.getD i Jb.z).p))) (b:=1) (kd.own 2 rfl (hmk 2 (by decide)) rfl) rfl ⟨by omega,by omega⟩ (Zi ⟨rfl,Ws rfl hall,hk,hH⟩))
  ·have a1:evS S' (.tmp 20)=some (.map (some H1.next)):=kd.own 0 rfl (hmk 0 (by decide)) rfl
   have a2:evS S' (.tmp 21)=some (seV ((y.js.getD i Jb.z).b,(y.js.getD i Jb.z).p)):=kd.own 1 rfl (hmk 1 (by decide)) rfl
   have h9:=qD hall 4 (by omega) hi
   rw [h9,hi] at hH
   simp only [Bool.false_eq_true,if_false] at hH
   refine WD (ZaN K3 K8 z6 a1 a2 hH (by omega) (by rw [hzl];rfl) fun H1 k1 n1 m1=>Zi ⟨rfl,Ws rfl hall,hk.trans k1,?_⟩)
   show (if done 6=true then _ else if U0 done 4 4=true then _ else _)
   rw [h9,J2];exact m1
  ·have a3:lk S' 24=some (.tuple #[(ZQ ((y.js.getD i Jb.z).b,(y.js.getD i Jb.z).p) L).getD (iv 0),goInt (Yt ((y.js.getD i Jb.z).b,(y.js.getD i Jb.z).p) c L)]):=kd.own 4 rfl (hmk 4 (by decide)) rfl
   refine WD (Zl (v:=goInt (Yt ((y.js.getD i Jb.z).b,(y.js.getD i Jb.z).p) c L)) (Zej a3) ?_ (Zi ⟨rfl,Ws rfl hall,hk,hH⟩))
   unfold Zo
   simp only [YC,show evS S' (.tmp 24)=_ from a3]
   rfl
  ·have h7:done 4=true:=hmk 4 (by decide)
   have a1:evS S' (.tmp 20)=some (.map (some H1.next)):=kd.own 0 rfl (hmk 0 (by decide)) rfl
   have a4:evS S' (.tmp 25)=some (goInt (Yt ((y.js.getD i Jb.z).b,(y.js.getD i Jb.z).p) c L)):=kd.own 5 rfl (hmk 5 (by decide)) rfl
   have a5:evS S' (.tmp 23)=some (iv ((cnR y.js i ((y.js.getD i Jb.z).b,(y.js.getD i Jb.z).p))+1)):=kd.own 3 rfl (hmk 3 (by decide)) rfl
   rw [hi,h7] at hH
   simp only [Bool.false_eq_true,if_false,if_true] at hH
   refine WD (ZcA a1 a4 a5 hH (by omega) rfl ZbA fun H1 k1 n1 m1=>Zi ⟨rfl,fun _ j hj=>Ka (hmk j ?_),hk.trans k1,?_⟩)
   ·have:∀ j,j < 6→Nat.testBit 63 j=true:=by decide
    exact this j hj
   ·show (if U0 done 6 6=true then _ else _)
    rw [J2,if_pos rfl,← ZbQ hwf]
    exact m1
  obtain ⟨_,k9,mp2⟩:=hH
  rw [hd 6 (by decide),if_pos rfl] at mp2
  have hR2:Rm (YW ((y.js.getD i Jb.z).b,(y.js.getD i Jb.z).p) (iv ((cnR y.js i ((y.js.getD i Jb.z).b,(y.js.getD i Jb.z).p))+1)) c L) (cnR y.js (i+1)):=(hR.put _ _ _).congr (ZeH hi)
  have m9:=k9.1
  have hk:=hk.new k9 (fun b hb=>by simp at hb ⊢;omega)
  have c1:=k9.cl c1 (by first | (simp;done) | (simp;omega))
  have rj:=k9.rd rj (by first | (simp;done) | (simp;omega))
  have c3:=k9.cl c3 (by first | (simp;done) | (simp;omega))
  have c5:=k9.cl c5 (by first | (simp;done) | (simp;omega))
  show wCM _ _ _ _ _ _ _ _ _
  have sjj0:=(hy.keep hk).j
  rcases id sjj0 with ⟨_,h0jj,_⟩ | ⟨jjb,ejj,rjj,_⟩
  ·omega
  have ljj:=rjj.1
  have ojj:=hy.j.old jjb ejj
  have sp0:=(hy.keep hk).p
  rcases id sp0 with ⟨_,h0p,_⟩ | ⟨pb,ep,rp,_⟩
  ·omega
  have lp:=rp.1
  have op:=hy.p.old pb ep
  have hjp:(y.js.getD i Jb.z).p.toNat < y.ps.length:=by omega
  refine qR<|Yr rfl<|Uh (b:=H4.next) (o:=0) rfl c5.rd (show row 2 _ _=some [iv ((y.js.getD i Jb.z).b),iv ((y.js.getD i Jb.z).p)] from rfl) ?_
  have hz2:=hR2 ((y.js.getD i Jb.z).b,(y.js.getD i Jb.z).p)
  refine KO (k:=.read (H1.next)) rfl rfl (by rw [Qa K3 K8 z6 rfl rfl mp2 false (by rw [hz2];rfl),hz2];try rfl) (fun b e=>by cases e;exact mp2.1)<|ZC (b:=H.next) (o:=0) rfl<|Yb (b:=H.next) (o:=0) (v:=.slice a.pa y.ps.length a.pc) rfl c1.rd rfl<|ZC (b:=L1.next) (o:=0) rfl<|Yb (b:=L1.next) (o:=1) (v:=iv ((y.js.getD i Jb.z).p)) rfl c3.rd rfl<|WJ (b:=pb) (o:=0) (k:=(y.js.getD i Jb.z).p.toNat) (j:=(y.js.getD i Jb.z).p) (by rw [← ep];rfl) rfl (by omega) (by omega)<|ZC (b:=pb) (o:=0+((y.js.getD i Jb.z).p.toNat) * 4) rfl<|Yb (b:=pb) (o:=0+((y.js.getD i Jb.z).p.toNat) * 4+3) (v:=iv ((y.ps.getD (y.js.getD i Jb.z).p.toNat Pd.z).us)) rfl rp (KU (i:=(y.js.getD i Jb.z).p.toNat) (j:=3) (by omega) rfl)<|Zak (a:=(cnR y.js (i+1) ((y.js.getD i Jb.z).b,(y.js.getD i Jb.z).p))) (b:=(y.ps.getD (y.js.getD i Jb.z).p.toNat Pd.z).us) rfl rfl ?_
  refine Xv (by repeat' first | exact True.intro | exact (fun h=>h) | refine And.intro ?_ ?_ | (intro h;have h:(_:Nat)=_:=h;omega)) ?_
  refine And.intro (fun q2=>?_) (fun q2=>?_)
  ·have q2:(cnR y.js (i+1) ((y.js.getD i Jb.z).b,(y.js.getD i Jb.z).p)) > ((y.ps.getD (y.js.getD i Jb.z).p.toNat Pd.z).us):=of_decide_eq_true q2
   refine Zm<|Zd rfl<|Zi ?_
   exact And.intro trivial (Exists.intro _ (And.intro rfl ⟨congrArg Value.bool (ZdA hi (by show ¬ _≤(y.ps.getD (y.js.getD i Jb.z).p.toNat Pd.z).us;omega)).symm,hk⟩))
  ·have q2:¬ ((cnR y.js (i+1) ((y.js.getD i Jb.z).b,(y.js.getD i Jb.z).p)) > ((y.ps.getD (y.js.getD i Jb.z).p.toNat Pd.z).us)):=of_decide_eq_false q2
   first | refine Yn ?_ | skip
   show Zp _ _ _ _ _ _ _ _
   refine Jg (a:=(i:Int)) (b:=1) rfl rfl ⟨by omega,by omega⟩<|Zd rfl<|Zi ?_
   exact ⟨k - 1,i+1,by omega,⟨by omega,hk,c1,⟨_,_,mp2,hwf.put _ _,hR2⟩,Zew hus hi (show cnR y.js (i+1) _≤(y.ps.getD (y.js.getD i Jb.z).p.toNat Pd.z).us by omega)⟩,rfl,rfl,rfl,rfl,rfl,trivial⟩
 ·have q1:¬ ((i:Int) < (y.js.length:Int)):=of_decide_eq_false q1
  first | (refine W5 ?_;show wCM _ _ _ _ _ _ _ _ _) | skip
  refine Zm<|Zd rfl<|Zi ?_
  have ein:i=y.js.length:=by omega
  rw [ein] at hus
  exact And.intro trivial (Exists.intro _ (And.intro rfl ⟨congrArg Value.bool (ZcE hus).symm,hk⟩))
theorem ZeD {y:Yd} {j:Jb} (h:vJ y j=true):0≤j.b∧j.b < y.bs.length∧0≤j.p∧j.p < y.ps.length∧0≤j.u∧j.u≤16384∧0≤j.t∧j.t≤16384∧0≤j.t - j.u∧j.t - j.u≤40∧0≤(jB y j).m∧(jB y j).m < (jP y j).wt.length:=by
 simp only [vJ,inB,Bool.and_eq_true,decide_eq_true_eq] at h;omega
set_option maxRecDepth 100000 in
set_option maxHeartbeats 1000000 in
theorem Zcf (s:Snd Try.prog kn) {a:Ya} {y:Yd} (hy:YaH H a y) (hB:YaB y) (hlo:lo≤H.next) :
  FnM Try.prog lo 40 [.agg (Ya.f a y).toArray] H fun v H'=>v=.bool (vY y)∧Zf H H' []:=by
 refine WA s Try.func40 B40 N40 Z40 L40 (by simp) ?_
 have hk:=Zf.refl H []
 have hB1:=hB.1;have hB2:=hB.2.1;have hB3:=hB.2.2.1;have hB4:=hB.2.2.2.1
 refine Zm<|Vu (v:=.agg (Ya.f a y).toArray) rfl ?_
 intro H1 kH1 nH1 c1
 have c1:Cl H1 H.next [.slice a.pa y.ps.length a.pc,.slice a.ba y.bs.length a.bc,.slice a.sa y.ss.length a.sc,.slice a.ja y.js.length a.jc]:=c1
 have mH1:=kH1.1
 have hk:=hk.trans kH1
 refine Zd rfl<|Zi<|Zm<|YB (b:=H.next) (o:=0) rfl<|YE (b:=H.next) (o:=0) (v:=.slice a.pa y.ps.length a.pc) rfl c1.rd rfl<|W0 (m:=y.ps.length) rfl<|UH (a:=(y.ps.length:Int)) (b:=8) rfl rfl ?_
 intro t1 g1;cases t1
 ·have g1:¬ ((y.ps.length:Int) > 8):=of_decide_eq_false g1
  refine Zd rfl ?_
  refine YX rfl (YB (b:=H.next) (o:=0) rfl ?_)
  refine YX rfl (YE (b:=H.next) (o:=1) (v:=.slice a.ba y.bs.length a.bc) rfl c1.rd rfl ?_)
  refine YX rfl (W0 (m:=y.bs.length) rfl ?_)
  refine YX rfl (UH (a:=(y.bs.length:Int)) (b:=16) rfl rfl ?_)
  intro t2 g2;cases t2
  ·have g2:¬ ((y.bs.length:Int) > 16):=of_decide_eq_false g2
   refine Zl (v:=.bool false) rfl rfl<|Zd rfl ?_
   refine YX rfl (YB (b:=H.next) (o:=0) rfl ?_)
   refine YX rfl (YE (b:=H.next) (o:=2) (v:=.slice a.sa y.ss.length a.sc) rfl c1.rd rfl ?_)
   refine YX rfl (W0 (m:=y.ss.length) rfl ?_)
   refine YX rfl (UH (a:=(y.ss.length:Int)) (b:=16) rfl rfl ?_)
   intro t3 g3;cases t3
   ·have g3:¬ ((y.ss.length:Int) > 16):=of_decide_eq_false g3
    refine Zl (v:=.bool false) rfl rfl<|Zd rfl ?_
    refine YX rfl (YB (b:=H.next) (o:=0) rfl ?_)
    refine YX rfl (YE (b:=H.next) (o:=3) (v:=.slice a.ja y.js.length a.jc) rfl c1.rd rfl ?_)
    refine YX rfl (W0 (m:=y.js.length) rfl ?_)
    refine YX rfl (UH (a:=(y.js.length:Int)) (b:=8) rfl rfl ?_)
    intro t4 g4;cases t4
    ·have g4:¬ ((y.js.length:Int) > 8):=of_decide_eq_false g4
     refine Zl (v:=.bool false) rfl rfl<|Zi<|YI ?_
     first | refine Yn ?_ | skip
     refine Zm<|YB (b:=H.next) (o:=0) rfl<|YE (b:=H.next) (o:=0) (v:=.slice a.pa y.ps.length a.pc) rfl c1.rd rfl ?_
     obtain ⟨H2,fH2,kH2⟩:=Za5 (kn:=kn) (lo:=lo) (H:=H1) (ws:=a.ws) (ps:=y.ps) ((hy.keep hk).p) rfl (by omega) (by omega) (F:=66) (gc:=#[]) (ok:=fun i=>vP (y.ps.getD i Pd.z)) (fun i hi H9 k9=>by
      obtain ⟨H8,f8,k8⟩:=ZdH (kn:=kn) (lo:=lo) (H:=H9) (p:=y.ps.getD i Pd.z) (w:=a.ws i) ((hy.keep (hk.trans k9)).w i hi) (by have:=k9.1;omega)
      exact ⟨H8,ZV rfl (by simpa using f8),k8⟩)
     rw [XE (l:=y.ps) (p:=vP)] at fH2
     have mH2:=kH2.1
     have hk:=hk.trans kH2
     have c1:=kH2.cl c1 (by simp)
     cases hpl:y.ps.all vP
     ·rw [hpl] at fH2
      refine Z4 s (v:=.bool false) (vs:=[.slice a.pa y.ps.length a.pc,.func (.func 66) #[] #[]]) rfl (Zk fH2)<|Zl (v:=.bool true) rfl rfl<|Zd rfl<|Yc rfl<|Yc rfl<|Yc rfl<|Yc rfl<|Zl (v:=.bool true) rfl rfl<|Zd rfl<|Yc rfl<|Yc rfl<|Yc rfl<|Yc rfl<|Zl (v:=.bool true) rfl rfl<|Zi<|YN<|Zm<|Zd rfl<|Zi ?_
      exact And.intro trivial (Exists.intro _ (And.intro rfl ⟨congrArg Value.bool (show false=vY y from by symm;rw [← Bool.not_eq_true];simp only [vY,Bool.and_eq_true,decide_eq_true_eq];intro q;obtain ⟨⟨⟨⟨⟨⟨⟨⟨q0,q1⟩,q2⟩,q3⟩,q4⟩,q5⟩,q6⟩,q7⟩,q8⟩:=q;first | omega | (simp_all;done)),hk⟩))
     ·rw [hpl] at fH2
      refine Z4 s (v:=.bool true) (vs:=[.slice a.pa y.ps.length a.pc,.func (.func 66) #[] #[]]) rfl (Zk fH2)<|Zl (v:=.bool false) rfl rfl<|Zd rfl ?_
      refine YX rfl (YB (b:=H.next) (o:=0) rfl ?_)
      refine YX rfl (YE (b:=H.next) (o:=1) (v:=.slice a.ba y.bs.length a.bc) rfl c1.rd rfl ?_)
      obtain ⟨H3,fH3,kH3⟩:=Za2 (kn:=kn) (lo:=lo) (H:=H2)  ((hy.keep hk).b) rfl (by omega) (by omega) (F:=68) (gc:=#[]) (ok:=fun i=>vB (y.bs.getD i Bd.z)) (fun i hi H9 k9=>by
       obtain ⟨H8,f8,k8⟩:=ZdS (kn:=kn) (lo:=lo) (H:=H9) (b:=y.bs.getD i Bd.z)
       exact ⟨H8,ZV rfl (by simpa using f8),k8⟩)
      rw [XE (l:=y.bs) (p:=vB)] at fH3
      have mH3:=kH3.1
      have hk:=hk.trans kH3
      have c1:=kH3.cl c1 (by simp)
      cases hbl:y.bs.all vB
      ·rw [hbl] at fH3
       refine YX rfl (Z4 s (v:=.bool false) (vs:=[.slice a.ba y.bs.length a.bc,.func (.func 68) #[] #[]]) rfl (Zk fH3) ?_)
       refine YX rfl (Zl (v:=.bool true) rfl rfl ?_)
       refine Zl (v:=.bool true) rfl rfl<|Zd rfl<|Yc rfl<|Yc rfl<|Yc rfl<|Yc rfl<|Zl (v:=.bool true) rfl rfl<|Zi<|YN<|Zm<|Zd rfl<|Zi ?_
       exact And.intro trivial (Exists.intro _ (And.intro rfl ⟨congrArg Value.bool (show false=vY y from by symm;rw [← Bool.not_eq_true];simp only [vY,Bool.and_eq_true,decide_eq_true_eq];intro q;obtain ⟨⟨⟨⟨⟨⟨⟨⟨q0,q1⟩,q2⟩,q3⟩,q4⟩,q5⟩,q6⟩,q7⟩,q8⟩:=q;first | omega | (simp_all;done)),hk⟩))
      ·rw [hbl] at fH3
       refine YX rfl (Z4 s (v:=.bool true) (vs:=[.slice a.ba y.bs.length a.bc,.func (.func 68) #[] #[]]) rfl (Zk fH3) ?_)
       refine YX rfl (Zl (v:=.bool false) rfl rfl ?_)
       refine Zl (v:=.bool false) rfl rfl<|Zd rfl ?_
       refine YX rfl (YB (b:=H.next) (o:=0) rfl ?_)
       refine YX rfl (YE (b:=H.next) (o:=2) (v:=.slice a.sa y.ss.length a.sc) rfl c1.rd rfl ?_)
       obtain ⟨H4,fH4,kH4⟩:=ZbY (kn:=kn) (lo:=lo) (H:=H3)  ((hy.keep hk).s) rfl (by omega) (by omega) (F:=70) (gc:=#[]) (ok:=fun i=>vS (y.ss.getD i Sd.z)) (fun i hi H9 k9=>by
        obtain ⟨H8,f8,k8⟩:=ZeB (kn:=kn) (lo:=lo) (H:=H9) (s:=y.ss.getD i Sd.z)
        exact ⟨H8,ZV rfl (by simpa using f8),k8⟩)
       rw [XE (l:=y.ss) (p:=vS)] at fH4
       have mH4:=kH4.1
       have hk:=hk.trans kH4
       have c1:=kH4.cl c1 (by simp)
       cases hsl:y.ss.all vS
       ·rw [hsl] at fH4
        refine YX rfl (Z4 s (v:=.bool false) (vs:=[.slice a.sa y.ss.length a.sc,.func (.func 70) #[] #[]]) rfl (Zk fH4) ?_)
        refine YX rfl (Zl (v:=.bool true) rfl rfl ?_)
        refine Zl (v:=.bool true) rfl rfl<|Zi<|YN<|Zm<|Zd rfl<|Zi ?_
        exact And.intro trivial (Exists.intro _ (And.intro rfl ⟨congrArg Value.bool (show false=vY y from by symm;rw [← Bool.not_eq_true];simp only [vY,Bool.and_eq_true,decide_eq_true_eq];intro q;obtain ⟨⟨⟨⟨⟨⟨⟨⟨q0,q1⟩,q2⟩,q3⟩,q4⟩,q5⟩,q6⟩,q7⟩,q8⟩:=q;first | omega | (simp_all;done)),hk⟩))
       ·rw [hsl] at fH4
        refine YX rfl (Z4 s (v:=.bool true) (vs:=[.slice a.sa y.ss.length a.sc,.func (.func 70) #[] #[]]) rfl (Zk fH4) ?_)
        refine YX rfl (Zl (v:=.bool false) rfl rfl ?_)
        refine Zl (v:=.bool false) rfl rfl<|Zi<|YI ?_
        first | refine Yn ?_ | skip
        refine Zm<|YB (b:=H.next) (o:=0) rfl<|YE (b:=H.next) (o:=3) (v:=.slice a.ja y.js.length a.jc) rfl c1.rd rfl<|Zl (v:=.func (.func 72) #[] #[pt H.next]) rfl (by kernel_rfl) ?_
        obtain ⟨H5,fH5,kH5⟩:=Zbc (kn:=kn) (lo:=lo) (H:=H4)  ((hy.keep hk).j) rfl (by omega) (by omega) (F:=72) (gc:=#[.pointer (some ⟨H.next,0,none⟩)]) (ok:=fun i=>(vJ y) (y.js.getD i Jb.z)) (fun i hi H9 k9=>by
         obtain ⟨H8,f8,k8⟩:=ZcT (kn:=kn) (lo:=lo) (H:=H9) (j:=y.js.getD i Jb.z) (k9.rd c1.rd (by simp)) (hy.keep (hk.trans k9)) hB
         exact ⟨H8,ZV rfl (by simpa using f8),k8⟩)
        rw [XE (l:=y.js) (p:=(vJ y))] at fH5
        have mH5:=kH5.1
        have hk:=hk.trans kH5
        have c1:=kH5.cl c1 (by simp)
        cases hjl:y.js.all (vJ y)
        ·rw [hjl] at fH5
         refine Z4 s (v:=.bool false) (vs:=[.slice a.ja y.js.length a.jc,.func (.func 72) #[] #[pt H.next]]) rfl (Zk fH5)<|Zd rfl<|Yc rfl<|Yc rfl<|Zl (v:=.bool false) rfl rfl<|Zd rfl<|Zi ?_
         exact And.intro trivial (Exists.intro _ (And.intro rfl ⟨congrArg Value.bool (show false=vY y from by symm;rw [← Bool.not_eq_true];simp only [vY,Bool.and_eq_true,decide_eq_true_eq];intro q;obtain ⟨⟨⟨⟨⟨⟨⟨⟨q0,q1⟩,q2⟩,q3⟩,q4⟩,q5⟩,q6⟩,q7⟩,q8⟩:=q;first | omega | (simp_all;done)),hk⟩))
        ·rw [hjl] at fH5
         refine Z4 s (v:=.bool true) (vs:=[.slice a.ja y.js.length a.jc,.func (.func 72) #[] #[pt H.next]]) rfl (Zk fH5)<|Zd rfl ?_
         refine YX rfl (XG (b:=H.next) (o:=0) rfl c1.rd (show row 4 _ _=some [.slice a.pa y.ps.length a.pc,.slice a.ba y.bs.length a.bc,.slice a.sa y.ss.length a.sc,.slice a.ja y.js.length a.jc] from rfl) ?_)
         refine YX rfl (XM (t:=.fn (.func 74) #[]) (vs:=[.agg (Ya.f a y).toArray]) rfl (Y7 s.hN (Zef (H:=H5) s (hy.keep hk) hB (fun i hi=>by have q:=ZeD (XZ (z:=Jb.z) hjl hi);omega) (by omega))) ?_)
         rintro _ H6 ⟨rfl,kH6⟩
         have mH6:=kH6.1
         have hk:=hk.trans kH6
         have c1:=kH6.cl c1 (by simp)
         cases hul:vU y
         ·refine Zl (v:=.bool false) rfl rfl<|Zd rfl<|Zi ?_
          exact And.intro trivial (Exists.intro _ (And.intro rfl ⟨congrArg Value.bool (show false=vY y from by symm;rw [← Bool.not_eq_true];simp only [vY,Bool.and_eq_true,decide_eq_true_eq];intro q;obtain ⟨⟨⟨⟨⟨⟨⟨⟨q0,q1⟩,q2⟩,q3⟩,q4⟩,q5⟩,q6⟩,q7⟩,q8⟩:=q;first | omega | (simp_all;done)),hk⟩))
         ·refine Zl (v:=.bool true) rfl rfl<|Zd rfl<|Zi ?_
          exact And.intro trivial (Exists.intro _ (And.intro rfl ⟨congrArg Value.bool (show true=vY y from by symm;simp only [vY,Bool.and_eq_true,decide_eq_true_eq];refine ⟨⟨⟨⟨⟨⟨⟨⟨?_,?_⟩,?_⟩,?_⟩,?_⟩,?_⟩,?_⟩,?_⟩,?_⟩<;>first | assumption | omega),hk⟩))
    ·have g4:(y.js.length:Int) > 8:=of_decide_eq_true g4
     refine Zl (v:=.bool true) rfl rfl<|Zi<|YN<|Zm<|Zd rfl<|Zi ?_
     exact And.intro trivial (Exists.intro _ (And.intro rfl ⟨congrArg Value.bool (show false=vY y from by symm;rw [← Bool.not_eq_true];simp only [vY,Bool.and_eq_true,decide_eq_true_eq];intro q;obtain ⟨⟨⟨⟨⟨⟨⟨⟨q0,q1⟩,q2⟩,q3⟩,q4⟩,q5⟩,q6⟩,q7⟩,q8⟩:=q;first | omega | (simp_all;done)),hk⟩))
   ·have g3:(y.ss.length:Int) > 16:=of_decide_eq_true g3
    refine Zl (v:=.bool true) rfl rfl<|Zd rfl<|Yc rfl<|Yc rfl<|Yc rfl<|Yc rfl<|Zl (v:=.bool true) rfl rfl<|Zi<|YN<|Zm<|Zd rfl<|Zi ?_
    exact And.intro trivial (Exists.intro _ (And.intro rfl ⟨congrArg Value.bool (show false=vY y from by symm;rw [← Bool.not_eq_true];simp only [vY,Bool.and_eq_true,decide_eq_true_eq];intro q;obtain ⟨⟨⟨⟨⟨⟨⟨⟨q0,q1⟩,q2⟩,q3⟩,q4⟩,q5⟩,q6⟩,q7⟩,q8⟩:=q;first | omega | (simp_all;done)),hk⟩))
  ·have g2:(y.bs.length:Int) > 16:=of_decide_eq_true g2
   refine Zl (v:=.bool true) rfl rfl<|Zd rfl<|Yc rfl<|Yc rfl<|Yc rfl<|Yc rfl<|Zl (v:=.bool true) rfl rfl<|Zd rfl<|Yc rfl<|Yc rfl<|Yc rfl<|Yc rfl<|Zl (v:=.bool true) rfl rfl<|Zi<|YN<|Zm<|Zd rfl<|Zi ?_
   exact And.intro trivial (Exists.intro _ (And.intro rfl ⟨congrArg Value.bool (show false=vY y from by symm;rw [← Bool.not_eq_true];simp only [vY,Bool.and_eq_true,decide_eq_true_eq];intro q;obtain ⟨⟨⟨⟨⟨⟨⟨⟨q0,q1⟩,q2⟩,q3⟩,q4⟩,q5⟩,q6⟩,q7⟩,q8⟩:=q;first | omega | (simp_all;done)),hk⟩))
 ·have g1:(y.ps.length:Int) > 8:=of_decide_eq_true g1
  refine Zd rfl<|Yc rfl<|Yc rfl<|Yc rfl<|Yc rfl<|Zl (v:=.bool true) rfl rfl<|Zd rfl<|Yc rfl<|Yc rfl<|Yc rfl<|Yc rfl<|Zl (v:=.bool true) rfl rfl<|Zd rfl<|Yc rfl<|Yc rfl<|Yc rfl<|Yc rfl<|Zl (v:=.bool true) rfl rfl<|Zi<|YN<|Zm<|Zd rfl<|Zi ?_
  exact And.intro trivial (Exists.intro _ (And.intro rfl ⟨congrArg Value.bool (show false=vY y from by symm;rw [← Bool.not_eq_true];simp only [vY,Bool.and_eq_true,decide_eq_true_eq];intro q;obtain ⟨⟨⟨⟨⟨⟨⟨⟨q0,q1⟩,q2⟩,q3⟩,q4⟩,q5⟩,q6⟩,q7⟩,q8⟩:=q;first | omega | (simp_all;done)),hk⟩))
end
end
end Go.Ax

/-
 Pool: which stands are reached;until when (82,78,52) (written by program).
-/
namespace Go.Ax
open Go Go.RowKit Go.Proofs

noncomputable section
theorem Za1 {y:Yd} (h:vY y=true):y.ps.length≤8∧y.bs.length≤16∧y.ss.length≤16∧y.js.length≤8∧y.ps.all vP=true∧y.bs.all vB=true∧y.ss.all vS=true∧y.js.all (vJ y)=true∧vU y=true:=by
 simp only [vY,Bool.and_eq_true,decide_eq_true_eq] at h
 obtain ⟨⟨⟨⟨⟨⟨⟨⟨a,b⟩,c⟩,d⟩,e⟩,f⟩,g⟩,i⟩,j⟩:=h
 exact ⟨a,b,c,d,e,f,g,i,j⟩
theorem ZeP {b:Bd} (h:vB b=true):0≤b.x∧b.x≤65536∧0≤b.y∧b.y≤65536∧0≤b.h∧b.h≤16384∧0≤b.m∧b.m≤7:=by
 simp only [vB,inB,Bool.and_eq_true,decide_eq_true_eq] at h;omega
theorem Zfn {s:Sd} (h:vS s=true):0≤s.x∧s.x≤65536∧0≤s.y∧s.y≤65536∧0≤s.u∧s.u≤16384∧0≤s.t∧s.t≤16384∧s.u≤s.t:=by
 simp only [vS,inB,Bool.and_eq_true,decide_eq_true_eq] at h;omega
theorem Zfa {p:Pd} (h:vP p=true):0≤p.re∧p.re≤65536∧0≤p.st∧p.st≤30∧1≤p.us∧p.us≤16∧p.wt.length≤8∧∀ k,k < p.wt.length→0≤p.wt.getD k 0∧p.wt.getD k 0≤365:=by
 simp only [vP,Bool.and_eq_true,decide_eq_true_eq] at h
 obtain ⟨⟨⟨⟨a,b⟩,c⟩,d⟩,e⟩:=h
 have a:=YH a
 have b:=YH b
 have c:=YH c
 exact ⟨a.1,a.2,b.1,b.2,c.1,c.2,d,fun k hk=>YH (XZ (z:=(0:Int)) e hk)⟩
structure JbT (y:Yd) (j:Jb):Prop where
 jj:0≤j.b∧j.b < y.bs.length∧0≤j.p∧j.p < y.ps.length∧0≤j.u∧j.u≤16384∧0≤j.t∧j.t≤16384∧0≤j.t - j.u∧j.t - j.u≤40∧0≤(jB y j).m∧(jB y j).m < (jP y j).wt.length
 bb:0≤(jB y j).x∧(jB y j).x≤65536∧0≤(jB y j).y∧(jB y j).y≤65536∧0≤(jB y j).h∧(jB y j).h≤16384∧0≤(jB y j).m∧(jB y j).m≤7
 pp:0≤(jP y j).re∧(jP y j).re≤65536∧0≤(jP y j).st∧(jP y j).st≤30∧1≤(jP y j).us∧(jP y j).us≤16∧(jP y j).wt.length≤8∧∀ k,k < (jP y j).wt.length→0≤(jP y j).wt.getD k 0∧(jP y j).wt.getD k 0≤365
theorem zu {y:Yd} (hv:vY y=true) {i:Nat} (hi:i < y.js.length):JbT y (y.js.getD i Jb.z):=by
 obtain ⟨_,_,_,_,hp,hb,_,hj,_⟩:=Za1 hv
 have h:=ZeD (XZ (z:=Jb.z) hj hi)
 exact ⟨h,ZeP (XZ (z:=Bd.z) hb (i:=(y.js.getD i Jb.z).b.toNat) (by omega)),Zfa (XZ (z:=Pd.z) hp (i:=(y.js.getD i Jb.z).p.toNat) (by omega))⟩
def dl (y:Yd) (j:Jb):Int:=(jB y j).h - (jP y j).wt.getD (jB y j).m.toNat 0
def rcB (y:Yd) (j:Jb) (d:Int) (s:Sd):Bool:=decide ((s.x - (jB y j).x) * (s.x - (jB y j).x)+(s.y - (jB y j).y) * (s.y - (jB y j).y)≤(jP y j).re * (jP y j).re) && decide (d≤s.t) && decide (s.u≤d+(jP y j).st)
def rcT (y:Yd) (j:Jb) (d:Int):Nat→List Int
 | 0=>[]
 | n+1=>rcT y j d n ++ (if rcB y j d (y.ss.getD n Sd.z)=true then [(n:Int)] else [])
def rcL (y:Yd) (j:Jb) (d:Int):List Int:=rcT y j d y.ss.length
theorem qI {y:Yd} {j:Jb} {d:Int}:∀ n,(rcT y j d n).length≤n
 | 0=>Nat.le_refl _
 | n+1=>by
  have:=qI (y:=y) (j:=j) (d:=d) n
  unfold rcT
  rw [List.length_append]
  split<;>simp<;>omega
theorem Zeb {y:Yd} {j:Jb} {d:Int} {n:Nat} (h:rcB y j d (y.ss.getD n Sd.z)=true):rcT y j d (n+1)=rcT y j d n ++ [(n:Int)]:=by
 show _ ++ (if _ then _ else _)=_;rw [if_pos h]
theorem Zas {y:Yd} {j:Jb} {d:Int} {n:Nat} (h:rcB y j d (y.ss.getD n Sd.z)=false):rcT y j d (n+1)=rcT y j d n:=by
 show _ ++ (if _ then _ else _)=_;rw [if_neg (by rw [h];simp),List.append_nil]
theorem qp {n:Int} (h:-65536≤n∧n≤65536):0≤n * n∧n * n≤4294967296:=by
 rcases Int.le_total 0 n with q | q
 ·exact ⟨Int.mul_nonneg q q,by have:=Int.mul_le_mul h.2 h.2 q (by decide);simpa using this⟩
 ·have e:n * n=(-n) * (-n):=by rw [Int.neg_mul_neg]
  rw [e]
  exact ⟨Int.mul_nonneg (by omega) (by omega),by have:=Int.mul_le_mul (show -n≤65536 by omega) (show -n≤65536 by omega) (by omega) (by decide);simpa using this⟩
theorem Acc.low {lo f f':Nat} {e:TypeId} {H:Hp} {v:Value} {n:Nat} {cs:List Value} (h:Acc lo f e H v n cs) (hf:f'≤f):Acc lo f' e H v n cs:=
 h.imp id fun ⟨b,a1,a2,a3,a4,a5,a6⟩=>⟨b,a1,a2,by omega,a4,a5,a6⟩
theorem y9:ZZ Try.prog 28=some (3,1):=by kernel_rfl
theorem Zcs:Try.prog.underlying 28=some (.slice 3):=by kernel_rfl
theorem zo3:Ym Try.prog 3=some (iv 0):=by kernel_rfl
section
variable {kn:Kn} {lo:Nat} {H:Hp}
theorem ZaY {n:Int} (h:-65536≤n∧n≤65536):∃ H',FnX Try.prog kn lo 82 [iv n] H (iv (n * n)) H'∧Zf H H' []:=by
 have key:=Zt (kn:=kn) (lo:=lo) (H:=H) (args:=[iv n]) (Q:=fun w H'=>w=iv (n * n)∧Zf H H' []) Try.func82 B82 N82 Z82 L82 (by simp) ?_
 ·obtain ⟨w,H',h,rfl,q⟩:=key;exact ⟨H',h,q⟩
 have hk:=Zf.refl H []
 have hsq:=qp h
 refine Ze<|Za rfl<|Zb<|Ze<|Za rfl<|Za rfl<|Q8 (a:=n) (b:=n) rfl rfl ⟨by omega,by omega⟩<|Za rfl<|Zb ?_
 exact And.intro trivial (Exists.intro _ (And.intro rfl ⟨rfl,hk⟩))
theorem Zd6 {a:Ya} {y:Yd} (hy:YaH H a y) (hB:YaB y) {j:Jb} (hjt:JbT y j) (hlo:lo≤H.next):∃ H',FnX Try.prog kn lo 78 [.agg (Ya.f a y).toArray,.agg (Jb.f j).toArray] H (iv (dl y j)) H'∧Zf H H' []:=by
 have key:=Zt (kn:=kn) (lo:=lo) (H:=H) (args:=[.agg (Ya.f a y).toArray,.agg (Jb.f j).toArray]) (Q:=fun w H'=>w=iv (dl y j)∧Zf H H' []) Try.func78 B78 N78 Z78 L78 (by simp) ?_
 ·obtain ⟨w,H',h,rfl,q⟩:=key;exact ⟨H',h,q⟩
 have hk:=Zf.refl H []
 have hj:=hjt.jj
 have hjb:=hjt.bb
 have hwl:(jP y j).wt.length≤8:=hjt.pp.2.2.2.2.2.2.1
 have hB1:=hB.1
 have hB2:=hB.2.1
 have hB3:=hB.2.2.1
 refine Ze<|Ye (v:=.agg (Ya.f a y).toArray) rfl ?_
 intro H1 kH1 nH1 c1
 have c1:Cl H1 H.next [.slice a.pa y.ps.length a.pc,.slice a.ba y.bs.length a.bc,.slice a.sa y.ss.length a.sc,.slice a.ja y.js.length a.jc]:=c1
 have mH1:=kH1.1
 have hk:=hk.trans kH1
 refine Ye (v:=.agg (Jb.f j).toArray) rfl ?_
 intro H2 kH2 nH2 c2
 have c2:Cl H2 H1.next [iv j.b,iv j.p,iv j.u,iv j.t]:=c2
 have mH2:=kH2.1
 have hk:=hk.trans kH2
 have c1:=kH2.cl c1 (by simp)
 refine Za rfl<|Zb<|Ze ?_
 have sb0:=(hy.keep hk).b
 rcases id sb0 with ⟨_,h0b,_⟩ | ⟨bb,eb,rb,_⟩
 ·omega
 have lb:=rb.1
 have ob:=hy.b.old bb eb
 have sp0:=(hy.keep hk).p
 rcases id sp0 with ⟨_,h0p,_⟩ | ⟨pb,ep,rp,_⟩
 ·omega
 have lp:=rp.1
 have op:=hy.p.old pb ep
 have sw0:Sl H2 (a.ws j.p.toNat).1 (jP y j).wt.length (a.ws j.p.toNat).2 (cI (jP y j).wt):=(hy.keep hk).w j.p.toNat (by omega)
 rcases id sw0 with ⟨_,h0w,_⟩ | ⟨wb,ew,rw,_⟩
 ·omega
 have lw:=rw.1
 have hwt:=hjt.pp.2.2.2.2.2.2.2 (jB y j).m.toNat (by omega)
 refine Zn (b:=H.next) (o:=0) rfl<|Zn (b:=H.next) (o:=0) rfl<|ZD (b:=H.next) (o:=1) (v:=.slice a.ba y.bs.length a.bc) rfl c1.rd rfl<|Zn (b:=H1.next) (o:=0) rfl<|ZD (b:=H1.next) (o:=0) (v:=iv j.b) rfl c2.rd rfl<|XH (b:=bb) (o:=0) (k:=j.b.toNat) (j:=j.b) (by rw [← eb];rfl) rfl (by omega) (by omega)<|Z3 (b:=bb) (o:=0+j.b.toNat * 4) rfl rb (Up (l:=y.bs) (by omega))<|Xw ?_
 intro H3 kH3 nH3 c3
 have c3:Cl H3 H2.next [iv 0,iv 0,iv 0,iv 0]:=c3
 have mH3:=kH3.1
 have hk:=hk.trans kH3
 have c1:=kH3.cl c1 (by simp)
 have c2:=kH3.cl c2 (by simp)
 have rb:=kH3.rd rb (by simp)
 have rp:=kH3.rd rp (by simp)
 have rw:=kH3.rd rw (by simp)
 refine Xz (b:=H2.next) (o:=0) rfl rfl c3 (by omega) rfl rfl (by simp) ?_
 intro H4 kH4 nH4 sH4
 have mH4:=kH4.1
 have hk:=hk.new kH4 (fun b hb=>by simp at hb ⊢;omega)
 have c1:=kH4.cl c1 (by first | (simp;done) | (simp;omega))
 have c2:=kH4.cl c2 (by first | (simp;done) | (simp;omega))
 have rb:=kH4.rd rb (by first | (simp;done) | (simp;omega))
 have rp:=kH4.rd rp (by first | (simp;done) | (simp;omega))
 have rw:=kH4.rd rw (by first | (simp;done) | (simp;omega))
 have c3:Cl H4 H2.next [iv ((jB y j).x),iv ((jB y j).y),iv ((jB y j).h),iv ((jB y j).m)]:=sH4
 refine Zb<|W1<|ZC (b:=H2.next) (o:=0) rfl<|Yb (b:=H2.next) (o:=2) (v:=iv ((jB y j).h)) rfl c3.rd rfl<|ZC (b:=H.next) (o:=0) rfl<|ZC (b:=H.next) (o:=0) rfl<|Yb (b:=H.next) (o:=0) (v:=.slice a.pa y.ps.length a.pc) rfl c1.rd rfl<|ZC (b:=H1.next) (o:=0) rfl<|Yb (b:=H1.next) (o:=1) (v:=iv j.p) rfl c2.rd rfl<|WJ (b:=pb) (o:=0) (k:=j.p.toNat) (j:=j.p) (by rw [← ep];rfl) rfl (by omega) (by omega)<|ZC (b:=pb) (o:=0+j.p.toNat * 4) rfl<|Yb (b:=pb) (o:=0+j.p.toNat * 4+2) (v:=.slice ((a.ws j.p.toNat).1) ((jP y j).wt.length) ((a.ws j.p.toNat).2)) rfl rp (KU (i:=j.p.toNat) (j:=2) (by omega) rfl)<|ZC (b:=H2.next) (o:=0) rfl<|Yb (b:=H2.next) (o:=3) (v:=iv ((jB y j).m)) rfl c3.rd rfl<|WJ (b:=wb) (o:=0) (k:=(jB y j).m.toNat) (j:=(jB y j).m) (by rw [← ew];rfl) rfl (by omega) (by omega)<|Yb (b:=wb) (o:=0+((jB y j).m.toNat) * 1) (v:=iv ((jP y j).wt.getD (jB y j).m.toNat 0)) rfl rw (Jx (by omega))<|qe (a:=(jB y j).h) (b:=((jP y j).wt.getD (jB y j).m.toNat 0)) rfl rfl ⟨by omega,by omega⟩<|Yr rfl ?_
 refine Xv (by repeat' first | exact True.intro | exact (fun h=>h) | refine And.intro ?_ ?_ | (intro h;have h:(_:Nat)=_:=h;omega)) ?_
 exact And.intro trivial (Exists.intro _ (And.intro rfl ⟨rfl,hk⟩))
set_option maxRecDepth 100000 in
set_option maxHeartbeats 2000000 in
theorem ym {a:Ya} {y:Yd} (hy:YaH H a y) (hB:YaB y) (hv:vY y=true) {i:Nat} (hi:i < y.js.length) {d:Int} (hd:-100000≤d∧d≤100000) (hlo:lo≤H.next):∃ v H',FnX Try.prog kn lo 52 [.agg (Ya.f a y).toArray,iv (i:Int),iv d] H v H'∧Acc lo H.next 3 H' v (rcL y (y.js.getD i Jb.z) d).length (cI (rcL y (y.js.getD i Jb.z) d))∧Zf H H' []:=by
 have key:=Zt (kn:=kn) (lo:=lo) (H:=H) (args:=[.agg (Ya.f a y).toArray,iv (i:Int),iv d]) (Q:=fun w H'=>Acc lo H.next 3 H' w (rcL y (y.js.getD i Jb.z) d).length (cI (rcL y (y.js.getD i Jb.z) d))∧Zf H H' []) Try.func52 B52 N52 Z52 L52 (by simp) ?_
 ·exact key
 have hk:=Zf.refl H []
 have hjt:=zu hv hi
 have hjp:=hjt.pp
 have hvS:=(Za1 hv).2.2.2.2.2.2.1
 have hj:=hjt.jj
 have hjb:=hjt.bb
 have hwl:(jP y (y.js.getD i Jb.z)).wt.length≤8:=hjt.pp.2.2.2.2.2.2.1
 have hB1:=hB.1
 have hB2:=hB.2.1
 have hB3:=hB.2.2.1
 refine Ze<|Ye (v:=.agg (Ya.f a y).toArray) rfl ?_
 intro H1 kH1 nH1 c1
 have c1:Cl H1 H.next [.slice a.pa y.ps.length a.pc,.slice a.ba y.bs.length a.bc,.slice a.sa y.ss.length a.sc,.slice a.ja y.js.length a.jc]:=c1
 have mH1:=kH1.1
 have hk:=hk.trans kH1
 refine Za rfl<|Zb<|Ze ?_
 have sj0:=(hy.keep hk).j
 rcases id sj0 with ⟨_,h0j,_⟩ | ⟨jb,ej,rj,_⟩
 ·omega
 have lj:=rj.1
 have oj:=hy.j.old jb ej
 refine Zn (b:=H.next) (o:=0) rfl<|Zn (b:=H.next) (o:=0) rfl<|ZD (b:=H.next) (o:=3) (v:=.slice a.ja y.js.length a.jc) rfl c1.rd rfl<|Za rfl<|XH (b:=jb) (o:=0) (k:=i) (j:=(i:Int)) (by rw [← ej];rfl) rfl rfl hi<|Z3 (b:=jb) (o:=0+i * 4) rfl rj (Vo (by omega))<|Xw ?_
 intro H2 kH2 nH2 c2
 have c2:Cl H2 H1.next [iv 0,iv 0,iv 0,iv 0]:=c2
 have mH2:=kH2.1
 have hk:=hk.trans kH2
 have c1:=kH2.cl c1 (by simp)
 have rj:=kH2.rd rj (by simp)
 refine Xz (b:=H1.next) (o:=0) rfl rfl c2 (by omega) rfl rfl (by simp) ?_
 intro H3 kH3 nH3 sH3
 have mH3:=kH3.1
 have hk:=hk.new kH3 (fun b hb=>by simp at hb ⊢;omega)
 have c1:=kH3.cl c1 (by first | (simp;done) | (simp;omega))
 have rj:=kH3.rd rj (by first | (simp;done) | (simp;omega))
 have c2:Cl H3 H1.next [iv ((y.js.getD i Jb.z).b),iv ((y.js.getD i Jb.z).p),iv ((y.js.getD i Jb.z).u),iv ((y.js.getD i Jb.z).t)]:=sH3
 refine Zb<|W1 ?_
 have sb0:=(hy.keep hk).b
 rcases id sb0 with ⟨_,h0b,_⟩ | ⟨bb,eb,rb,_⟩
 ·omega
 have lb:=rb.1
 have ob:=hy.b.old bb eb
 have sp0:=(hy.keep hk).p
 rcases id sp0 with ⟨_,h0p,_⟩ | ⟨pb,ep,rp,_⟩
 ·omega
 have lp:=rp.1
 have op:=hy.p.old pb ep
 refine ZC (b:=H.next) (o:=0) rfl<|ZC (b:=H.next) (o:=0) rfl<|Yb (b:=H.next) (o:=1) (v:=.slice a.ba y.bs.length a.bc) rfl c1.rd rfl<|ZC (b:=H1.next) (o:=0) rfl<|Yb (b:=H1.next) (o:=0) (v:=iv ((y.js.getD i Jb.z).b)) rfl c2.rd rfl<|WJ (b:=bb) (o:=0) (k:=(y.js.getD i Jb.z).b.toNat) (j:=(y.js.getD i Jb.z).b) (by rw [← eb];rfl) rfl (by omega) (by omega)<|Uh (b:=bb) (o:=0+((y.js.getD i Jb.z).b.toNat) * 4) rfl rb (Up (l:=y.bs) (by omega))<|ZC (b:=H.next) (o:=0) rfl<|ZC (b:=H.next) (o:=0) rfl<|Yb (b:=H.next) (o:=0) (v:=.slice a.pa y.ps.length a.pc) rfl c1.rd rfl<|ZC (b:=H1.next) (o:=0) rfl<|Yb (b:=H1.next) (o:=1) (v:=iv ((y.js.getD i Jb.z).p)) rfl c2.rd rfl<|WJ (b:=pb) (o:=0) (k:=(y.js.getD i Jb.z).p.toNat) (j:=(y.js.getD i Jb.z).p) (by rw [← ep];rfl) rfl (by omega) (by omega)<|Uh (b:=pb) (o:=0+((y.js.getD i Jb.z).p.toNat) * 4) rfl rp (Q5 (by omega))<|j7 ?_
 intro H4 kH4 nH4 c4
 have c4:Cl H4 H3.next [iv 0,iv 0,iv 0,iv 0]:=c4
 have mH4:=kH4.1
 have hk:=hk.trans kH4
 have c1:=kH4.cl c1 (by simp)
 have rj:=kH4.rd rj (by simp)
 have c2:=kH4.cl c2 (by simp)
 have rb:=kH4.rd rb (by simp)
 have rp:=kH4.rd rp (by simp)
 refine j7 ?_
 intro H5 kH5 nH5 c5
 have c5:Cl H5 H4.next [iv 0,iv 0,.slice none 0 0,iv 0]:=c5
 have mH5:=kH5.1
 have hk:=hk.trans kH5
 have c1:=kH5.cl c1 (by simp)
 have rj:=kH5.rd rj (by simp)
 have c2:=kH5.cl c2 (by simp)
 have rb:=kH5.rd rb (by simp)
 have rp:=kH5.rd rp (by simp)
 have c4:=kH5.cl c4 (by simp)
 refine Zam (b:=H3.next) (o:=0) rfl rfl c4 (by omega) rfl rfl (by simp) ?_
 intro H6 kH6 nH6 sH6
 have mH6:=kH6.1
 have hk:=hk.new kH6 (fun b hb=>by simp at hb ⊢;omega)
 have c1:=kH6.cl c1 (by first | (simp;done) | (simp;omega))
 have rj:=kH6.rd rj (by first | (simp;done) | (simp;omega))
 have c2:=kH6.cl c2 (by first | (simp;done) | (simp;omega))
 have rb:=kH6.rd rb (by first | (simp;done) | (simp;omega))
 have rp:=kH6.rd rp (by first | (simp;done) | (simp;omega))
 have c5:=kH6.cl c5 (by first | (simp;done) | (simp;omega))
 have c4:Cl H6 H3.next [iv ((jB y (y.js.getD i Jb.z)).x),iv ((jB y (y.js.getD i Jb.z)).y),iv ((jB y (y.js.getD i Jb.z)).h),iv ((jB y (y.js.getD i Jb.z)).m)]:=sH6
 refine Zam (b:=H4.next) (o:=0) rfl rfl c5 (by omega) rfl rfl (by simp) ?_
 intro H7 kH7 nH7 sH7
 have mH7:=kH7.1
 have hk:=hk.new kH7 (fun b hb=>by simp at hb ⊢;omega)
 have c1:=kH7.cl c1 (by first | (simp;done) | (simp;omega))
 have rj:=kH7.rd rj (by first | (simp;done) | (simp;omega))
 have c2:=kH7.cl c2 (by first | (simp;done) | (simp;omega))
 have rb:=kH7.rd rb (by first | (simp;done) | (simp;omega))
 have rp:=kH7.rd rp (by first | (simp;done) | (simp;omega))
 have c4:=kH7.cl c4 (by first | (simp;done) | (simp;omega))
 have c5:Cl H7 H4.next [iv ((jP y (y.js.getD i Jb.z)).re),iv ((jP y (y.js.getD i Jb.z)).st),.slice ((a.ws ((y.js.getD i Jb.z).p.toNat)).1) ((jP y (y.js.getD i Jb.z)).wt.length) ((a.ws ((y.js.getD i Jb.z).p.toNat)).2),iv ((jP y (y.js.getD i Jb.z)).us)]:=sH7
 refine Xv (by repeat' first | exact True.intro | exact (fun h=>h) | refine And.intro ?_ ?_ | (intro h;have h:(_:Nat)=_:=h;omega)) ?_
 refine Ze<|Za rfl<|Zb<|Ze<|Zn (b:=H.next) (o:=0) rfl<|Zn (b:=H.next) (o:=0) rfl<|ZD (b:=H.next) (o:=2) (v:=.slice a.sa y.ss.length a.sc) rfl c1.rd rfl<|YL (m:=y.ss.length) rfl<|Za rfl<|Zb ?_
 have d8:Cl H7 (H3.next) [iv ((jB y (y.js.getD i Jb.z)).x),iv ((jB y (y.js.getD i Jb.z)).y),iv ((jB y (y.js.getD i Jb.z)).h),iv ((jB y (y.js.getD i Jb.z)).m)]:=c4
 have d9:Cl H7 (H4.next) [iv ((jP y (y.js.getD i Jb.z)).re),iv ((jP y (y.js.getD i Jb.z)).st),.slice ((a.ws (y.js.getD i Jb.z).p.toNat).1) ((jP y (y.js.getD i Jb.z)).wt.length) ((a.ws (y.js.getD i Jb.z).p.toNat).2),iv ((jP y (y.js.getD i Jb.z)).us)]:=c5
 have l8:=d8.1
 have l9:=d9.1
 refine YO (fn:=Try.f52) Zdu N52 Zez (fun z:Nat × Value=>[(2,iv d),(8,pt H3.next),(9,pt H4.next),(10,z.2),(36,.slice a.sa y.ss.length a.sc),(37,iv (y.ss.length:Int)),(38,iv (z.1:Int))])
  (fun k z H'=>z.1+k=y.ss.length∧Zf H H' []∧H7.next≤H'.next∧Cl H' (H3.next) [iv ((jB y (y.js.getD i Jb.z)).x),iv ((jB y (y.js.getD i Jb.z)).y),iv ((jB y (y.js.getD i Jb.z)).h),iv ((jB y (y.js.getD i Jb.z)).m)]∧Cl H' (H4.next) [iv ((jP y (y.js.getD i Jb.z)).re),iv ((jP y (y.js.getD i Jb.z)).st),.slice ((a.ws (y.js.getD i Jb.z).p.toNat).1) ((jP y (y.js.getD i Jb.z)).wt.length) ((a.ws (y.js.getD i Jb.z).p.toNat).2),iv ((jP y (y.js.getD i Jb.z)).us)]∧Acc lo H7.next 3 H' z.2 (rcT y (y.js.getD i Jb.z) d z.1).length (cI (rcT y (y.js.getD i Jb.z) d z.1))) y.ss.length (0,.slice none 0 0) ⟨by simp,hk,by omega,d8,d9,.inl ⟨rfl,rfl,rfl⟩⟩ ⟨rfl,rfl,rfl,rfl,rfl,rfl,rfl,trivial⟩ ?_
 rintro q ⟨k,wv⟩ L1 ⟨hik,hk,hnx,d8,d9,hacc⟩
 simp only [] at hik hacc
 have mk:=hk.1
 have kacc:=Zf.refl L1 []
 have hrl:=qI (y:=y) (j:=(y.js.getD i Jb.z)) (d:=d) k
 refine Ze<|YY (a:=(k:Int)) (b:=(y.ss.length:Int)) rfl rfl<|Zb ?_
 refine And.intro (fun q1=>?_) (fun q1=>?_)
 ·have q1:(k:Int) < (y.ss.length:Int):=of_decide_eq_true q1
  have hkl:k < y.ss.length:=by omega
  have ss0:=(hy.keep hk).s
  rcases id ss0 with ⟨_,h0s,_⟩ | ⟨sb,es,rs,_⟩
  ·omega
  have ls:=rs.1
  have os:=hy.s.old sb es
  have hsk:=Zfn (XZ (z:=Sd.z) hvS hkl)
  first | refine ZK ?_ | skip
  refine Ze<|Za rfl<|XH (b:=sb) (o:=0) (k:=k) (j:=(k:Int)) (by rw [← es];rfl) rfl rfl hkl<|Z3 (b:=sb) (o:=0+k * 4) rfl rs (zs (by omega))<|Xw ?_
  intro H8 kH8 nH8 c8
  have c8:Cl H8 L1.next [iv 0,iv 0,iv 0,iv 0]:=c8
  have mH8:=kH8.1
  have hk:=hk.trans kH8
  have d8:=kH8.cl d8 (by simp)
  have d9:=kH8.cl d9 (by simp)
  have kacc:=kacc.trans kH8
  have rs:=kH8.rd rs (by simp)
  refine Za rfl<|Xz (b:=L1.next) (o:=0) rfl rfl c8 (by omega) rfl rfl (by simp) ?_
  intro H9 kH9 nH9 sH9
  have mH9:=kH9.1
  have hk:=hk.new kH9 (fun b hb=>by simp at hb ⊢;omega)
  have d8:=kH9.cl d8 (by first | (simp;done) | (simp;omega))
  have d9:=kH9.cl d9 (by first | (simp;done) | (simp;omega))
  have kacc:=kacc.new kH9 (fun b hb=>by simp at hb ⊢;omega)
  have rs:=kH9.rd rs (by first | (simp;done) | (simp;omega))
  have c8:Cl H9 L1.next [iv ((y.ss.getD k Sd.z).x),iv ((y.ss.getD k Sd.z).y),iv ((y.ss.getD k Sd.z).u),iv ((y.ss.getD k Sd.z).t)]:=sH9
  refine Zb<|W1<|ZC (b:=L1.next) (o:=0) rfl<|Yb (b:=L1.next) (o:=0) (v:=iv ((y.ss.getD k Sd.z).x)) rfl c8.rd rfl<|ZC (b:=H3.next) (o:=0) rfl<|Yb (b:=H3.next) (o:=0) (v:=iv ((jB y (y.js.getD i Jb.z)).x)) rfl d8.rd rfl<|qe (a:=(y.ss.getD k Sd.z).x) (b:=(jB y (y.js.getD i Jb.z)).x) rfl rfl ⟨by omega,by omega⟩ ?_
  obtain ⟨H10,fH10,kH10⟩:=ZaY (kn:=kn) (lo:=H9.next) (H:=H9) (n:=((y.ss.getD k Sd.z).x) - ((jB y (y.js.getD i Jb.z)).x)) ⟨by omega,by omega⟩
  have bH10:=qp (n:=((y.ss.getD k Sd.z).x) - ((jB y (y.js.getD i Jb.z)).x)) ⟨by omega,by omega⟩
  refine Uo (vs:=[iv (((y.ss.getD k Sd.z).x) - ((jB y (y.js.getD i Jb.z)).x))]) rfl rfl (Zk fH10) ?_
  have mH10:=kH10.1
  have hk:=hk.trans kH10
  have d8:=kH10.cl d8 (by simp)
  have d9:=kH10.cl d9 (by simp)
  have kacc:=kacc.trans kH10
  have rs:=kH10.rd rs (by simp)
  have c8:=kH10.cl c8 (by simp)
  refine ZC (b:=L1.next) (o:=0) rfl<|Yb (b:=L1.next) (o:=1) (v:=iv ((y.ss.getD k Sd.z).y)) rfl c8.rd rfl<|ZC (b:=H3.next) (o:=0) rfl<|Yb (b:=H3.next) (o:=1) (v:=iv ((jB y (y.js.getD i Jb.z)).y)) rfl d8.rd rfl<|qe (a:=(y.ss.getD k Sd.z).y) (b:=(jB y (y.js.getD i Jb.z)).y) rfl rfl ⟨by omega,by omega⟩ ?_
  obtain ⟨H11,fH11,kH11⟩:=ZaY (kn:=kn) (lo:=H10.next) (H:=H10) (n:=((y.ss.getD k Sd.z).y) - ((jB y (y.js.getD i Jb.z)).y)) ⟨by omega,by omega⟩
  have bH11:=qp (n:=((y.ss.getD k Sd.z).y) - ((jB y (y.js.getD i Jb.z)).y)) ⟨by omega,by omega⟩
  refine Uo (vs:=[iv (((y.ss.getD k Sd.z).y) - ((jB y (y.js.getD i Jb.z)).y))]) rfl rfl (Zk fH11) ?_
  have mH11:=kH11.1
  have hk:=hk.trans kH11
  have d8:=kH11.cl d8 (by simp)
  have d9:=kH11.cl d9 (by simp)
  have kacc:=kacc.trans kH11
  have rs:=kH11.rd rs (by simp)
  have c8:=kH11.cl c8 (by simp)
  refine QS (a:=((((y.ss.getD k Sd.z).x) - ((jB y (y.js.getD i Jb.z)).x)) * (((y.ss.getD k Sd.z).x) - ((jB y (y.js.getD i Jb.z)).x)))) (b:=((((y.ss.getD k Sd.z).y) - ((jB y (y.js.getD i Jb.z)).y)) * (((y.ss.getD k Sd.z).y) - ((jB y (y.js.getD i Jb.z)).y)))) rfl rfl ⟨by omega,by omega⟩<|ZC (b:=H4.next) (o:=0) rfl<|Yb (b:=H4.next) (o:=0) (v:=iv ((jP y (y.js.getD i Jb.z)).re)) rfl d9.rd rfl ?_
  obtain ⟨H12,fH12,kH12⟩:=ZaY (kn:=kn) (lo:=lo) (H:=H11) (n:=(jP y (y.js.getD i Jb.z)).re) ⟨by omega,by omega⟩
  have bH12:=qp (n:=(jP y (y.js.getD i Jb.z)).re) ⟨by omega,by omega⟩
  refine Zav (vs:=[iv ((jP y (y.js.getD i Jb.z)).re)]) rfl (Zk fH12) ?_
  have mH12:=kH12.1
  have hk:=hk.trans kH12
  have d8:=kH12.cl d8 (by simp)
  have d9:=kH12.cl d9 (by simp)
  have kacc:=kacc.trans kH12
  have rs:=kH12.rd rs (by simp)
  have c8:=kH12.cl c8 (by simp)
  have hnear:((((((y.ss.getD k Sd.z).x) - ((jB y (y.js.getD i Jb.z)).x)) * (((y.ss.getD k Sd.z).x) - ((jB y (y.js.getD i Jb.z)).x)))+((((y.ss.getD k Sd.z).y) - ((jB y (y.js.getD i Jb.z)).y)) * (((y.ss.getD k Sd.z).y) - ((jB y (y.js.getD i Jb.z)).y))))≤(((jP y (y.js.getD i Jb.z)).re) * ((jP y (y.js.getD i Jb.z)).re)))↔((y.ss.getD k Sd.z).x - (jB y (y.js.getD i Jb.z)).x) * ((y.ss.getD k Sd.z).x - (jB y (y.js.getD i Jb.z)).x)+((y.ss.getD k Sd.z).y - (jB y (y.js.getD i Jb.z)).y) * ((y.ss.getD k Sd.z).y - (jB y (y.js.getD i Jb.z)).y)≤(jP y (y.js.getD i Jb.z)).re * (jP y (y.js.getD i Jb.z)).re:=Iff.rfl
  obtain ⟨nr,hnr⟩:∃ nr:Bool,decide ((((((y.ss.getD k Sd.z).x) - ((jB y (y.js.getD i Jb.z)).x)) * (((y.ss.getD k Sd.z).x) - ((jB y (y.js.getD i Jb.z)).x)))+((((y.ss.getD k Sd.z).y) - ((jB y (y.js.getD i Jb.z)).y)) * (((y.ss.getD k Sd.z).y) - ((jB y (y.js.getD i Jb.z)).y))))≤(((jP y (y.js.getD i Jb.z)).re) * ((jP y (y.js.getD i Jb.z)).re)))=nr:=⟨_,rfl⟩
  have hnp:nr=true↔((y.ss.getD k Sd.z).x - (jB y (y.js.getD i Jb.z)).x) * ((y.ss.getD k Sd.z).x - (jB y (y.js.getD i Jb.z)).x)+((y.ss.getD k Sd.z).y - (jB y (y.js.getD i Jb.z)).y) * ((y.ss.getD k Sd.z).y - (jB y (y.js.getD i Jb.z)).y)≤(jP y (y.js.getD i Jb.z)).re * (jP y (y.js.getD i Jb.z)).re:=by rw [← hnr,decide_eq_true_eq]
  refine yc (a:=((((y.ss.getD k Sd.z).x) - ((jB y (y.js.getD i Jb.z)).x)) * (((y.ss.getD k Sd.z).x) - ((jB y (y.js.getD i Jb.z)).x)))+((((y.ss.getD k Sd.z).y) - ((jB y (y.js.getD i Jb.z)).y)) * (((y.ss.getD k Sd.z).y) - ((jB y (y.js.getD i Jb.z)).y)))) (b:=(((jP y (y.js.getD i Jb.z)).re) * ((jP y (y.js.getD i Jb.z)).re))) rfl rfl ?_
  rw [hnr]
  refine Yr rfl ?_
  refine Xv (by repeat' first | exact True.intro | exact (fun h=>h) | refine And.intro ?_ ?_ | (intro h;have h:(_:Nat)=_:=h;omega)) ?_
  refine Ze<|Za rfl<|Za rfl ?_
  cases nr
  ·have hnq:=fun q=>Bool.false_ne_true (hnp.2 q)
   refine Zh rfl<|Zh rfl<|Zh rfl<|Zh rfl<|Zg (v:=.bool false) rfl rfl<|Za rfl<|Zh rfl<|Zh rfl<|Zh rfl<|Zh rfl<|Zh rfl<|Zh rfl<|Zh rfl<|Zg (v:=.bool false) rfl rfl<|Zb<|YI ?_
   have hrc:rcB y (y.js.getD i Jb.z) d (y.ss.getD k Sd.z)=false:=by rw [← Bool.not_eq_true];simp only [rcB,Bool.and_eq_true,decide_eq_true_eq];intro q;first | exact hnq q.1.1 | omega
   first | refine ZK ?_ | skip
   show Zw _ _ _ _ _ _ _ _
   refine Yw (a:=(k:Int)) (b:=1) rfl rfl ⟨by omega,by omega⟩<|Za rfl<|Zb ?_
   have hacc2:Acc lo H7.next 3 H12 wv (rcT y (y.js.getD i Jb.z) d (k+1)).length (cI (rcT y (y.js.getD i Jb.z) d (k+1))):=by rw [Zas hrc];exact hacc.keep kacc
   exact ⟨q - 1,(k+1,_),by omega,⟨by simp only [];omega,hk,by omega,d8,d9,hacc2⟩,rfl,rfl,rfl,rfl,rfl,rfl,rfl,trivial⟩
  ·have hnq:=hnp.1 rfl
   refine Zs rfl (Za rfl ?_)
   refine Zs rfl (Zn (b:=L1.next) (o:=0) rfl ?_)
   refine Zs rfl (ZD (b:=L1.next) (o:=3) (v:=iv ((y.ss.getD k Sd.z).t)) rfl c8.rd rfl ?_)
   refine Zs rfl (XP (a:=d) (b:=(y.ss.getD k Sd.z).t) rfl rfl ?_)
   intro t2 g2;cases t2
   ·have g2:¬ (d≤((y.ss.getD k Sd.z).t)):=of_decide_eq_false g2
    refine Zg (v:=.bool false) rfl rfl<|Za rfl<|Zh rfl<|Zh rfl<|Zh rfl<|Zh rfl<|Zh rfl<|Zh rfl<|Zh rfl<|Zg (v:=.bool false) rfl rfl<|Zb<|YI ?_
    have hrc:rcB y (y.js.getD i Jb.z) d (y.ss.getD k Sd.z)=false:=by rw [← Bool.not_eq_true];simp only [rcB,Bool.and_eq_true,decide_eq_true_eq];intro q;first | exact hnq q.1.1 | omega
    first | refine ZK ?_ | skip
    show Zw _ _ _ _ _ _ _ _
    refine Yw (a:=(k:Int)) (b:=1) rfl rfl ⟨by omega,by omega⟩<|Za rfl<|Zb ?_
    have hacc2:Acc lo H7.next 3 H12 wv (rcT y (y.js.getD i Jb.z) d (k+1)).length (cI (rcT y (y.js.getD i Jb.z) d (k+1))):=by rw [Zas hrc];exact hacc.keep kacc
    exact ⟨q - 1,(k+1,_),by omega,⟨by simp only [];omega,hk,by omega,d8,d9,hacc2⟩,rfl,rfl,rfl,rfl,rfl,rfl,rfl,trivial⟩
   ·have g2:d≤((y.ss.getD k Sd.z).t):=of_decide_eq_true g2
    refine Zg (v:=.bool true) rfl rfl<|Za rfl ?_
    refine Zs rfl (Zn (b:=L1.next) (o:=0) rfl ?_)
    refine Zs rfl (ZD (b:=L1.next) (o:=2) (v:=iv ((y.ss.getD k Sd.z).u)) rfl c8.rd rfl ?_)
    refine Zs rfl (Za rfl ?_)
    refine Zs rfl (Zn (b:=H4.next) (o:=0) rfl ?_)
    refine Zs rfl (ZD (b:=H4.next) (o:=1) (v:=iv ((jP y (y.js.getD i Jb.z)).st)) rfl d9.rd rfl ?_)
    refine Zs rfl (Yw (a:=d) (b:=(jP y (y.js.getD i Jb.z)).st) rfl rfl ⟨by omega,by omega⟩ ?_)
    refine Zs rfl (XP (a:=(y.ss.getD k Sd.z).u) (b:=d+((jP y (y.js.getD i Jb.z)).st)) rfl rfl ?_)
    intro t3 g3;cases t3
    ·have g3:¬ (((y.ss.getD k Sd.z).u)≤(d+((jP y (y.js.getD i Jb.z)).st))):=of_decide_eq_false g3
     refine Zg (v:=.bool false) rfl rfl<|Zb<|YI ?_
     have hrc:rcB y (y.js.getD i Jb.z) d (y.ss.getD k Sd.z)=false:=by rw [← Bool.not_eq_true];simp only [rcB,Bool.and_eq_true,decide_eq_true_eq];intro q;first | exact hnq q.1.1 | omega
     first | refine ZK ?_ | skip
     show Zw _ _ _ _ _ _ _ _
     refine Yw (a:=(k:Int)) (b:=1) rfl rfl ⟨by omega,by omega⟩<|Za rfl<|Zb ?_
     have hacc2:Acc lo H7.next 3 H12 wv (rcT y (y.js.getD i Jb.z) d (k+1)).length (cI (rcT y (y.js.getD i Jb.z) d (k+1))):=by rw [Zas hrc];exact hacc.keep kacc
     exact ⟨q - 1,(k+1,_),by omega,⟨by simp only [];omega,hk,by omega,d8,d9,hacc2⟩,rfl,rfl,rfl,rfl,rfl,rfl,rfl,trivial⟩
    ·have g3:((y.ss.getD k Sd.z).u)≤(d+((jP y (y.js.getD i Jb.z)).st)):=of_decide_eq_true g3
     refine Zg (v:=.bool true) rfl rfl<|Zb<|YN ?_
     have hrc:rcB y (y.js.getD i Jb.z) d (y.ss.getD k Sd.z)=true:=by simp only [rcB,Bool.and_eq_true,decide_eq_true_eq];exact ⟨⟨hnq,by omega⟩,by omega⟩
     show Zw _ _ _ _ _ _ _ _
     refine Za rfl<|Za rfl ?_
     obtain ⟨H13,hH13⟩:∃ H13,H12.new (.cells [iv (k:Int)] 3 false)=H13:=⟨_,rfl⟩
     refine Xs (H':=H13) (k:=.heavy) rfl (by kernel_rfl) ((X3 (v:=iv (k:Int)) y9 zo3 rfl rfl rfl (by decide)).trans (by rw [← hH13];rfl)) (fun b e=>by cases e) ?_
     obtain ⟨kH13,nH13,c13⟩:=ZM hH13;clear hH13
     have c13:Cl H13 H12.next [iv (k:Int)]:=c13
     have mH13:=kH13.1
     have hk:=hk.trans kH13
     have d8:=kH13.cl d8 (by simp)
     have d9:=kH13.cl d9 (by simp)
     have kacc:=kacc.trans kH13
     have rs:=kH13.rd rs (by simp)
     have c8:=kH13.cl c8 (by simp)
     obtain ⟨H14,kdH14,eH14,dH14,aH14,kbH14⟩:=Ul (P:=Try.prog) (lo:=lo) (k:=(rcT y (y.js.getD i Jb.z) d k).length) (t1:=28) y9 Zcs (c13.sl (Nat.le_refl 1)) rfl (by decide) rfl (by rw [Zau];omega) (by omega) (hacc.keep kacc) (by omega) (by omega)
     refine Xs (k:=kdH14) rfl (by cases wv<;>kernel_rfl) (eH14 _ _ _ _ _ _ _ rfl rfl) (KZ dH14 _) ?_
     have hk:=kbH14.keep hk (by omega)
     have d8:=kbH14.cl d8 (by omega)
     have d9:=kbH14.cl d9 (by omega)
     have mH14:=kbH14.1
     refine Za rfl<|Zb ?_
     show Zw _ _ _ _ _ _ _ _
     refine Yw (a:=(k:Int)) (b:=1) rfl rfl ⟨by omega,by omega⟩<|Za rfl<|Zb ?_
     have hacc2:Acc lo H7.next 3 H14 (.slice (some ⟨H13.next,0,none⟩) ((rcT y (y.js.getD i Jb.z) d k).length+1) ((rcT y (y.js.getD i Jb.z) d k).length+1)) (rcT y (y.js.getD i Jb.z) d (k+1)).length (cI (rcT y (y.js.getD i Jb.z) d (k+1))):=by rw [Zeb hrc];unfold cI at *;rw [List.map_append,List.length_append];exact aH14
     exact ⟨q - 1,(k+1,_),by omega,⟨by simp only [];omega,hk,by omega,d8,d9,hacc2⟩,rfl,rfl,rfl,rfl,rfl,rfl,rfl,trivial⟩
 ·have q1:¬ ((k:Int) < (y.ss.length:Int)):=of_decide_eq_false q1
  first | (refine Vb ?_;show wC _ _ _ _ _ _ _ _ _) | skip
  refine Ze<|Za rfl<|Za rfl<|Zb ?_
  have ein:k=y.ss.length:=by omega
  rw [ein] at hacc
  exact And.intro trivial (Exists.intro _ (And.intro rfl ⟨(hacc.keep kacc).low (by omega),hk⟩))
end
end
end Go.Ax

/-! Steps of drawn regions where what is only read lies low (written by program,out of the others). -/
namespace Go.Ax
open Go Go.RowKit
section
variable {P:Program} {kn:Kn} {lo n:Nat} {masks:List Nat} {r:List RO} {ks:List Kd} {S:Rg} {H:Hp} {K:Rg→Hp→Prop} {d:Option Nat} {x y:Operand} {rd:Bool} {a b:Int}
end
end Go.Ax

/-! Lists that append makes side by side;blocks that do not move. -/
namespace Go.Ax
open Go Go.RowKit

def bkv:Value→Option Nat
 | .slice (some ⟨b,_,_⟩) _ _=>some b
 | _=>none
def Ap (v w:Value):Prop:=∀ b c,bkv v=some b→bkv w=some c→b≠c
theorem Ap.symm {v w:Value} (h:Ap v w):Ap w v:=fun b c h1 h2 e=>h c b h2 h1 e.symm
theorem Acc.ap {lo f:Nat} {e:TypeId} {H:Hp} {w:Value} {m:Nat} {ds:List Value} (h:Acc lo f e H w m ds) (i j:Nat):Ap (.slice (some ⟨H.next,0,none⟩) i j) w:=by
 intro b c h1 h2 e1
 rcases h with ⟨_,_,rfl⟩ | ⟨b2,rfl,_,_,_,hn,_⟩
 ·simp [bkv] at h2
 ·simp [bkv] at h1 h2;omega
def AcL (lo f:Nat) (e:TypeId) (H:Hp) (l:List (Value × Nat × List Value)):Prop:=(∀ x∈l,Acc lo f e H x.1 x.2.1 x.2.2)∧l.Pairwise fun x y=>Ap x.1 y.1
theorem AcL.keep {lo f:Nat} {e:TypeId} {H H1:Hp} {l:List (Value × Nat × List Value)} (h:AcL lo f e H l) (k:Zf H H1 []):AcL lo f e H1 l:=⟨fun x hx=>(h.1 x hx).keep k,h.2⟩
theorem AcL.keepW {lo f:Nat} {e:TypeId} {H H1:Hp} {l:List (Value × Nat × List Value)} (h:AcL lo f e H l) {x:Nat} (k:Zf H H1 [x]) (hx:x < f):AcL lo f e H1 l:=⟨fun y hy=>(h.1 y hy).keepW k hx,h.2⟩
def Sc (H:Hp) (b:Nat) (cs:List Value):Prop:=b < H.next∧∃ e,H.t.get b=some (.cells cs e false)
theorem Sc.cl {H:Hp} {b:Nat} {cs:List Value} (h:Sc H b cs):Cl H b cs:=by
 obtain ⟨h1,e,h2⟩:=h;exact ⟨h1,e,false,h2⟩
theorem Sc.lt {H:Hp} {b:Nat} {cs:List Value} (h:Sc H b cs):b < H.next:=h.1
theorem Zf.sc {H H1:Hp} {l:List Nat} (k:Zf H H1 l) {b:Nat} {cs:List Value} (h:Sc H b cs) (hl:b ∉ l):Sc H1 b cs:=by
 obtain ⟨h1,e,h2⟩:=h;exact ⟨Nat.lt_of_lt_of_le h1 k.1,e,by rw [k.2 b h1 hl];exact h2⟩
theorem Wq.sc {f:Nat} {H H1:Hp} (k:Wq f H H1) {b:Nat} {cs:List Value} (h:Sc H b cs) (hl:b < f):Sc H1 b cs:=by
 obtain ⟨h1,e,h2⟩:=h;exact ⟨Nat.lt_of_lt_of_le h1 k.1,e,by rw [k.2 b hl];exact h2⟩
def Fx (H:Hp) (b:Nat) (cs:List Value):Prop:=b < H.next∧(H.t.get b=some (.ro cs)∨(∃ e,H.t.get b=some (.cells cs e false))∨H.t.get b=some (.cells cs 3 true))
theorem Fx.rd {H:Hp} {b:Nat} {cs:List Value} (h:Fx H b cs):Rd H b cs:=by
 obtain ⟨h1,h2 | ⟨e,h2⟩ | h2⟩:=h<;>exact ⟨h1,by unfold cellsOf;rw [h2]⟩
theorem Fx.lt {H:Hp} {b:Nat} {cs:List Value} (h:Fx H b cs):b < H.next:=h.1
end Go.Ax

/-
 Pool: the days of a job (48,79,46) (written by program).
-/
namespace Go.Ax
open Go Go.RowKit Go.Proofs

noncomputable section
theorem Wf {P:Program} {lo:Nat} {H:Hp} {t0 t1 e ep:TypeId} {size k cap2 f:Nat} {a:Option Addr} {v:Value} {cs news:List Value} (he:ZZ P t0=some (e,size)) (ht:P.underlying t1=some (.slice ep))
  (hs:Sl H a 1 cap2 news) (hl:news.length=1 * size) (hz:0 < size) (hone:news.all one=true) (hcl:cs.length=k * size) (hk:k < 1000) (ha:Acc lo f e H v k cs) (hlo:lo≤H.next) (hf:f≤H.next) :
  ∃ H1 kd,(∀ (n:Nat) (S:Rg) (d:Option Tmp) (x y:Operand) (ty:TypeId) (p:String),evS S x=some v→evS S y=some (.slice a 1 cap2)→Zu P lo (frS n S) H ⟨d,.call ⟨.builtin .append,#[x,y],#[t0,t1]⟩,ty,p,#[],none⟩=some (.val (.slice (some ⟨H.next,0,none⟩) (k+1) (k+1)) H1,kd))∧(kd=.heavy∨∃ b,kd=.store b∧f≤b)∧
   Acc lo f e H1 (.slice (some ⟨H.next,0,none⟩) (k+1) (k+1)) (k+1) (cs ++ news)∧Zf H H1 (bkv v).toList:=by
 rcases ha with ⟨rfl,rfl,rfl⟩ | ⟨b,rfl,h0,hb,hlb,hn,hg⟩
 ·refine ⟨H.new (.cells news e true),.heavy,?_,.inl rfl,?_,(ZM rfl).1.mono (by simp)⟩
  ·intro n S d x y ty p hx hy
   unfold Zu
   simp only [evs,YC,hx,hy,Ys,List.getElem?_toArray,List.getElem?_cons_zero,List.getElem?_cons_succ,he,ht,zc hs hl,Z6]
   rfl
  ·refine .inr ⟨H.next,rfl,by omega,hf,hlo,Nat.lt_succ_self _,?_⟩
   show (H.t.set H.next _).get H.next=_
   rw [Tr.get_set,if_pos rfl];rfl
 ·have h1:Nat.ble (0+(k+1) * size) cs.length=false:=by
   cases h:Nat.ble (0+(k+1) * size) cs.length with
   | false=>rfl
   | true=>have:=Nat.le_of_ble_eq_true h;rw [hcl,Nat.succ_mul] at this;omega
  have h2:Nat.beq (0+k * size) cs.length=true:=by rw [hcl,Nat.zero_add];exact Nat.beq_refl _
  have h3:Nat.ble (k+1) 1048576=true:=Nat.ble_eq_true_of_le (by omega)
  have h4:Nat.beq e e=true:=Nat.beq_refl e
  refine ⟨({ H with t:=H.t.set b .dead }:Hp).new (.cells (cs ++ news) e true),.store b,?_,.inr ⟨b,rfl,hb⟩,?_,?_⟩
  ·intro n S d x y ty p hx hy
   unfold Zu
   simp only [evs,YC,hx,hy,Ys,List.getElem?_toArray,List.getElem?_cons_zero,List.getElem?_cons_succ,he,ht,zc hs hl,Z6,hg,h1,h2,h3,h4,hone,Nat.ble_eq_true_of_le hlb,Bool.and_self,cond_true,cond_false,List.drop_zero,show Nat.beq 1 0=false from rfl]
  ·refine .inr ⟨H.next,rfl,by omega,hf,hlo,Nat.lt_succ_self _,?_⟩
   show ((H.t.set b .dead).set H.next _).get H.next=_
   rw [Tr.get_set,if_pos rfl]
  ·refine ⟨Nat.le_succ _,fun c hc hn=>?_,fun c xs hc hx=>?_⟩
   ·have hne:c≠b:=by simpa [bkv] using hn
    show ((H.t.set b .dead).set H.next _).get c=_
    rw [Tr.get_set,if_neg (by omega),Tr.get_set,if_neg hne]
   ·have hx:((H.t.set b .dead).set H.next (.cells (cs ++ news) e true)).get c=some (.ro xs):=hx
    have hc:c < H.next+1:=hc
    rw [Tr.get_set] at hx
    split at hx
    ·cases hx
    ·rw [Tr.get_set] at hx
     split at hx
     ·cases hx
     ·exact ⟨by omega,hx⟩
theorem U1 {lo f:Nat} {e:TypeId} {H:Hp} {v:Value} {n:Nat} {cs:List Value} (h:Acc lo f e H v n cs):∀ x∈(bkv v).toList,f≤x∧x < H.next:=by
 intro x hx
 rcases h with ⟨_,_,rfl⟩ | ⟨b,rfl,_,h2,_,h3,_⟩
 ·simp [bkv] at hx
 ·simp [bkv] at hx;subst hx;exact ⟨h2,h3⟩
def nd (y:Yd) (i:Nat):Nat:=(min (y.js.getD i Jb.z).t (dl y (y.js.getD i Jb.z))+1 - (y.js.getD i Jb.z).u).toNat
theorem ZaH {y:Yd} {i:Nat} (h:JbT y (y.js.getD i Jb.z)):nd y i≤41:=by
 have:=h.jj;unfold nd;omega
def dyT (y:Yd) (i:Nat):Nat→List Int
 | 0=>[]
 | n+1=>dyT y i n ++ (if (rcL y (y.js.getD i Jb.z) ((y.js.getD i Jb.z).u+(n:Int))).length=0 then [(y.js.getD i Jb.z).u+(n:Int)] else [])
def dyL (y:Yd) (i:Nat):List Int:=dyT y i (nd y i)
theorem zg {y:Yd} {i:Nat}:∀ n,(dyT y i n).length≤n
 | 0=>Nat.le_refl _
 | n+1=>by
  have:=zg (y:=y) (i:=i) n
  unfold dyT
  rw [List.length_append]
  split<;>simp<;>omega
theorem Zev {y:Yd} {i n:Nat} (h:(rcL y (y.js.getD i Jb.z) ((y.js.getD i Jb.z).u+(n:Int))).length=0):dyT y i (n+1)=dyT y i n ++ [(y.js.getD i Jb.z).u+(n:Int)]:=by
 show _ ++ (if _ then _ else _)=_;rw [if_pos h]
theorem Zeo {y:Yd} {i n:Nat} (h:¬ (rcL y (y.js.getD i Jb.z) ((y.js.getD i Jb.z).u+(n:Int))).length=0):dyT y i (n+1)=dyT y i n:=by
 show _ ++ (if _ then _ else _)=_;rw [if_neg h,List.append_nil]
section
variable {kn:Kn} {lo:Nat} {H:Hp}
theorem Zdc {a:Ya} {y:Yd} {i:Nat} (hlo:lo≤H.next):∃ H',FnX Try.prog kn lo 48 [.agg (Ya.f a y).toArray,iv (i:Int)] H (.func (.func 79) #[] #[pt H.next,pt (H.next+1)]) H'∧Rd H' H.next (Ya.f a y)∧Rd H' (H.next+1) [iv (i:Int)]∧H'.next=H.next+2∧Zf H H' []:=by
 have key:=Zt (kn:=kn) (lo:=lo) (H:=H) (args:=[.agg (Ya.f a y).toArray,iv (i:Int)]) (Q:=fun w H'=>w=(.func (.func 79) #[] #[pt H.next,pt (H.next+1)])∧Rd H' H.next (Ya.f a y)∧Rd H' (H.next+1) [iv (i:Int)]∧H'.next=H.next+2∧Zf H H' []) Try.func48 B48 N48 Z48 L48 (by simp) ?_
 ·obtain ⟨w,H',h,rfl,q⟩:=key;exact ⟨H',h,q⟩
 have hk:=Zf.refl H []
 refine Ze<|Ye (v:=.agg (Ya.f a y).toArray) rfl ?_
 intro H1 kH1 nH1 c1
 have c1:Cl H1 H.next [.slice a.pa y.ps.length a.pc,.slice a.ba y.bs.length a.bc,.slice a.sa y.ss.length a.sc,.slice a.ja y.js.length a.jc]:=c1
 have mH1:=kH1.1
 have hk:=hk.trans kH1
 refine Ye (v:=iv (i:Int)) rfl ?_
 intro H2 kH2 nH2 c2
 have c2:Cl H2 H1.next [iv (i:Int)]:=c2
 have mH2:=kH2.1
 have hk:=hk.trans kH2
 have c1:=kH2.cl c1 (by simp)
 refine Za rfl<|Zb<|Ze<|Zg (v:=.func (.func 79) #[] #[pt H.next,pt H1.next]) rfl (by kernel_rfl)<|Za rfl<|Zb ?_
 have e2:H1.next=H.next+1:=by omega
 rw [e2] at c2
 exact And.intro trivial (Exists.intro _ (And.intro rfl ⟨by rw [e2];rfl,c1.rd,c2.rd,by omega,hk⟩))
set_option maxRecDepth 100000 in
set_option maxHeartbeats 1000000 in
theorem jz {a:Ya} {y:Yd} (hB:YaB y) (hv:vY y=true) {i:Nat} (hi:i < y.js.length) {J:Nat→Hp→Prop} {l bY bI:Nat} (hlo:lo≤H.next)
  (jm:∀ m H1 H2,J m H1→Zf H1 H2 []→J m H2) (je:∀ m H1,J m H1→Rd H1 bY (Ya.f a y)∧Rd H1 bI [iv (i:Int)]∧YaH H1 a y)
  (step:∀ m H1 v u,u=(y.js.getD i Jb.z).u+((m:Nat):Int)→m < nd y i→J m H1→H.next < H1.next→Acc lo (H.next+1) 3 H1 v (rcL y (y.js.getD i Jb.z) u).length (cI (rcL y (y.js.getD i Jb.z) u))→∃ H2,ZJ Try.prog kn lo (.fn (.yield l) #[]) [iv u,v] H1 (.bool true) H2∧J (m+1) H2∧H1.next≤H2.next∧H2.t.get H.next=H1.t.get H.next) (hJ:J 0 H) :
  ∃ H',FnX Try.prog kn lo 79 [.func (.yield l) #[] #[],pt bY,pt bI] H ZeC H'∧J (nd y i) H':=by
 have key:=Zt (kn:=kn) (lo:=lo) (H:=H) (args:=[.func (.yield l) #[] #[],pt bY,pt bI]) (Q:=fun w H'=>w=ZeC∧J (nd y i) H') Try.func79 B79 N79 Z79 L79 (by simp) ?_
 ·obtain ⟨w,H',h,rfl,q⟩:=key;exact ⟨H',h,q⟩
 have hjt:=zu hv hi
 have hj:=hjt.jj
 have hjb:=hjt.bb
 have hwl:(jP y (y.js.getD i Jb.z)).wt.length≤8:=hjt.pp.2.2.2.2.2.2.1
 have hB1:=hB.1
 have hB2:=hB.2.1
 have hB3:=hB.2.2.1
 obtain ⟨rY,rI,hy⟩:=je _ _ hJ
 have hk:=Zf.refl H []
 have lY:=rY.lt
 have lI:=rI.lt
 refine Ze ?_
 have sj0:=(hy.keep hk).j
 rcases id sj0 with ⟨_,h0j,_⟩ | ⟨jb,ej,rj,_⟩
 ·omega
 have lj:=rj.1
 have oj:=hy.j.old jb ej
 refine Zn (b:=bY) (o:=0) rfl<|Zn (b:=bY) (o:=0) rfl<|ZD (b:=bY) (o:=3) (v:=.slice a.ja y.js.length a.jc) rfl rY rfl<|ZD (b:=bI) (o:=0) (v:=iv (i:Int)) rfl rI rfl<|XH (b:=jb) (o:=0) (k:=i) (j:=(i:Int)) (by rw [← ej];rfl) rfl rfl hi<|Z3 (b:=jb) (o:=0+i * 4) rfl rj (Vo (by omega))<|Xw ?_
 intro H1 kH1 nH1 c1
 have c1:Cl H1 H.next [iv 0,iv 0,iv 0,iv 0]:=c1
 have mH1:=kH1.1
 have hk:=hk.trans kH1
 have rY:=kH1.rd rY (by simp)
 have rI:=kH1.rd rI (by simp)
 have rj:=kH1.rd rj (by simp)
 refine Xz (b:=H.next) (o:=0) rfl rfl c1 (by omega) rfl rfl (by simp) ?_
 intro H2 kH2 nH2 sH2
 have mH2:=kH2.1
 have hk:=hk.new kH2 (fun b hb=>by simp at hb ⊢;omega)
 have rY:=kH2.rd rY (by first | (simp;done) | (simp;omega))
 have rI:=kH2.rd rI (by first | (simp;done) | (simp;omega))
 have rj:=kH2.rd rj (by first | (simp;done) | (simp;omega))
 have c1:Cl H2 H.next [iv ((y.js.getD i Jb.z).b),iv ((y.js.getD i Jb.z).p),iv ((y.js.getD i Jb.z).u),iv ((y.js.getD i Jb.z).t)]:=sH2
 refine Zb<|Ze<|Zn (b:=H.next) (o:=0) rfl<|ZD (b:=H.next) (o:=2) (v:=iv ((y.js.getD i Jb.z).u)) rfl c1.rd rfl<|Za rfl<|Zb ?_
 have d4:Cl H2 H.next [iv (y.js.getD i Jb.z).b,iv (y.js.getD i Jb.z).p,iv (y.js.getD i Jb.z).u,iv (y.js.getD i Jb.z).t]:=c1
 refine YO (fn:=Try.f79) Zem N79 ZdK (fun z:Nat × Int=>[(0,.func (.yield l) #[] #[]),(1,pt bY),(2,pt bI),(4,pt H.next),(5,iv z.2)])
  (fun k z H'=>z.1+k=nd y i∧z.2=(y.js.getD i Jb.z).u+(z.1:Int)∧H.next < H'.next∧Cl H' H.next [iv (y.js.getD i Jb.z).b,iv (y.js.getD i Jb.z).p,iv (y.js.getD i Jb.z).u,iv (y.js.getD i Jb.z).t]∧J z.1 H') (nd y i) (0,(y.js.getD i Jb.z).u) ⟨by simp,by simp,by omega,d4,jm _ _ _ hJ hk⟩ ⟨rfl,rfl,rfl,rfl,rfl,trivial⟩ ?_
 rintro k ⟨m,u⟩ L1 ⟨hik,hday,hnx,d4,hJ⟩
 simp only [] at hik hday hnx d4 hJ
 obtain ⟨rY,rI,hy⟩:=je _ _ hJ
 have hkl:=Zf.refl L1 []
 have lY:=rY.lt
 have lI:=rI.lt
 refine W1<|Yr rfl<|ZC (b:=H.next) (o:=0) rfl<|Yb (b:=H.next) (o:=3) (v:=iv ((y.js.getD i Jb.z).t)) rfl d4.rd rfl<|Uh (b:=bY) (o:=0) rfl rY (show row 4 (Ya.f a y) 0=some (Ya.f a y) from rfl)<|Uh (b:=H.next) (o:=0) rfl d4.rd (show row 4 (Jb.f (y.js.getD i Jb.z)) 0=some (Jb.f (y.js.getD i Jb.z)) from rfl) ?_
 obtain ⟨H3,fH3,kH3⟩:=Zd6 (kn:=kn) (lo:=L1.next) (H:=L1) (hy.keep hkl) hB hjt (by omega)
 refine Uo (vs:=[.agg (Ya.f a y).toArray,.agg (Jb.f (y.js.getD i Jb.z)).toArray]) rfl rfl (Zk fH3) ?_
 have mH3:=kH3.1
 have hkl:=hkl.trans kH3
 have rY:=kH3.rd rY (by simp)
 have rI:=kH3.rd rI (by simp)
 have d4:=kH3.cl d4 (by simp)
 refine Zea (a:=(y.js.getD i Jb.z).t) (b:=(dl y (y.js.getD i Jb.z))) rfl rfl<|yc (a:=u) (b:=min ((y.js.getD i Jb.z).t) (dl y (y.js.getD i Jb.z))) rfl rfl ?_
 refine Xv (by repeat' first | exact True.intro | exact (fun h=>h) | refine And.intro ?_ ?_ | (intro h;have h:(_:Nat)=_:=h;omega)) ?_
 refine And.intro (fun q1=>?_) (fun q1=>?_)
 ·have q1:u≤(min ((y.js.getD i Jb.z).t) (dl y (y.js.getD i Jb.z))):=of_decide_eq_true q1
  have hmn:m < nd y i:=by unfold nd;omega
  first | refine ZK ?_ | skip
  refine Ze<|Za rfl<|Za rfl<|Z3 (b:=bY) (o:=0) rfl rY (show row 4 (Ya.f a y) 0=some (Ya.f a y) from rfl)<|ZD (b:=bI) (o:=0) (v:=iv (i:Int)) rfl rI rfl<|Za rfl ?_
  have hnd:=ZaH hjt
  obtain ⟨v,H4,fH4,aH4,kH4⟩:=ym (kn:=kn) (lo:=lo) (H:=H3) (hy.keep hkl) hB hv hi (d:=u) (by omega) (by omega)
  have aH4:Acc lo (H.next+1) 3 H4 v (rcL y (y.js.getD i Jb.z) u).length (cI (rcL y (y.js.getD i Jb.z) u)):=aH4.low (by omega)
  refine Zq (vs:=[.agg (Ya.f a y).toArray,iv (i:Int),iv u]) rfl (Zk fH4) ?_
  have mH4:=kH4.1
  have hkl:=hkl.trans kH4
  have rY:=kH4.rd rY (by simp)
  have rI:=kH4.rd rI (by simp)
  have d4:=kH4.cl d4 (by simp)
  obtain ⟨H5,fH5,hJ2,mH5,gH5⟩:=step m H4 v u hday hmn (jm _ _ _ hJ hkl) (by omega) aH4
  refine Zq (vs:=[iv u,v]) rfl fH5 ?_
  have d4:Cl H5 H.next _:=⟨by omega,by rw [gH5];exact d4.2⟩
  refine Zg (v:=.bool false) rfl rfl<|Zb<|YI ?_
  first | refine ZK ?_ | skip
  show Zw _ _ _ _ _ _ _ _
  refine Za rfl<|Yw (a:=u) (b:=1) rfl rfl ⟨by omega,by omega⟩<|Za rfl<|Zb ?_
  exact ⟨k - 1,(m+1,_),by omega,⟨by simp only [];omega,by simp only [];omega,by omega,d4,hJ2⟩,rfl,rfl,rfl,rfl,rfl,trivial⟩
 ·have q1:¬ (u≤(min ((y.js.getD i Jb.z).t) (dl y (y.js.getD i Jb.z)))):=of_decide_eq_false q1
  first | (refine Vb ?_;show wC _ _ _ _ _ _ _ _ _) | skip
  have ein:m=nd y i:=by unfold nd at hik ⊢;omega
  subst ein
  exact And.intro trivial (Exists.intro _ (And.intro rfl ⟨rfl,jm _ _ _ hJ hkl⟩))
noncomputable abbrev zR:Code:=at_ Try.f46 [1,1,0,1,0,0]
noncomputable abbrev QT:Code:=at_ Try.f46 [1,1,0,1,0,1]
abbrev S46 (h:Nat):Rg:=[(5,pt (h+1))]
structure J46 (lo:Nat) (a:Ya) (y:Yd) (i:Nat) (H0:Hp) (m:Nat) (H':Hp):Prop where
 acc:∃ v,Cl H' (H0.next+1) [v]∧Acc lo (H0.next+7) 3 H' v (dyT y i m).length (cI (dyT y i m))
 rY:Rd H' (H0.next+2) (Ya.f a y)
 rI:Rd H' (H0.next+3) [iv (i:Int)]
 lp:Lp Try.prog H' (H0.next+5) .ready none 21 (S46 H0.next) [11,12] zR QT (H0.next+4)
 dfr:H'.t.get (H0.next+4)=some (.dfr (some []))
 ll:H0.next+6≤H'.next
 kp:Zf H0 H' []
theorem J46.keep {lo:Nat} {a:Ya} {y:Yd} {i:Nat} {H0:Hp} {m:Nat} {H1 H2:Hp} (j:J46 lo a y i H0 m H1) (k:Zf H1 H2 []):J46 lo a y i H0 m H2:=by
 have ll:=j.ll
 obtain ⟨v,c,q⟩:=j.acc
 exact ⟨⟨v,k.cl c (by simp),q.keep k⟩,k.rd j.rY (by simp),k.rd j.rI (by simp),j.lp.keep k (by omega) (by simp),by rw [k.2 _ (by omega) (by simp)];exact j.dfr,Nat.le_trans j.ll k.1,j.kp.trans k⟩
set_option maxRecDepth 100000 in
theorem ZbU {a:Ya} {y:Yd} {i:Nat} {H0:Hp} {m:Nat} {u:Int} {sa:Option Addr} {ln cap:Nat} (hlo:lo≤H0.next) (hu:u=(y.js.getD i Jb.z).u+(m:Int)) (hln:(rcL y (y.js.getD i Jb.z) u).length=ln) (hm:m < 41) (j:J46 lo a y i H0 m H) (hnx:H0.next+7≤H.next) :
  ∃ H',ZJ Try.prog kn lo (.fn (.yield (H0.next+5)) #[]) [iv u,.slice sa ln cap] H (.bool true) H'∧J46 lo a y i H0 (m+1) H'∧H.next≤H'.next∧H'.t.get (H0.next+6)=H.t.get (H0.next+6):=by
 have L1:low Try.prog 21 zR=some R46x1:=N46 ▸ ZdV
 have L2:low Try.prog 21 QT=some R46x2:=N46 ▸ Zd7
 have key:=ZaZ (kn:=kn) (P:=Try.prog) (lo:=lo) (S1:=(12,.slice sa ln cap) :: (11,iv u) :: S46 H0.next) (args:=[iv u,.slice sa ln cap]) (Q:=fun t H'=>t=true∧J46 lo a y i H0 (m+1) H'∧H.next≤H'.next∧H'.t.get (H0.next+6)=H.t.get (H0.next+6)) j.lp (by omega) (by rfl) rfl (Yy true _ L1 ?_)
 ·obtain ⟨t,H',h,rfl,q⟩:=key;exact ⟨H',h,q⟩
 have ll:=j.ll
 refine Ze<|Za rfl<|Zb<|zm<|Za rfl<|Zb ?_
 refine And.intro trivial (And.intro j.lp ?_)
 intro H3 s3
 have k3:=s3.keep
 have hn3:H3.next=H.next:=s3.1
 have lp3:=s3.lp j.lp
 have nl:∀ x,x≠H0.next+5→x ∉ [H0.next+5]:=fun x hx=>by simpa using hx
 obtain ⟨v0,c50,hacc⟩:=j.acc
 have c5:=k3.cl c50 (nl _ (by omega))
 have hacc:=hacc.keepW k3 (by omega)
 have hbk:=U1 hacc
 have hdl:=zg (y:=y) (i:=i) m
 have fin:∀ H4 v4,Zf H3 H4 ((H0.next+1) :: (bkv v0).toList)→Cl H4 (H0.next+1) [v4]→Acc lo (H0.next+7) 3 H4 v4 (dyT y i (m+1)).length (cI (dyT y i (m+1)))→
   Lp Try.prog H4 (H0.next+5) .busy none 21 (S46 H0.next) [11,12] zR QT (H0.next+4)∧∀ H5,Vg H4 (H0.next+5) .ready none H5→(true=true∧J46 lo a y i H0 (m+1) H5∧H.next≤H5.next∧H5.t.get (H0.next+6)=H.t.get (H0.next+6)):=by
  intro H4 v4 k4 d5 e5
  have m4:=k4.1
  have nn:∀ x,x≠H0.next+1→x < H0.next+7→x ∉ ((H0.next+1) :: (bkv v0).toList):=fun x h1 h2 q=>by
   rcases List.mem_cons.1 q with q | q
   ·exact h1 q
   ·have:=hbk x q;omega
  have lp4:=lp3.keep k4 (by omega) (nn _ (by omega) (by omega))
  refine ⟨lp4,fun H5 s5=>?_⟩
  have k5:=s5.keep
  have hn5:H5.next=H4.next:=s5.1
  have g:∀ x,x≠H0.next+1→x≠H0.next+5→x < H0.next+7→H5.t.get x=H.t.get x:=fun x h1 h2 h3=>by rw [k5.2 _ (by omega) (nl _ h2),k4.2 _ (by omega) (nn _ h1 h3),k3.2 _ (by omega) (nl _ h2)]
  have rd:∀ x cs,x≠H0.next+1→x≠H0.next+5→x < H0.next+7→Rd H x cs→Rd H5 x cs:=fun x cs h1 h2 h3 q=>k5.rd (k4.rd (k3.rd q (nl _ h2)) (nn _ h1 h3)) (nl _ h2)
  have kp3:=j.kp.new k3 (fun b q=>.inr (by simp at q;omega))
  have kp4:Zf H0 H4 []:=kp3.new k4 (fun b q=>.inr (by
   rcases List.mem_cons.1 q with q | q
   ·omega
   ·have:=hbk b q;omega))
  exact ⟨rfl,⟨⟨v4,k5.cl d5 (nl _ (by omega)),e5.keepW k5 (by omega)⟩,rd _ _ (by omega) (by omega) (by omega) j.rY,rd _ _ (by omega) (by omega) (by omega) j.rI,s5.lp lp4,by rw [g _ (by omega) (by omega) (by omega)];exact j.dfr,by omega,kp4.new k5 (fun b q=>.inr (by simp at q;omega))⟩,by omega,g _ (by omega) (by omega) (by omega)⟩
 have hk:=Zf.refl H3 ((H0.next+1) :: (bkv v0).toList)
 have kacc:=Zf.refl H3 []
 refine Yy true _ L2 ?_
 refine Ze<|Za rfl<|YL (m:=ln) rfl<|Zah (a:=(ln:Int)) (b:=0) rfl rfl<|Zb ?_
 refine And.intro (fun q1=>?_) (fun q1=>?_)
 ·have q1:(ln:Int)=0:=by simpa using q1
  show Zw _ _ _ _ _ _ _ _
  refine ZD (b:=(H0.next+1)) (o:=0) (v:=v0) rfl c5.rd rfl<|Za rfl ?_
  obtain ⟨H1,hH1⟩:∃ H1,H3.new (.cells [iv u] 3 false)=H1:=⟨_,rfl⟩
  refine Xs (H':=H1) (k:=.heavy) rfl (by kernel_rfl) ((X3 (v:=iv u) y9 zo3 rfl rfl rfl (by decide)).trans (by rw [← hH1];rfl)) (fun b e=>by cases e) ?_
  obtain ⟨kH1,nH1,c1⟩:=ZM hH1;clear hH1
  have c1:Cl H1 H3.next [iv u]:=c1
  have mH1:=kH1.1
  have hk:=hk.new kH1 (fun b hb=>.inl (by first | exact List.mem_cons_of_mem _ hb | (simp at hb;done) | (simp at hb;simp [hb])))
  have c5:=kH1.cl c5 (by simp)
  have kacc:=kacc.trans kH1
  obtain ⟨H2,kdH2,eH2,dH2,aH2,kbH2⟩:=Wf (P:=Try.prog) (lo:=lo) (k:=(dyT y i m).length) (t1:=28) y9 Zcs (c1.sl (Nat.le_refl 1)) rfl (by decide) rfl (by rw [Zau];omega) (by omega) (hacc.keep kacc) (by omega) (by omega)
  refine Xs (k:=kdH2) rfl (by cases v0<;>kernel_rfl) (eH2 _ _ _ _ _ _ _ rfl rfl) (KZ dH2 _) ?_
  have hk:=hk.new kbH2 (fun b hb=>.inl (by first | exact List.mem_cons_of_mem _ hb | (simp at hb;done) | (simp at hb;simp [hb])))
  have c5:=kbH2.cl c5 (fun hx=>by have:=hbk _ hx;omega)
  have mH2:=kbH2.1
  refine Zcg (b:=(H0.next+1)) (o:=0) rfl rfl c5 (by omega) rfl rfl (by simp) ?_
  intro H3 kH3 nH3 sH3
  have mH3:=kH3.1
  have hk:=hk.new kH3 (fun b hb=>.inl (by first | exact List.mem_cons_of_mem _ hb | (simp at hb;done) | (simp at hb;simp [hb])))
  have c5:Cl H3 (H0.next+1) [.slice (some ⟨H1.next,0,none⟩) ((dyT y i m).length+1) ((dyT y i m).length+1)]:=sH3
  refine Zb ?_
  have ha2:Acc lo (H0.next+7) 3 H3 (.slice (some ⟨H1.next,0,none⟩) ((dyT y i m).length+1) ((dyT y i m).length+1)) (dyT y i (m+1)).length (cI (dyT y i (m+1))):=by
   rw [Zev (by rw [← hu];omega),← hu];unfold cI at *;rw [List.map_append,List.length_append];exact aH2.keepW kH3 (by omega)
  exact fin _ _ hk c5 ha2
 ·have q1:¬ ((ln:Int)=0):=by simpa using q1
  first | refine ZK ?_ | skip
  have ha2:Acc lo (H0.next+7) 3 H3 v0 (dyT y i (m+1)).length (cI (dyT y i (m+1))):=by
   rw [Zeo (by rw [← hu];omega)];exact hacc
  exact fin _ _ hk c5 ha2
set_option maxRecDepth 100000 in
theorem Kh {a:Ya} {y:Yd} (hy:YaH H a y) (hB:YaB y) (hv:vY y=true) {i:Nat} (hi:i < y.js.length) (hlo:lo≤H.next) :
  ∃ v H',FnX Try.prog kn lo 46 [.agg (Ya.f a y).toArray,iv (i:Int)] H v H'∧Acc lo H.next 3 H' v (dyL y i).length (cI (dyL y i))∧Zf H H' []:=by
 have key:=Zae (kn:=kn) (lo:=lo) (H:=H) (args:=[.agg (Ya.f a y).toArray,iv (i:Int)]) (Q:=fun w H'=>Acc lo H.next 3 H' w (dyL y i).length (cI (dyL y i))∧Zf H H' []) Try.func46 B46 N46 Z46 L46 (by simp) ?_
 ·exact key
 intro y0 hy0
 refine Y5.lowR hy0 ?_
 refine zm<|Ye (v:=.agg (Ya.f a y).toArray) rfl ?_
 intro H1 k1 n1 c1
 have c1:Cl H1 H.next (Ya.f a y):=c1
 refine Za rfl<|Zb ?_
 intro y1 hy1
 refine Y5.lowR hy1 ?_
 refine zm<|Xw ?_
 intro H2 k2 n2 c2
 have c2:Cl H2 H1.next [.slice none 0 0]:=c2
 refine Zb ?_
 intro y2 hy2
 refine Y5.lowL hy2 ?_
 intro y3 hy3
 refine Y5.lowR hy3 ?_
 refine zm ?_
 have k02:=k1.trans k2
 refine Z3 (b:=H.next) (o:=0) rfl (k2.cl c1 (by simp)).rd (show row 4 (Ya.f a y) 0=some (Ya.f a y) from rfl)<|Za rfl ?_
 have e2:H2.next=H.next+2:=by omega
 obtain ⟨H5,f5,g1,g2,n5,k5⟩:=Zdc (kn:=kn) (lo:=lo) (H:=H2) (a:=a) (y:=y) (i:=i) (by omega)
 refine Zq (vs:=[.agg (Ya.f a y).toArray,iv (i:Int)]) rfl (Zk f5)<|Zb ?_
 intro y4 hy4
 refine Y5.lowB hy4 ?_
 rw [Zd3]
 refine Y5.range rfl ?_
 intro H7 k7 n7 hdf hlp
 have e5:H5.next=H.next+4:=by omega
 have hlp:Lp Try.prog H7 (H5.next+1) .ready none 21 [(5,pt H1.next)] [11,12] zR QT H5.next:=hlp.weak ⟨rfl,trivial⟩
 rw [show H1.next=H.next+1 by omega,e5] at hlp
 rw [e5] at hdf n7
 have k27:Zf H2 H7 []:=k5.trans k7
 have k07:Zf H H7 []:=k02.trans k27
 have d2:=k27.cl c2 (by simp)
 rw [show H1.next=H.next+1 by omega] at d2
 rw [e2] at g1 g2
 have j0:J46 lo a y i H 0 H7:=⟨⟨_,d2,.inl ⟨rfl,rfl,rfl⟩⟩,k7.rd g1 (by simp),k7.rd g2 (by simp),hlp,hdf,by omega,k07⟩
 have hnd:=ZaH (zu hv hi)
 obtain ⟨H8,f8,j8⟩:=jz (kn:=kn) (lo:=lo) (H:=H7) (a:=a) (y:=y) hB hv hi (J:=J46 lo a y i H) (l:=H.next+5) (bY:=H.next+2) (bI:=H.next+3) (by omega)
  (fun m H1 H2 j k=>j.keep k) (fun m H1 j=>⟨j.rY,j.rI,hy.keep j.kp⟩)
  (fun m H1 v u hu hm j hn ac=>by
   obtain ⟨sa,cap,rfl,-,-⟩:=ac.sl
   obtain ⟨H2,g2,q2,l2,r2⟩:=ZbU (kn:=kn) hlo hu rfl (by omega) j (by omega)
   exact ⟨H2,g2,q2,l2,by rw [n7];exact r2⟩) j0
 refine Exists.intro _ (Exists.intro H8 (And.intro (ZV rfl (by rw [e2,e5];simpa using f8)) ?_))
 have lp8:Lp Try.prog H8 (H5.next+1) .ready none 21 (S46 H.next) [11,12] zR QT H5.next:=by rw [e5];exact j8.lp
 refine ⟨.ready,none,_,lp8,by simp,?_⟩
 intro H9 s9
 have k9:=s9.keep
 have hn9:H9.next=H8.next:=s9.1
 rw [e5] at k9
 have ll:=j8.ll
 have nl:∀ x,x≠H.next+5→x ∉ [H.next+4+1]:=fun x hx=>by simp;omega
 have d9:H9.t.get H5.next=some (.dfr (some [])):=by rw [e5,k9.2 _ (by omega) (nl _ (by omega))];exact j8.dfr
 obtain ⟨v,fd,fo⟩:=j8.acc
 have fd:=k9.cl fd (nl _ (by omega))
 have fo:=fo.keepW k9 (by omega)
 have kp9:Zf H H9 []:=j8.kp.new k9 (fun b q=>.inr (by simp at q;omega))
 rw [show H.next+1=H1.next by omega] at fd
 refine Ze<|ZD (b:=H1.next) (o:=0) (v:=v) rfl fd.rd rfl<|Za rfl<|Zb ?_
 refine And.intro trivial (Or.inr ⟨H5.next,rfl,by omega,d9,fun H12 hn12 hk12=>?_⟩)
 exact ⟨[v],rfl,(fo.keepW hk12 (by omega)).low (by omega),kp9.new hk12 (fun b q=>.inr (by simp at q;omega))⟩
end
end
end Go.Ax

/-
 Pool: sets of jobs (102,101,109,108) (written by program).
-/
namespace Go.Ax
open Go Go.RowKit Go.Proofs

noncomputable section
theorem QJ {x:Int} (h:0≤x∧x < 256):IntKind.u8.wrap x=x:=by
 unfold IntKind.wrap IntKind.bits IntKind.signed
 simp
 omega
theorem UZ {d:Nat} (h:d < 8):2 ^ d < 256:=by
 have:=Nat.pow_lt_pow_right (a:=2) (by decide) h
 simpa using this
theorem ZdO {P:Program} {t:TypeId} {x y:Operand} {d:Nat} (h:d < 8):Zz P (do eqGuard .shl t x y (.int .u8 1) (.int .i64 (d:Int));binOp .shl t (.int .u8 1) (.int .i64 (d:Int)))=some (.int .u8 ((2 ^ d:Nat):Int)):=by
 show Zz P (Op.shift .shl .u8 1 .i64 (d:Int))=_
 unfold Op.shift
 rw [if_neg (by omega)]
 show some (Value.int .u8 (IntKind.u8.wrap (1 * 2 ^ min d 8)))=_
 rw [Nat.min_eq_left (by omega)]
 have:=UZ h
 have e:(1:Int) * 2 ^ d=((2 ^ d:Nat):Int):=by rw [Int.one_mul,Int.natCast_pow];rfl
 have h2:((2 ^ d:Nat):Int) < 256:=by
  have:=Int.ofNat_lt.2 this
  exact this
 rw [e,QJ ⟨Int.natCast_nonneg _,h2⟩]
theorem ZeF {P:Program} {t:TypeId} {x y:Operand} {m n:Nat} (hm:m < 256) (hn:n < 256):Zz P (do eqGuard .and t x y (.int .u8 (m:Int)) (.int .u8 (n:Int));binOp .and t (.int .u8 (m:Int)) (.int .u8 (n:Int)))=some (.int .u8 ((m &&& n:Nat):Int)):=by
 show some (Value.int .u8 (IntKind.u8.wrap ((BitVec.ofInt 8 (m:Int) &&& BitVec.ofInt 8 (n:Int)).toNat:Int)))=_
 have hb:m &&& n < 256:=Nat.lt_of_le_of_lt Nat.and_le_left hm
 have e:(BitVec.ofInt 8 (m:Int) &&& BitVec.ofInt 8 (n:Int)).toNat=m &&& n:=by
  have h1:BitVec.ofInt 8 (m:Int)=BitVec.ofNat 8 m:=by simp
  have h2:BitVec.ofInt 8 (n:Int)=BitVec.ofNat 8 n:=by simp
  rw [h1,h2,BitVec.toNat_and]
  simp only [BitVec.toNat_ofNat]
  rw [Nat.mod_eq_of_lt hm,Nat.mod_eq_of_lt hn]
 rw [e,QJ ⟨by omega,by omega⟩]
theorem Zfc {P:Program} {t:TypeId} {x y:Operand} {m n:Nat} (hm:m < 256) (hn:n < 256):Zz P (do eqGuard .or t x y (.int .u8 (m:Int)) (.int .u8 (n:Int));binOp .or t (.int .u8 (m:Int)) (.int .u8 (n:Int)))=some (.int .u8 ((m ||| n:Nat):Int)):=by
 show some (Value.int .u8 (IntKind.u8.wrap ((BitVec.ofInt 8 (m:Int) ||| BitVec.ofInt 8 (n:Int)).toNat:Int)))=_
 have hb:m ||| n < 256:=Nat.or_lt_two_pow (n:=8) hm hn
 have e:(BitVec.ofInt 8 (m:Int) ||| BitVec.ofInt 8 (n:Int)).toNat=m ||| n:=by
  have h1:BitVec.ofInt 8 (m:Int)=BitVec.ofNat 8 m:=by simp
  have h2:BitVec.ofInt 8 (n:Int)=BitVec.ofNat 8 n:=by simp
  rw [h1,h2,BitVec.toNat_or]
  simp only [BitVec.toNat_ofNat]
  rw [Nat.mod_eq_of_lt hm,Nat.mod_eq_of_lt hn]
 rw [e,QJ ⟨by omega,by omega⟩]
theorem j2 {P:Program} {t:TypeId} {x y:Operand} {m n:Nat} (hm:m < 256) (hn:n < 256):Zz P (do eqGuard .andNot t x y (.int .u8 (m:Int)) (.int .u8 (n:Int));binOp .andNot t (.int .u8 (m:Int)) (.int .u8 (n:Int)))=some (.int .u8 ((m &&& (2 ^ 8 - (n+1)):Nat):Int)):=by
 show some (Value.int .u8 (IntKind.u8.wrap ((BitVec.ofInt 8 (m:Int) &&& ~~~ BitVec.ofInt 8 (n:Int)).toNat:Int)))=_
 have hb:m &&& (2 ^ 8 - (n+1)) < 256:=Nat.lt_of_le_of_lt Nat.and_le_left hm
 have e:(BitVec.ofInt 8 (m:Int) &&& ~~~ BitVec.ofInt 8 (n:Int)).toNat=m &&& (2 ^ 8 - (n+1)):=by
  have h1:BitVec.ofInt 8 (m:Int)=BitVec.ofNat 8 m:=by simp
  have h2:BitVec.ofInt 8 (n:Int)=BitVec.ofNat 8 n:=by simp
  rw [h1,h2,BitVec.toNat_and,BitVec.toNat_not]
  simp only [BitVec.toNat_ofNat]
  rw [Nat.mod_eq_of_lt hm,Nat.mod_eq_of_lt hn,Nat.sub_sub,Nat.add_comm 1 n]
 rw [e,QJ ⟨by omega,by omega⟩]
theorem Zc1 {P:Program} {t:TypeId} {x y:Operand} {m:Nat}:Zz P (do eqGuard .neq t x y (.int .u8 (m:Int)) (.int .u8 0);binOp .neq t (.int .u8 (m:Int)) (.int .u8 0))=some (.bool (decide (m≠0))):=by
 show some (Value.bool ((m:Int) != 0))=_
 congr 2
 by_cases h:m=0
 ·subst h;rfl
 ·rw [decide_eq_true h]
  have:¬ (m:Int)=0:=by omega
  simpa using this
section
variable {n:Nat} {S:Rg} {x y:Operand} {o:Option Tmp} {t t2 ty:TypeId} {p:String}
theorem Zed {j:Int} {d:Nat} (h:d < 8) (hx:evS S x=some (.int .u8 1)) (hy:evS S y=some (iv j)) (hj:j=(d:Int)):Zo Try.prog (frS n S) ⟨o,.binOp .shl t x y t2,ty,p,#[],none⟩=some (.int .u8 ((2 ^ d:Nat):Int)):=by
 subst hj
 unfold Zo
 simp only [YC,hx,hy,flat,Yx,Bool.and_self,cond_true,ZdO h]
theorem Zd8 {m k:Nat} (hm:m < 256) (hk:k < 256) (hx:evS S x=some (.int .u8 (m:Int))) (hy:evS S y=some (.int .u8 (k:Int))):Zo Try.prog (frS n S) ⟨o,.binOp .and t x y t2,ty,p,#[],none⟩=some (.int .u8 ((m &&& k:Nat):Int)):=by
 unfold Zo
 simp only [YC,hx,hy,flat,Yx,Bool.and_self,cond_true,ZeF hm hk]
theorem ZcH {m k:Nat} (hm:m < 256) (hk:k < 256) (hx:evS S x=some (.int .u8 (m:Int))) (hy:evS S y=some (.int .u8 (k:Int))):Zo Try.prog (frS n S) ⟨o,.binOp .or t x y t2,ty,p,#[],none⟩=some (.int .u8 ((m ||| k:Nat):Int)):=by
 unfold Zo
 simp only [YC,hx,hy,flat,Yx,Bool.and_self,cond_true,Zfc hm hk]
theorem Za0 {m k:Nat} (hm:m < 256) (hk:k < 256) (hx:evS S x=some (.int .u8 (m:Int))) (hy:evS S y=some (.int .u8 (k:Int))):Zo Try.prog (frS n S) ⟨o,.binOp .andNot t x y t2,ty,p,#[],none⟩=some (.int .u8 ((m &&& (2 ^ 8 - (k+1)):Nat):Int)):=by
 unfold Zo
 simp only [YC,hx,hy,flat,Yx,Bool.and_self,cond_true,j2 hm hk]
theorem ZcB {m:Nat} (hm:m≤8) (hx:evS S x=some (.int .u8 (m:Int))):Zo Try.prog (frS n S) ⟨o,.convert 5 3 x,ty,p,#[],none⟩=some (iv (m:Int)):=by
 have e:∀ m:Nat,m≤8→Zz Try.prog (convert 5 3 (.int .u8 (m:Int)))=some (iv (m:Int)):=fun m hm=>by
  obtain rfl | rfl | rfl | rfl | rfl | rfl | rfl | rfl | rfl:m=0∨m=1∨m=2∨m=3∨m=4∨m=5∨m=6∨m=7∨m=8:=by omega
  all_goals kernel_rfl
 unfold Zo
 simp only [YC,hx,flat,Yx,Bool.and_self,cond_true,e m hm]
theorem ZaS {m:Nat} (hx:evS S x=some (.int .u8 (m:Int))):Zo Try.prog (frS n S) ⟨o,.binOp .neq t x (.const (.int .u8 0)) t2,ty,p,#[],none⟩=some (.bool (decide (m≠0))):=by
 have hy:evS S (.const (.int .u8 0))=some (.int .u8 0):=rfl
 unfold Zo
 simp only [YC,hx,hy,flat,Yx,Bool.and_self,cond_true,Zc1]
end
theorem ZeQ:Try.prog.underlying 9=some .string:=by kernel_rfl
def Zct (s:Nat):Option Value→Bool
 | some (.int .u8 x)=>x == (pc8 s:Int)
 | _=>false
theorem Zda {s:Nat} {v:Option Value} (h:Zct s v=true):v=some (.int .u8 (pc8 s:Nat)):=by
 unfold Zct at h
 split at h
 ·simp at h;rw [h]
 ·cases h
theorem Zen {n : Nat} {S : Rg} {y : Operand} {o : Option Tmp} {b : ByteArray} {s : Nat} (hb : ((List.range 256).all fun s : Nat => Zct s (Zz Try.prog (Instr.index 9 (.string b) (.int .u8 (s : Int))))) = true) (hs : s < 256) (hy : evS S y = some (.int .u8 (s : Int))) : Zo Try.prog (frS n S) ⟨o, .index 9 (.const (.string b)) y, 5, "", #[], none⟩ = some (.int .u8 (pc8 s : Nat)) := by
 have hx:evS S (.const (.string b))=some (.string b):=rfl
 have h:=Zda (List.all_eq_true.1 hb s (List.mem_range.2 hs))
 unfold Zo
 simp only [YC,hx,hy,ZeQ,flat,Yx,Bool.and_self,cond_true,h]
theorem Zdf {s:Nat}:pc8 s≤8:=by
 unfold pc8
 exact Nat.le_trans (List.length_filter_le _ _) (by simp)
theorem Zba {s k:Nat}:(s &&& 2 ^ k≠0)↔s.testBit k=true:=by
 constructor
 ·intro h
  cases e:s.testBit k with
  | true=>rfl
  | false=>
   exfalso
   apply h
   apply Nat.eq_of_testBit_eq
   intro i
   rw [Nat.testBit_and,Nat.testBit_two_pow,Nat.zero_testBit]
   by_cases q:k=i
   ·subst q;rw [e];rfl
   ·rw [decide_eq_false q,Bool.and_false]
 ·intro h e
  have:=congrArg (fun z=>z.testBit k) e
  simp only [Nat.testBit_and,Nat.testBit_two_pow,Nat.zero_testBit] at this
  rw [h] at this
  simp at this
theorem Zbx {s k b:Nat} (hs:s < 256) (hk:k < 8):(s &&& (2 ^ 8 - (2 ^ k+1))).testBit b=(s.testBit b && decide (b≠k)):=by
 have hp:=UZ hk
 rw [Nat.testBit_and,Nat.testBit_two_pow_sub_succ (by simpa using hp),Nat.testBit_two_pow]
 by_cases hb:b < 8
 ·rw [decide_eq_true hb,Bool.true_and]
  congr 1
  by_cases e:k=b
  ·subst e;simp
  ·simp [e,Ne.symm e]
 ·have:s.testBit b=false:=Nat.testBit_lt_two_pow (Nat.lt_of_lt_of_le (show s < 2 ^ 8 by simpa using hs) (Nat.pow_le_pow_right (by decide) (by omega)))
  rw [this];rfl
section
variable {kn:Kn} {lo:Nat} {H:Hp}
theorem QF {j:Int} {d:Nat} (hd:d < 8) (hj:j=(d:Int)):∃ H',FnX Try.prog kn lo 102 [iv j] H (.int .u8 ((2 ^ d:Nat):Int)) H'∧Zf H H' []:=by
 have key:=Zt (kn:=kn) (lo:=lo) (H:=H) (args:=[iv j]) (Q:=fun w H'=>w=(.int .u8 ((2 ^ d:Nat):Int))∧Zf H H' []) Try.func102 ZeS Zfg Zfq ZfD (by simp) ?_
 ·obtain ⟨w,H',h,rfl,q⟩:=key;exact ⟨H',h,q⟩
 have hk:=Zf.refl H []
 refine Ze<|Za rfl<|Zb<|Ze<|Za rfl<|Zg (v:=.int .u8 ((2 ^ d:Nat):Int)) rfl (Zed hd rfl rfl hj)<|Za rfl<|Zb ?_
 exact And.intro trivial (Exists.intro _ (And.intro rfl ⟨rfl,hk⟩))
theorem Zc6 {j:Int} {s d:Nat} (hd:d < 8) (hj:j=(d:Int)) (hs:s < 256):∃ H',FnX Try.prog kn lo 101 [.int .u8 (s:Int),iv j] H (.bool (s.testBit d)) H'∧Zf H H' []:=by
 have key:=Zt (kn:=kn) (lo:=lo) (H:=H) (args:=[.int .u8 (s:Int),iv j]) (Q:=fun w H'=>w=(.bool (s.testBit d))∧Zf H H' []) Try.func101 ZeL Zfw Zfl ZeV (by simp) ?_
 ·obtain ⟨w,H',h,rfl,q⟩:=key;exact ⟨H',h,q⟩
 have hk:=Zf.refl H []
 refine Ze<|Za rfl<|Zb<|Ze<|Za rfl<|Za rfl ?_
 obtain ⟨H1,fH1,kH1⟩:=QF (kn:=kn) (lo:=lo) (H:=H) (j:=j) hd hj
 refine Zq (vs:=[iv (j)]) rfl (Zk fH1) ?_
 have mH1:=kH1.1
 have hk:=hk.trans kH1
 refine Zg (v:=.int .u8 ((s &&& 2 ^ d:Nat):Int)) rfl (Zd8 hs (UZ hd) rfl rfl)<|Zg (v:=.bool (decide (s &&& 2 ^ d≠0))) rfl (ZaS rfl)<|Za rfl<|Zb ?_
 exact And.intro trivial (Exists.intro _ (And.intro rfl ⟨by show Value.bool (decide (s &&& 2 ^ d≠0))=_;congr 1;rw [Bool.eq_iff_iff,decide_eq_true_eq];exact Zba,hk⟩))
theorem Zbp {s:Nat} (hs:s < 256):∃ H',FnX Try.prog kn lo 109 [.int .u8 (s:Int)] H (iv (pc8 s:Int)) H'∧Zf H H' []:=by
 have key:=Zt (kn:=kn) (lo:=lo) (H:=H) (args:=[.int .u8 (s:Int)]) (Q:=fun w H'=>w=(iv (pc8 s:Int))∧Zf H H' []) Try.func109 Ze7 Ze9 ZeT Zfo (by simp) ?_
 ·obtain ⟨w,H',h,rfl,q⟩:=key;exact ⟨H',h,q⟩
 have hk:=Zf.refl H []
 have hpc:=Zdf (s:=s)
 refine Ze<|Za rfl<|Zb<|Ze<|Za rfl<|Zg (v:=.int .u8 ((pc8 s:Nat):Int)) rfl (Zen (by kernel_rfl) hs rfl)<|Zg (v:=iv (pc8 s:Int)) rfl (ZcB hpc rfl)<|Za rfl<|Zb ?_
 exact And.intro trivial (Exists.intro _ (And.intro rfl ⟨rfl,hk⟩))
theorem Zb1 {s:Nat} (hs:s < 256):∃ H',FnX Try.prog kn lo 108 [.int .u8 (s:Int)] H (iv (pc8 s:Int)) H'∧Zf H H' []:=by
 have key:=Zt (kn:=kn) (lo:=lo) (H:=H) (args:=[.int .u8 (s:Int)]) (Q:=fun w H'=>w=(iv (pc8 s:Int))∧Zf H H' []) Try.func108 ZeM Ze4 Zfk Zfs (by simp) ?_
 ·obtain ⟨w,H',h,rfl,q⟩:=key;exact ⟨H',h,q⟩
 have hk:=Zf.refl H []
 refine Ze<|Za rfl<|Zb<|Ze<|Za rfl ?_
 obtain ⟨H1,fH1,kH1⟩:=Zbp (kn:=kn) (lo:=lo) (H:=H) hs
 refine Zq (vs:=[.int .u8 (s:Int)]) rfl (Zk fH1) ?_
 have mH1:=kH1.1
 have hk:=hk.trans kH1
 refine Za rfl<|Zb ?_
 exact And.intro trivial (Exists.intro _ (And.intro rfl ⟨rfl,hk⟩))
end
end
end Go.Ax

/-
 Pool: which job is done in each turn (written by program).
-/
namespace Go.Ax
open Go Go.RowKit Go.Proofs

noncomputable section
theorem ze {a:Se}:∀ {L:ML Se},(L.map (·.1)).Nodup→∀ y,y∈VJ a L↔y∈L∧y.1≠a
 | [],_,y=>by simp [VJ]
 | x :: r,h,y=>by
  simp only [List.map_cons,List.nodup_cons] at h
  unfold VJ
  split
  ·rename_i e
   subst e
   constructor
   ·intro hy;exact ⟨List.mem_cons_of_mem _ hy,fun e=>h.1 (by rw [← e];exact List.mem_map.2 ⟨y,hy,rfl⟩)⟩
   ·rintro ⟨hy,hne⟩
    rcases List.mem_cons.1 hy with rfl | hy
    ·exact absurd rfl hne
    ·exact hy
  ·rename_i e
   rw [List.mem_cons,List.mem_cons,ze h.2 y]
   constructor
   ·rintro (rfl | ⟨h1,h2⟩)
    ·exact ⟨.inl rfl,fun q=>e q.symm⟩
    ·exact ⟨.inr h1,h2⟩
   ·rintro ⟨rfl | h1,h2⟩
    ·exact .inl rfl
    ·exact .inr ⟨h1,h2⟩
theorem QH {a:Se}:∀ (L:ML Se),(VJ a L).Sublist L
 | []=>List.Sublist.slnil
 | x :: r=>by
  unfold VJ
  split
  ·exact List.sublist_cons_self _ _
  ·exact (QH r).cons₂ x
theorem WfA.del {a:Se} {L:ML Se} {c:Nat} (h:WfA L c):WfA (VJ a L) c where
 keys:=((QH L).map _).nodup h.keys
 borns:=((QH L).map _).nodup h.borns
 lt x hx:=h.lt x ((QH L).subset hx)
structure DnQ (j:Nat) (B p:Nat→Int) (L:ML Se) (c:Nat):Prop where
 wf:WfA L c
 get:∀ k,k < j→ZQ (B k,p k) L=some (iv (k:Int))
 mem:∀ y∈L,∃ k,k < j∧y.1=(B k,p k)∧y.2.1=iv (k:Int)
section
variable {j:Nat} {B p q:Nat→Int} {L:ML Se} {c:Nat}
theorem DnQ.nil:DnQ 0 B p [] 0:=⟨WfA.nil,fun k h=>by omega,fun y h=>by cases h⟩
theorem DnQ.flat (h:DnQ j B p L c):∀ y∈L,Go.Ax.flat y.2.1=true:=fun y hy=>by
 obtain ⟨k,_,_,e⟩:=h.mem y hy
 rw [e];rfl
theorem DnQ.congr (h:DnQ j B p L c) (e:∀ k,k < j→q k=p k):DnQ j B q L c:=
 ⟨h.wf,fun k hk=>by rw [e k hk];exact h.get k hk,fun y hy=>by obtain ⟨k,hk,a,b⟩:=h.mem y hy;exact ⟨k,hk,by rw [e k hk];exact a,b⟩⟩
theorem DnQ.put {d:Int} (h:DnQ j B p L c) (hn:ZQ (B j,d) L=none):DnQ (j+1) B (Vi p j d) (YW (B j,d) (iv (j:Int)) c L) (YR (B j,d) c L):=by
 refine ⟨h.wf.put _ _,fun k hk=>?_,fun y hy=>?_⟩
 ·rw [QN]
  by_cases e:k=j
  ·subst e;rw [Y3,if_pos rfl]
  ·rw [Yv e,if_neg,h.get k (by omega)]
   intro q
   have:=h.get k (by omega)
   rw [q,hn] at this
   cases this
 ·have g:=qu (h.wf.put (B j,d) (iv (j:Int))) y hy
  rw [QN] at g
  split at g
  ·rename_i e
   injection g with g
   exact ⟨j,by omega,by rw [Y3];exact e,g.symm⟩
  ·obtain ⟨b,hb⟩:=Ux g
   obtain ⟨k,hk,a1,a2⟩:=h.mem _ hb
   exact ⟨k,by omega,by rw [Yv (by omega)];exact a1,a2⟩
theorem DnQ.del (h:DnQ (j+1) B q L c) (e:∀ k,k < j→q k=p k):DnQ j B p (VJ (B j,q j) L) c:=by
 have hj:=h.get j (by omega)
 have ne:∀ k,k < j→(B k,q k)≠(B j,q j):=fun k hk e=>by
  have:=h.get k (by omega)
  rw [e,hj] at this
  injection this with this
  injection this with _ this
  omega
 refine ⟨h.wf.del,fun k hk=>?_,fun y hy=>?_⟩
 ·obtain ⟨b,hb⟩:=Ux (h.get k (by omega))
  rw [← e k hk]
  exact qu h.wf.del _ ((ze h.wf.keys _).2 ⟨hb,ne k hk⟩)
 ·obtain ⟨h1,h2⟩:=(ze h.wf.keys y).1 hy
  obtain ⟨k,hk,a1,a2⟩:=h.mem y h1
  have hkj:k≠j:=fun q=>h2 (by rw [a1,q])
  exact ⟨k,by omega,by rw [← e k (by omega)];exact a1,a2⟩
theorem DnQ.some {x:Se} {v:Value} (h:DnQ j B p L c) (g:ZQ x L=some v):∃ k,k < j∧B k=x.1∧p k=x.2∧v=iv (k:Int):=by
 obtain ⟨b,hb⟩:=Ux g
 obtain ⟨k,hk,a1,a2⟩:=h.mem _ hb
 exact ⟨k,hk,by rw [show x=_ from a1],by rw [show x=_ from a1],a2⟩
theorem DnQ.none {x:Se} (h:DnQ j B p L c) (g:ZQ x L=none):∀ k,k < j→B k=x.1→p k≠x.2:=fun k hk a b=>by
 have:=h.get k hk
 rw [a,b,show (x.1,x.2)=x from rfl,g] at this
 cases this
end
def BsQ (d:Int) (D:ML Se) (t:Nat):Prop:=t < 256∧∀ b,t.testBit b=true↔∃ y∈D,y.2.1=iv (b:Int)∧y.1.2=d
theorem BsQ.nil {d:Int}:BsQ d [] 0:=⟨by decide,fun b=>by simp⟩
theorem BsQ.skip {d:Int} {D:ML Se} {t:Nat} {y:Se × Value × Nat} (h:BsQ d D t) (hy:y.1.2≠d):BsQ d (D ++ [y]) t:=by
 refine ⟨h.1,fun b=>?_⟩
 rw [h.2 b]
 constructor
 ·rintro ⟨z,hz,a⟩;exact ⟨z,List.mem_append.2 (.inl hz),a⟩
 ·rintro ⟨z,hz,a⟩
  rcases List.mem_append.1 hz with hz | hz
  ·exact ⟨z,hz,a⟩
  ·simp at hz;subst hz;exact absurd a.2 hy
theorem BsQ.take {d:Int} {D:ML Se} {t k:Nat} {y:Se × Value × Nat} (h:BsQ d D t) (hk:k < 8) (hv:y.2.1=iv (k:Int)) (hy:y.1.2=d):BsQ d (D ++ [y]) (t ||| 2 ^ k):=by
 refine ⟨Nat.or_lt_two_pow (n:=8) h.1 (UZ hk),fun b=>?_⟩
 rw [Nat.testBit_or,Nat.testBit_two_pow,Bool.or_eq_true,h.2 b,decide_eq_true_eq]
 constructor
 ·rintro (⟨z,hz,a⟩ | rfl)
  ·exact ⟨z,List.mem_append.2 (.inl hz),a⟩
  ·exact ⟨y,by simp,hv,hy⟩
 ·rintro ⟨z,hz,a⟩
  rcases List.mem_append.1 hz with hz | hz
  ·exact .inl ⟨z,hz,a⟩
  ·simp at hz;subst hz
   have:=a.1
   rw [hv] at this
   injection this with _ this
   exact .inr (by omega)
theorem BsQ.all {d:Int} {D L:ML Se} {t j c:Nat} {B p:Nat→Int} (h:BsQ d D t) (hd:DnQ j B p L c) (h1:∀ y∈D,y∈L) (h2:∀ y∈L,y∈D):∀ b,t.testBit b=true↔b < j∧p b=d:=by
 intro b
 rw [h.2 b]
 constructor
 ·rintro ⟨y,hy,a1,a2⟩
  obtain ⟨k,hk,e1,e2⟩:=hd.mem y (h1 y hy)
  rw [a1] at e2
  injection e2 with _ e2
  have:b=k:=by omega
  subst this
  rw [e1] at a2
  exact ⟨hk,a2⟩
 ·rintro ⟨hb,e⟩
  obtain ⟨z,hz⟩:=Ux (hd.get b hb)
  exact ⟨_,h2 _ hz,rfl,e⟩
end
end Go.Ax

/-
 Pool: rivals (100) (written by program).
-/
namespace Go.Ax
open Go Go.RowKit Go.Proofs

noncomputable section
section
variable {kn:Kn} {lo:Nat} {H:Hp}
set_option maxRecDepth 100000 in
set_option maxHeartbeats 1000000 in
theorem jq (s:Snd Try.prog kn) {gb j c:Nat} {B p:Nat→Int} {L:ML Se} {bed d cr:Int} (hmp:Mpa seV H gb L c) (hd:DnQ j B p L c) (hj:j≤8) (hlo:lo≤H.next) :
  FnM Try.prog lo 100 [.map (some gb),.agg #[iv bed,iv d],iv cr] H fun v H'=>∃ t:Nat,v=.int .u8 (t:Int)∧JP j B p cr bed d t∧Zf H H' []:=by
 refine WA s Try.func100 Ze6 ZdT Ze1 Ze2 (by simp) ?_
 have hk:=Zf.refl H []
 have hgl:=hmp.1
 have hfl:flat ((ZQ ((bed,d):Se) L).getD (iv 0))=true:=by
  cases hg:ZQ ((bed,d):Se) L with
  | none=>rfl
  | some v0=>
   obtain ⟨k,_,_,_,e⟩:=hd.some hg
   rw [e];rfl
 refine Zm<|Vu (v:=.agg #[iv bed,iv d]) rfl ?_
 intro H1 kH1 nH1 c1
 have c1:Cl H1 H.next [iv bed,iv d]:=c1
 have mH1:=kH1.1
 have hk:=hk.trans kH1
 have hmp:=kH1.mpa hmp (by simp)
 refine Zd rfl<|Zi<|Zm<|Zd rfl<|XG (b:=H.next) (o:=0) rfl c1.rd (show row 2 _ _=some [iv bed,iv d] from rfl)<|jS (a:=((bed,d):Se)) Ja ZcZ z6 rfl rfl hmp hfl ?_
 obtain ⟨g0,hg⟩:∃ g0,ZQ ((bed,d):Se) L=g0:=⟨_,rfl⟩
 rw [hg]
 rcases g0 with _ | v0
 ·refine Zd rfl<|Zl (v:=iv 0) rfl (by kernel_rfl)<|Zl (v:=.bool false) rfl (by kernel_rfl)<|Zd rfl<|Zd rfl<|Zi<|Zm<|Zd rfl<|Zi<|YI ?_
  first | refine Yn ?_ | skip
  refine Zm<|Zd rfl<|Zi<|Zm<|Zd rfl<|ZcP rfl hmp ?_
  intro H2 kH2 nH2 iH2
  have mH2:=kH2.1
  have hk:=hk.trans kH2
  have hmp:=kH2.mpa hmp (by simp)
  have c1:=kH2.cl c1 (by simp)
  refine Zi ?_
  obtain ⟨it,eit⟩:∃ it,it=H1.next:=⟨_,rfl⟩
  have hit:=iH2
  rw [← eit] at hit
  have d4:Cl H2 H.next [iv bed,iv d]:=c1
  have hne:gb≠it:=by omega
  have hoit:H.next < it:=by omega
  refine VT s (fn:=Try.f100) ZcS ZdT ZcF (fun z:ML Se × Nat=>[(2,iv cr),(4,pt H.next),(9,.int .u8 (z.2:Int)),(22,.pointer (some ⟨it,0,none⟩))])
   (fun k z H'=>k=L.length - z.1.length∧z.1.Nodup∧(∀ y∈z.1,y∈L)∧Zf H H' []∧it+1≤H'.next∧Ita H' it gb c z.1∧Mpa seV H' gb L c∧Cl H' H.next [iv bed,iv d]∧BsQ d z.1 z.2) _ ([],0) ⟨rfl,List.nodup_nil,(fun y h=>by cases h),hk,by omega,hit,hmp,d4,BsQ.nil⟩ ⟨rfl,rfl,rfl,by rw [eit];rfl,True.intro⟩ ?_
  rintro k ⟨D,t⟩ L1 ⟨rfl,hnd,hD,hk,f2,i2,m2,d4,hb⟩
  simp only [] at hnd hD i2 hb
  refine Zm (Zcy rfl i2 m2 hd.wf hD Ja.fl hd.flat (by omega) (fun hall=>?_) (fun y hy hny H3 k3 n3 i3=>?_))
  ·refine Zl (v:=.bool false) rfl (by kernel_rfl) (Zi (K0 (K7 (t:=false) rfl (fun h=>by cases h) fun _=>W5 ?_)))
   show wCM _ _ _ _ _ _ _ _ _
   have hall2:=hb.all hd hD hall
   refine Zm<|Zd rfl ?_
   obtain ⟨H3,fH3,kH3⟩:=Zb1 (kn:=kn) (lo:=lo) (H:=L1) hb.1
   refine Z4 s (vs:=[.int .u8 (t:Int)]) rfl (Zk fH3) ?_
   have mH3:=kH3.1
   have hk:=hk.trans kH3
   have hpc:=Zb7 (s:=t) (p:=p) (d:=d) (j:=j) hall2 (by omega)
   refine Zd rfl<|Jj (a:=(pc8 t:Int)) (b:=cr) rfl rfl<|Zi ?_
   refine And.intro (fun q1=>?_) (fun q1=>?_)
   ·have q1:(pc8 t:Int) < cr:=of_decide_eq_true q1
    refine Zm<|Zd rfl<|Zi ?_
    refine And.intro trivial (Exists.intro _ (And.intro rfl ⟨0,rfl,.inr ⟨hd.none hg,t,hall2,hb.1,?_⟩,hk⟩))
    rw [if_pos (by omega)]
   ·have q1:¬ ((pc8 t:Int) < cr):=of_decide_eq_false q1
    first | refine Yn ?_ | skip
    refine Zm<|Zd rfl<|Zd rfl<|Zi ?_
    refine And.intro trivial (Exists.intro _ (And.intro rfl ⟨t,rfl,.inr ⟨hd.none hg,t,hall2,hb.1,?_⟩,hk⟩))
    rw [if_neg (by omega)]
  ·have hsub:∀ x∈D ++ [y],x∈L:=fun x hx=>by
    rcases List.mem_append.1 hx with h | h
    ·exact hD x h
    ·simp at h;rw [h];exact hy
   have hnd2:(D ++ [y]).Nodup:=List.nodup_append.2 ⟨hnd,by simp,fun a ha b hb e=>hny (by simp at hb;rw [← hb,← e];exact ha)⟩
   have hlen2:(D ++ [y]).length=D.length+1:=by simp
   have hDL:=Ky hnd2 hsub
   have m3:Mpa seV H3 gb L c:=k3.mpa m2 (by simpa using hne)
   have d43:=k3.cl d4 (by simp;omega)
   refine Zl (v:=.bool true) rfl (by kernel_rfl) (Zi (K0 (K7 (t:=true) rfl (fun _=>Yn ?_) fun h=>by cases h)))
   have hfy:flat y.2.1=true:=hd.flat y hy
   obtain ⟨kk,hkk,hy1,hy2⟩:=hd.mem y hy
   have hy3:y.1.2=p kk:=by rw [hy1]
   refine jY (Zm (Zdl rfl i3 m3 hd.wf hy Ja.fl hfy ?_))
   rw [hy1,hy2]
   refine Zl (v:=seV (B kk,p kk)) rfl (by kernel_rfl) (Zl (v:=iv (kk:Int)) rfl (by kernel_rfl) (W4 fun H4 k4 n4 c4=>U5 (v:=seV (B kk,p kk)) rfl rfl c4 (by omega) rfl rfl (by simp) fun H5 k5 n5 c5=>Zd rfl (Zi ?_)))
   have k35:Zf H3 H5 []:=k4.new k5 (fun b hb=>.inr (by simp at hb;omega))
   have c5:Cl H5 H3.next [iv (B kk),iv (p kk)]:=c5
   have d45:=k35.cl d43 (by simp)
   have n35:=k35.1
   have hk5:=(hk.new k3 (fun b hb=>.inr (by simp at hb;omega))).trans k35
   refine Zm (YB rfl (YE (v:=iv (p kk)) rfl c5.rd rfl (YB rfl (YE (v:=iv d) rfl d45.rd rfl (zE (a:=p kk) (b:=d) rfl rfl (Zi ?_))))))
   refine K7 (t:=p kk == d) rfl (fun hq=>?_) (fun hq=>?_)
   ·have hq:p kk=d:=by simpa using hq
    obtain ⟨H6,f6,k6⟩:=QF (kn:=kn) (lo:=lo) (H:=H5) (j:=(kk:Int)) (d:=kk) (by omega) rfl
    refine Zdm (Zd rfl (Zd rfl (Z4 s (vs:=[iv (kk:Int)]) rfl (Zk f6) (Zl (v:=.int .u8 ((t ||| 2 ^ kk:Nat):Int)) rfl (ZcH hb.1 (UZ (by omega)) rfl rfl) (Zd rfl (Zi ?_))))))
    exact ⟨_,(D ++ [y],t ||| 2 ^ kk),by show L.length - (D ++ [y]).length < L.length - D.length;omega,⟨rfl,hnd2,hsub,hk5.trans k6,by have:=k6.1;omega,k6.ita (k35.ita i3 (by simp)) (by simp),k6.mpa0 (k35.mpa0 m3),k6.cl d45 (by simp),hb.take (by omega) hy2 (by rw [hy3];exact hq)⟩,rfl,rfl,rfl,rfl,True.intro⟩
   ·have hq:p kk≠d:=by simpa using hq
    refine Yn ?_
    exact ⟨_,(D ++ [y],t),by show L.length - (D ++ [y]).length < L.length - D.length;omega,⟨rfl,hnd2,hsub,hk5,by omega,k35.ita i3 (by simp),k35.mpa0 m3,d45,hb.skip (by rw [hy3];exact hq)⟩,rfl,rfl,rfl,rfl,True.intro⟩
 ·obtain ⟨kk,hkk,hB,hp,rfl⟩:=hd.some hg
  refine Zd rfl<|Zl (v:=iv (kk:Int)) rfl (by kernel_rfl)<|Zl (v:=.bool true) rfl (by kernel_rfl)<|Zd rfl<|Zd rfl<|Zi<|Zm<|Zd rfl<|Zi<|YN<|Zm<|Zd rfl ?_
  obtain ⟨H4,fH4,kH4⟩:=QF (kn:=kn) (lo:=lo) (H:=H1) (j:=(kk:Int)) (d:=kk) (by omega) rfl
  refine Z4 s (vs:=[iv ((kk:Int))]) rfl (Zk fH4) ?_
  have mH4:=kH4.1
  have hk:=hk.trans kH4
  have hmp:=kH4.mpa hmp (by simp)
  have c1:=kH4.cl c1 (by simp)
  refine Zd rfl<|Zi ?_
  exact And.intro trivial (Exists.intro _ (And.intro rfl ⟨2 ^ kk,rfl,.inl ⟨kk,hkk,hB,hp,rfl⟩,hk⟩))
end
end
end Go.Ax

/-
 Pool: try (99) (written by program).
-/
namespace Go.Ax
open Go Go.RowKit Go.Proofs

noncomputable section
theorem ZaB:Try.prog.underlying 126=some (.map 130 3):=by kernel_rfl
def plc (n:Nat) (p:Nat→Int):List Value:=(List.range n).map fun k=>iv (p k)
theorem qA {n:Nat} {p:Nat→Int}:(plc n p).length=n:=by unfold plc;simp
theorem jU {n k:Nat} {p:Nat→Int} (h:k < n):(plc n p)[0+k * 1]? = some (iv (p k)):=by
 unfold plc
 rw [Nat.zero_add,Nat.mul_one,List.getElem?_map,List.getElem?_range h];rfl
theorem Zbn {n j:Nat} {p:Nat→Int} {d:Int} (h:j < n):(plc n p).set (0+j * 1) (iv d)=plc n (Vi p j d):=by
 rw [Nat.zero_add,Nat.mul_one]
 apply List.ext_getElem?
 intro i
 unfold plc
 rw [List.getElem?_set]
 by_cases e:j=i
 ·subst e
  rw [if_pos rfl,List.length_map,List.length_range,if_pos h,List.getElem?_map,List.getElem?_range h]
  show some (iv d)=some (iv (Vi p j d j));rw [Y3]
 ·rw [if_neg e,List.getElem?_map,List.getElem?_map]
  by_cases hi:i < n
  ·rw [List.getElem?_range hi];show some (iv (p i))=some (iv (Vi p j d i));rw [Yv (Ne.symm e)]
  ·rw [List.getElem?_eq_none (by simp;omega)];rfl
structure Pq where
 n:Nat
 D:Nat→List Int
 B:Nat→Int
 cr:Int
 lim:Int
 b1:Nat
 b2:Nat
 b3:Nat
 b4:Nat
 b5:Nat
 pb:Nat
 gb:Nat
 ba:Option Addr
 bc:Nat
 da:Option Addr
 dc:Nat
 sa:Nat→Option Addr
 cp:Nat→Nat
def KV (n:Nat) (sa:Nat→Option Addr) (D:Nat→List Int) (cp:Nat→Nat):List Value:=(List.range n).map fun k=>.slice (sa k) (D k).length (cp k)
theorem ZbX {n k:Nat} {sa:Nat→Option Addr} {D:Nat→List Int} {cp:Nat→Nat} (h:k < n):(KV n sa D cp)[0+k * 1]? = some (.slice (sa k) (D k).length (cp k)):=by
 unfold KV
 rw [Nat.zero_add,Nat.mul_one,List.getElem?_map,List.getElem?_range h];rfl
structure PqH (X:Pq) (H:Hp):Prop where
 c1:Rd H X.b1 [.slice (some ⟨X.pb,0,none⟩) X.n X.n]
 c2:Rd H X.b2 [.slice X.ba X.n X.bc,.slice X.da X.n X.dc,iv X.cr]
 c3:Rd H X.b3 [.map (some X.gb)]
 c4:Rd H X.b4 [iv X.lim]
 c5:Rd H X.b5 [.func (.func 99) #[] #[pt X.b1,pt X.b2,pt X.b3,pt X.b4,pt X.b5]]
 bs:Sl H X.ba X.n X.bc (plc X.n X.B)
 ds:Sl H X.da X.n X.dc (KV X.n X.sa X.D X.cp)
 dd:∀ k,k < X.n→Sl H (X.sa k) (X.D k).length (X.cp k) (cI (X.D k))
 lt:X.pb < H.next∧X.gb < H.next
structure PqO (X:Pq):Prop where
 ne:X.pb≠X.gb
 n1:X.b1≠X.pb∧X.b1≠X.gb
 n2:X.b2≠X.pb∧X.b2≠X.gb
 n3:X.b3≠X.pb∧X.b3≠X.gb
 n4:X.b4≠X.pb∧X.b4≠X.gb
 n5:X.b5≠X.pb∧X.b5≠X.gb
 nb:∀ b,X.ba=some ⟨b,0,none⟩→b≠X.pb∧b≠X.gb
 nd:∀ b,X.da=some ⟨b,0,none⟩→b≠X.pb∧b≠X.gb
 ns:∀ k,k < X.n→∀ b,X.sa k=some ⟨b,0,none⟩→b≠X.pb∧b≠X.gb
theorem PqH.keep {X:Pq} {H H1:Hp} (h:PqH X H) (o:PqO X) (k:Zf H H1 [X.pb,X.gb]):PqH X H1:=by
 have m:∀ x,x≠X.pb∧x≠X.gb→x ∉ [X.pb,X.gb]:=fun x q=>by simp;exact q
 exact ⟨k.rd h.c1 (m _ o.n1),k.rd h.c2 (m _ o.n2),k.rd h.c3 (m _ o.n3),k.rd h.c4 (m _ o.n4),k.rd h.c5 (m _ o.n5),k.sl h.bs (fun b e=>m b (o.nb b e)),k.sl h.ds (fun b e=>m b (o.nd b e)),fun i hi=>k.sl (h.dd i hi) (fun b e=>m b (o.ns i hi b e)),Nat.lt_of_lt_of_le h.lt.1 k.1,Nat.lt_of_lt_of_le h.lt.2 k.1⟩
def TrR (X:Pq) (j:Nat) (p:Nat→Int) (v:Value) (H':Hp):Prop:=
 (∃ p2,v=.tuple #[.int .u8 0,.bool true]∧Uq X.n X.D X.B X.cr X.lim j p p2∧Cl H' X.pb (plc X.n p2))∨
  (∃ (s:Nat) (p2:Nat→Int) (L:ML Se) (c:Nat),v=.tuple #[.int .u8 (s:Int),.bool false]∧s < 256∧zT X.n X.D X.B X.cr X.lim j p (fun b=>s.testBit b)∧(∀ i,i < j→p2 i=p i)∧Cl H' X.pb (plc X.n p2)∧Mpa seV H' X.gb L c∧DnQ j X.B p L c)
section
variable {kn:Kn} {lo:Nat} {H:Hp}
theorem jw {l:List Int} {i:Nat} (h:i < l.length):l.getD i 0∈l:=by
 rw [List.getD_eq_getElem?_getD,List.getElem?_eq_getElem h];exact List.getElem_mem h
theorem jf {p p2:Nat→Int} {j:Nat} {d:Int} (h:∀ i,i < j→p2 i=p i):∀ i,i < j+1→Vi p2 j d i=Vi p j d i:=by
 intro i hi
 by_cases e:i=j
 ·subst e;rw [Y3,Y3]
 ·rw [Yv e,Yv e];exact h i (by omega)
theorem Uq.fullc {n j:Nat} {D:Nat→List Int} {B:Nat→Int} {cr lim:Int} {p p0:Nat→Int} (e:j=n) (h:OkQ j D B cr lim p) (hp:∀ i,i < j→p0 i=p i):Uq n D B cr lim j p p0:=by
 subst e
 exact ⟨h.congr hp,hp,fun q _ e=>.inl fun i hi=>by rw [e i hi,hp i hi]⟩
theorem XT.back_ {n j i:Nat} {D:Nat→List Int} {B:Nat→Int} {cr lim:Int} {p p2:Nat→Int} {s:Nat→Bool} (h:XT n D B cr lim j p s i) (hj:j < n) (hr:(D j).Pairwise (· < ·)) (hi:i < (D j).length) (hf:Uq n D B cr lim (j+1) (Vi p j ((D j).getD i 0)) p2):Uq n D B cr lim j p p2:=Uq.back h hj hr hi hf
set_option maxRecDepth 100000 in
set_option maxHeartbeats 4000000 in
theorem zV (s:Snd Try.prog kn) {X:Pq} (ho:PqO X) (hn:X.n≤8) (hcr:1≤X.cr) (hDs:∀ k,k < X.n→(X.D k).Pairwise (· < ·)) (hDl:∀ k,k < X.n→(X.D k).length≤41) (hlp:lo≤X.pb) (hlg:lo≤X.gb) {j:Nat} {p p0:Nat→Int} {L:ML Se} {c:Nat} (hjn:j≤X.n) (hP:PqH X H) (hp0:∀ i,i < j→p0 i=p i) (cp:Cl H X.pb (plc X.n p0)) (hmp:Mpa seV H X.gb L c) (hd:DnQ j X.B p L c) (hok:OkQ j X.D X.B X.cr X.lim p) (ih:∀ {H:Hp} {p p0:Nat→Int} {L:ML Se} {c:Nat},j+1≤X.n→PqH X H→(∀ i,i < j+1→p0 i=p i)→Cl H X.pb (plc X.n p0)→Mpa seV H X.gb L c→DnQ (j+1) X.B p L c→OkQ (j+1) X.D X.B X.cr X.lim p→FnM Try.prog lo 99 [iv ((j+1:Nat):Int),pt X.b1,pt X.b2,pt X.b3,pt X.b4,pt X.b5] H fun v H'=>TrR X (j+1) p v H'∧Zf H H' [X.pb,X.gb]) :
  FnM Try.prog lo 99 [iv (j:Int),pt X.b1,pt X.b2,pt X.b3,pt X.b4,pt X.b5] H fun v H'=>TrR X j p v H'∧Zf H H' [X.pb,X.gb]:=by
 refine WA s Try.func99 B99 N99 Z99 L99 (by simp) ?_
 have hk:=Zf.refl H [X.pb,X.gb]
 obtain ⟨one_,on1,on2,on3,on4,on5,_,_,_⟩:=id ho
 have hlt:=hP.lt
 have u1:=hP.c1
 have u2:=hP.c2
 have u3:=hP.c3
 have u4:=hP.c4
 have u5:=hP.c5
 refine Zm<|Zd rfl<|Zd rfl<|Zi ?_
 first | refine Zdn ?_ | refine ZbD ?_
 refine Zm<|Zd rfl<|YE (b:=X.b1) (o:=0) (v:=.slice (some ⟨X.pb,0,none⟩) X.n X.n) rfl u1 rfl<|W0 (m:=X.n) rfl<|zE (a:=(j:Int)) (b:=(X.n:Int)) rfl rfl<|Zi ?_
 refine And.intro (fun q1=>?_) (fun q1=>?_)
 ·have q1:(j:Int)=(X.n:Int):=by simpa using q1
  have ejn:j=X.n:=by omega
  refine Zm<|Zd rfl<|Zd rfl<|Zi ?_
  exact And.intro trivial (Exists.intro _ (And.intro rfl ⟨.inl ⟨p0,rfl,Uq.fullc ejn hok hp0,cp⟩,hk⟩))
 ·have q1:¬ ((j:Int)=(X.n:Int)):=by simpa using q1
  have hj:j < X.n:=by omega
  first | refine Yn ?_ | skip
  first | refine Yn ?_ | skip
  refine Zm<|YB (b:=X.b2) (o:=0) rfl<|YE (b:=X.b2) (o:=1) (v:=.slice X.da X.n X.dc) rfl u2 rfl<|Zd rfl ?_
  have ds0:=(hP.keep ho hk).ds
  rcases id ds0 with ⟨_,h0d,_⟩ | ⟨db,ed,rd,_⟩
  ·omega
  have ldb:=rd.lt
  refine zb (b:=db) (o:=0) (k:=j) (j:=(j:Int)) (by rw [← ed];rfl) rfl rfl hj<|YE (b:=db) (o:=0+j * 1) (v:=.slice (X.sa j) ((X.D j).length) (X.cp j)) rfl rd (ZbX hj)<|W0 (m:=(X.D j).length) rfl<|Zd rfl<|Zi ?_
  refine VT s (fn:=Try.f99) Zec N99 Zdw (fun z:Nat × Nat=>[(0,iv (j:Int)),(1,pt X.b1),(2,pt X.b2),(3,pt X.b3),(4,pt X.b4),(5,pt X.b5),(7,.int .u8 (z.2:Int)),(23,.slice (X.sa j) ((X.D j).length) (X.cp j)),(24,iv ((X.D j).length:Int)),(25,iv (z.1:Int))])
   (fun k z H'=>z.1+k=(X.D j).length∧z.2 < 256∧XT X.n X.D X.B X.cr X.lim j p (fun b=>z.2.testBit b) z.1∧Zf H H' [X.pb,X.gb]∧∃ (p2:Nat→Int) (L:ML Se) (c:Nat),(∀ i,i < j→p2 i=p i)∧Cl H' X.pb (plc X.n p2)∧Mpa seV H' X.gb L c∧DnQ j X.B p L c) (X.D j).length (0,0) ⟨by simp,by decide,XT.zero (fun b=>Nat.zero_testBit b),hk,p0,L,c,hp0,cp,hmp,hd⟩ ⟨rfl,rfl,rfl,rfl,rfl,rfl,rfl,rfl,rfl,rfl,trivial⟩ ?_
  rintro k ⟨i,sb⟩ L1 ⟨hik,hs,hq,hk,p2,L,c,hp2,cp,hmp,hd⟩
  simp only [] at hik hs hq hmp hd
  have hQ:=hP.keep ho hk
  have mk:=hk.1
  have hpl:=cp.1
  have hml:=hmp.1
  have u1:=hQ.c1
  have u2:=hQ.c2
  have u3:=hQ.c3
  have u4:=hQ.c4
  have lu1:=u1.lt
  have lu2:=u2.lt
  have lu3:=u3.lt
  have lu4:=u4.lt
  have u5:=hQ.c5
  have lu5:=u5.lt
  refine Zm<|Jj (a:=(i:Int)) (b:=((X.D j).length:Int)) rfl rfl<|Zi ?_
  refine And.intro (fun q2=>?_) (fun q2=>?_)
  ·have q2:(i:Int) < ((X.D j).length:Int):=of_decide_eq_true q2
   have hil:i < (X.D j).length:=by omega
   have hdj:=hDl j hj
   first | refine Yn ?_ | skip
   refine Zm ?_
   have sd0:=hQ.dd j hj
   rcases id sd0 with ⟨_,h0s,_⟩ | ⟨qb,eq,rq,_⟩
   ·omega
   have lqb:=rq.lt
   have oq:=ho.ns j hj qb eq
   refine zb (b:=qb) (o:=0) (k:=i) (j:=(i:Int)) (by rw [← eq];rfl) rfl rfl hil<|YE (b:=qb) (o:=0+i * 1) (v:=iv ((X.D j).getD i 0)) rfl rq (Jx hil)<|Zd rfl<|Zi<|Zm<|YB (b:=X.b2) (o:=0) rfl<|YE (b:=X.b2) (o:=0) (v:=.slice X.ba X.n X.bc) rfl u2 rfl<|Zd rfl ?_
   have sb0:=(hP.keep ho hk).bs
   rcases id sb0 with ⟨_,h0b,_⟩ | ⟨wb,ew,rw_,_⟩
   ·omega
   have lwb:=rw_.lt
   have ow:=ho.nb wb ew
   refine zb (b:=wb) (o:=0) (k:=j) (j:=(j:Int)) (by rw [← ew];rfl) rfl rfl hj<|YE (b:=wb) (o:=0+j * 1) (v:=iv (X.B j)) rfl rw_ (jU hj)<|Zd rfl<|Zl (v:=.agg #[iv (X.B j),iv ((X.D j).getD i 0)]) rfl (by kernel_rfl)<|W4 ?_
   intro H1 kH1 nH1 c1
   have c1:Cl H1 L1.next [iv 0,iv 0]:=c1
   have mH1:=kH1.1
   have hk:=hk.trans (kH1.mono (by simp))
   have cp:=kH1.cl cp (by simp)
   have hmp:=kH1.mpa hmp (by simp)
   have u1:=kH1.rd u1 (by simp)
   have u2:=kH1.rd u2 (by simp)
   have u3:=kH1.rd u3 (by simp)
   have u4:=kH1.rd u4 (by simp)
   have u5:=kH1.rd u5 (by simp)
   have rq:=kH1.rd rq (by simp)
   have rw_:=kH1.rd rw_ (by simp)
   refine U5 (b:=L1.next) (o:=0) rfl rfl c1 (by omega) rfl rfl (by simp) ?_
   intro H2 kH2 nH2 sH2
   have mH2:=kH2.1
   have hk:=hk.new kH2 (fun b hb=>by simp at hb ⊢;omega)
   have cp:=kH2.cl cp (by first | (simp;done) | (simp;omega))
   have hmp:=kH2.mpa hmp (by simp;omega)
   have u1:=kH2.rd u1 (by first | (simp;done) | (simp;omega))
   have u2:=kH2.rd u2 (by first | (simp;done) | (simp;omega))
   have u3:=kH2.rd u3 (by first | (simp;done) | (simp;omega))
   have u4:=kH2.rd u4 (by first | (simp;done) | (simp;omega))
   have u5:=kH2.rd u5 (by first | (simp;done) | (simp;omega))
   have rq:=kH2.rd rq (by first | (simp;done) | (simp;omega))
   have rw_:=kH2.rd rw_ (by first | (simp;done) | (simp;omega))
   have c1:Cl H2 L1.next [iv (X.B j),iv ((X.D j).getD i 0)]:=sH2
   refine Zi<|Zm<|YE (b:=X.b3) (o:=0) (v:=.map (some X.gb)) rfl u3 rfl<|XG (b:=L1.next) (o:=0) rfl c1.rd (show row 2 _ _=some [iv (X.B j),iv ((X.D j).getD i 0)] from rfl)<|YB (b:=X.b2) (o:=0) rfl<|YE (b:=X.b2) (o:=2) (v:=iv X.cr) rfl u2 rfl<|XM (t:=.fn (.func 100) #[]) rfl (Y7 s.hN (jq s (H:=H2) (bed:=X.B j) (d:=((X.D j).getD i 0)) (cr:=X.cr) hmp hd (by omega) (by omega))) ?_
   rintro _ H3 ⟨t,rfl,hr,kH3⟩
   have mH3:=kH3.1
   have hk:=hk.trans (kH3.mono (by simp))
   have cp:=kH3.cl cp (by simp)
   have hmp:=kH3.mpa hmp (by simp)
   have u1:=kH3.rd u1 (by simp)
   have u2:=kH3.rd u2 (by simp)
   have u3:=kH3.rd u3 (by simp)
   have u4:=kH3.rd u4 (by simp)
   have u5:=kH3.rd u5 (by simp)
   have rq:=kH3.rd rq (by simp)
   have rw_:=kH3.rd rw_ (by simp)
   have c1:=kH3.cl c1 (by simp)
   have htl:=hr.lt (by omega)
   refine Zd rfl<|Zi<|Zm<|Zd rfl<|YE (b:=X.b4) (o:=0) (v:=iv X.lim) rfl u4 rfl<|Zaf (a:=((X.D j).getD i 0)) (b:=X.lim) rfl rfl<|Zd rfl<|Zi ?_
   refine And.intro (fun q3=>?_) (fun q3=>?_)
   ·have q3:((X.D j).getD i 0) > X.lim:=of_decide_eq_true q3
    have hlt:X.lim < (X.D j).getD i 0:=by omega
    first | (refine W5 ?_;show wCM _ _ _ _ _ _ _ _ _) | skip
    refine Zm<|Zd rfl<|Zd rfl<|Zd rfl<|Zi ?_
    exact And.intro trivial (Exists.intro _ (And.intro rfl ⟨.inr ⟨sb,p2,L,c,rfl,hs,hq.bad hj (hDs j hj) (.inr ⟨hil,hlt⟩),hp2,cp,hmp,hd⟩,hk⟩))
   ·have q3:¬ (((X.D j).getD i 0) > X.lim):=of_decide_eq_false q3
    have hle:(X.D j).getD i 0≤X.lim:=by omega
    refine Zm<|Zd rfl<|Zl (v:=.bool (decide (t≠0))) rfl (ZaS rfl) ?_
    by_cases ht0:t=0
    ·subst ht0
     rw [show decide ((0:Nat)≠0)=false from rfl]
     refine Zd rfl<|Zi<|YI ?_
     first | refine Yn ?_ | skip
     refine qR<|Yb (b:=X.b1) (o:=0) (v:=.slice (some ⟨X.pb,0,none⟩) X.n X.n) rfl u1 rfl<|Yr rfl<|Yb (b:=X.b3) (o:=0) (v:=.map (some X.gb)) rfl u3 rfl<|Uh (b:=L1.next) (o:=0) rfl c1.rd (show row 2 _ _=some [iv (X.B j),iv ((X.D j).getD i 0)] from rfl)<|Yr rfl<|Yr rfl<|WJ (b:=X.pb) (o:=0) (k:=j) (j:=(j:Int)) rfl rfl rfl hj<|JY (b:=X.pb) (o:=0+j * 1) (v:=iv ((X.D j).getD i 0)) rfl rfl cp hlp rfl rfl (by rw [qA];omega) ?_
     intro H4 kH4 nH4 cp2
     have mH4:=kH4.1
     rw [Zbn hj] at cp2
     have hk:=hk.new kH4 (fun b hb=>by simp at hb ⊢;omega)
     have hmp:=kH4.mpa hmp (by simp;omega)
     have u1:=kH4.rd u1 (by first | (simp;done) | (simp;omega))
     have u2:=kH4.rd u2 (by first | (simp;done) | (simp;omega))
     have u3:=kH4.rd u3 (by first | (simp;done) | (simp;omega))
     have u4:=kH4.rd u4 (by first | (simp;done) | (simp;omega))
     have u5:=kH4.rd u5 (by first | (simp;done) | (simp;omega))
     have rq:=kH4.rd rq (by first | (simp;done) | (simp;omega))
     have rw_:=kH4.rd rw_ (by first | (simp;done) | (simp;omega))
     have c1:=kH4.cl c1 (by first | (simp;done) | (simp;omega))
     have cp:=cp2
     have hry:=hr.yes hcr
     have hgn:ZQ ((X.B j,((X.D j).getD i 0)):Se) L=none:=by
      cases hg:ZQ ((X.B j,((X.D j).getD i 0)):Se) L with
      | none=>rfl
      | some v0=>
       obtain ⟨k0,q0,q1,q2,_⟩:=hd.some hg
       exact absurd q2 (hry.1 k0 q0 q1)
     obtain ⟨H5,fH5,kH5,nH5,hmp2⟩:=jt (P:=Try.prog) (lo:=lo) (H:=H4) Ja ZaB (a:=((X.B j,((X.D j).getD i 0)):Se)) (v:=iv (j:Int)) hmp hlg rfl
     refine Zbs (b:=X.gb) (Zck rfl rfl rfl) rfl (fH5 _ _ _ _ _ _ _ _ rfl rfl rfl) ?_
     have mH5:=kH5.1
     have hk:=hk.new kH5 (fun b hb=>by simp at hb ⊢;omega)
     have u1:=kH5.rd u1 (by first | (simp;done) | (simp;omega))
     have u2:=kH5.rd u2 (by first | (simp;done) | (simp;omega))
     have u3:=kH5.rd u3 (by first | (simp;done) | (simp;omega))
     have u4:=kH5.rd u4 (by first | (simp;done) | (simp;omega))
     have u5:=kH5.rd u5 (by first | (simp;done) | (simp;omega))
     have rq:=kH5.rd rq (by first | (simp;done) | (simp;omega))
     have rw_:=kH5.rd rw_ (by first | (simp;done) | (simp;omega))
     have c1:=kH5.cl c1 (by first | (simp;done) | (simp;omega))
     have cp:=kH5.cl cp (by first | (simp;done) | (simp;omega))
     have hmp:=hmp2
     have hd2:=hd.put hgn
     refine Xv (by repeat' first | exact True.intro | exact (fun h=>h) | refine And.intro ?_ ?_ | (intro h;have h:(_:Nat)=_:=h;omega)) ?_
     refine Zm<|YE (b:=X.b5) (o:=0) (v:=.func (.func 99) #[] #[pt X.b1,pt X.b2,pt X.b3,pt X.b4,pt X.b5]) rfl u5 rfl<|Zd rfl<|Jg (a:=(j:Int)) (b:=1) rfl rfl ⟨by omega,by omega⟩ ?_
     have hok2:=hok.put (D:=X.D) (d:=((X.D j).getD i 0)) (jw hil) hle hry.1 hry.2
     refine XM (t:=.fn (.func 99) #[pt X.b1,pt X.b2,pt X.b3,pt X.b4,pt X.b5]) rfl (Ua s.hN (show FnM Try.prog lo 99 [iv ((j:Int)+1),pt X.b1,pt X.b2,pt X.b3,pt X.b4,pt X.b5] H5 _ from ih (H:=H5) (p:=Vi p j ((X.D j).getD i 0)) (p0:=Vi p2 j ((X.D j).getD i 0)) (by omega) (hP.keep ho hk) (jf hp2) cp hmp hd2 hok2)) ?_
     rintro v H6 ⟨hres,kH6⟩
     have mH6:=kH6.1
     have hk:=hk.new kH6 (fun b hb=>by simp at hb ⊢;omega)
     have u1:=kH6.rd u1 (by first | (simp;done) | (simp;omega))
     have u2:=kH6.rd u2 (by first | (simp;done) | (simp;omega))
     have u3:=kH6.rd u3 (by first | (simp;done) | (simp;omega))
     have u4:=kH6.rd u4 (by first | (simp;done) | (simp;omega))
     have u5:=kH6.rd u5 (by first | (simp;done) | (simp;omega))
     have rq:=kH6.rd rq (by first | (simp;done) | (simp;omega))
     have rw_:=kH6.rd rw_ (by first | (simp;done) | (simp;omega))
     have c1:=kH6.cl c1 (by first | (simp;done) | (simp;omega))
     rcases hres with ⟨p3,rfl,hf,cp⟩ | ⟨m,p3,L3,c3_,rfl,hm,hbad,hp3q,cp,hmp,hd3⟩
     ·refine Zd rfl<|Zl (v:=.int .u8 0) rfl (by kernel_rfl)<|Zl (v:=.bool true) rfl (by kernel_rfl)<|Zd rfl<|Zd rfl<|Zi<|Zm<|Zd rfl<|Zi<|YN<|Zm<|Zd rfl<|Zd rfl<|Zi ?_
      exact And.intro trivial (Exists.intro _ (And.intro rfl ⟨.inl ⟨p3,rfl,hq.back_ hj (hDs j hj) hil hf,cp⟩,hk⟩))
     ·have hp3:∀ i,i < j→p3 i=p i:=fun i hi=>by rw [hp3q i (by omega),Yv (by omega)]
      refine Zd rfl<|Zl (v:=.int .u8 ((m:Nat):Int)) rfl (by kernel_rfl)<|Zl (v:=.bool false) rfl (by kernel_rfl)<|Zd rfl<|Zd rfl<|Zi<|Zm<|Zd rfl<|Zi<|YI ?_
      first | refine Yn ?_ | skip
      refine Zm<|YE (b:=X.b3) (o:=0) (v:=.map (some X.gb)) rfl u3 rfl<|XG (b:=L1.next) (o:=0) rfl c1.rd (show row 2 _ _=some [iv (X.B j),iv ((X.D j).getD i 0)] from rfl)<|Zdo (a:=((X.B j,((X.D j).getD i 0)):Se)) Ja ZaB rfl rfl hmp hlg (qQ rfl rfl) rfl ?_
      intro H7 kH7 nH7 hmp2
      have mH7:=kH7.1
      have hk:=hk.new kH7 (fun b hb=>by simp at hb ⊢;omega)
      have u1:=kH7.rd u1 (by first | (simp;done) | (simp;omega))
      have u2:=kH7.rd u2 (by first | (simp;done) | (simp;omega))
      have u3:=kH7.rd u3 (by first | (simp;done) | (simp;omega))
      have u4:=kH7.rd u4 (by first | (simp;done) | (simp;omega))
      have u5:=kH7.rd u5 (by first | (simp;done) | (simp;omega))
      have rq:=kH7.rd rq (by first | (simp;done) | (simp;omega))
      have rw_:=kH7.rd rw_ (by first | (simp;done) | (simp;omega))
      have c1:=kH7.cl c1 (by first | (simp;done) | (simp;omega))
      have cp:=kH7.cl cp (by first | (simp;done) | (simp;omega))
      have hmp:=hmp2
      have hd3:DnQ j X.B p (VJ ((X.B j,((X.D j).getD i 0)):Se) L3) c3_:=by
       have:=hd3.del (p:=p) (fun k hk=>Yv (by omega))
       rw [Y3] at this
       exact this
      refine Zi<|Zm<|Zd rfl<|Zd rfl ?_
      obtain ⟨H8,fH8,kH8⟩:=Zc6 (kn:=kn) (lo:=lo) (H:=H7) (j:=(j:Int)) (d:=j) (s:=m) (by omega) rfl hm
      refine Z4 s (vs:=[.int .u8 (m:Int),iv (j:Int)]) rfl (Zk fH8) ?_
      have mH8:=kH8.1
      have hk:=hk.trans (kH8.mono (by simp))
      have u1:=kH8.rd u1 (by simp)
      have u2:=kH8.rd u2 (by simp)
      have u3:=kH8.rd u3 (by simp)
      have u4:=kH8.rd u4 (by simp)
      have u5:=kH8.rd u5 (by simp)
      have rq:=kH8.rd rq (by simp)
      have rw_:=kH8.rd rw_ (by simp)
      have c1:=kH8.cl c1 (by simp)
      have cp:=kH8.cl cp (by simp)
      have hmp:=kH8.mpa hmp (by simp)
      cases hmj:m.testBit j
      ·refine Zl (v:=.bool true) rfl rfl<|Zi<|YN<|Zm<|Zd rfl<|Zd rfl<|Zd rfl<|Zi ?_
       exact And.intro trivial (Exists.intro _ (And.intro rfl ⟨.inr ⟨m,p3,_,_,rfl,hm,hbad.down hmj,hp3,cp,hmp,hd3⟩,hk⟩))
      ·refine Zl (v:=.bool false) rfl rfl<|Zi<|YI ?_
       first | refine Yn ?_ | skip
       show Zp _ _ _ _ _ _ _ _
       refine Zd rfl<|Zd rfl<|Zd rfl ?_
       obtain ⟨H9,fH9,kH9⟩:=QF (kn:=kn) (lo:=lo) (H:=H8) (j:=(j:Int)) (d:=j) (by omega) rfl
       refine Z4 s (vs:=[iv (j:Int)]) rfl (Zk fH9) ?_
       have mH9:=kH9.1
       have hk:=hk.trans (kH9.mono (by simp))
       have u1:=kH9.rd u1 (by simp)
       have u2:=kH9.rd u2 (by simp)
       have u3:=kH9.rd u3 (by simp)
       have u4:=kH9.rd u4 (by simp)
       have u5:=kH9.rd u5 (by simp)
       have rq:=kH9.rd rq (by simp)
       have rw_:=kH9.rd rw_ (by simp)
       have c1:=kH9.cl c1 (by simp)
       have cp:=kH9.cl cp (by simp)
       have hmp:=kH9.mpa hmp (by simp)
       refine Zl (v:=.int .u8 ((m &&& (2 ^ 8 - (2 ^ j+1)):Nat):Int)) rfl (Za0 hm (UZ (by omega)) rfl rfl) ?_
       have hcl:m &&& (2 ^ 8 - (2 ^ j+1)) < 256:=Nat.lt_of_le_of_lt Nat.and_le_left hm
       have hst:sb ||| (m &&& (2 ^ 8 - (2 ^ j+1))) < 256:=Nat.or_lt_two_pow (n:=8) hs hcl
       have hq2:XT X.n X.D X.B X.cr X.lim j p (fun b=>(sb ||| (m &&& (2 ^ 8 - (2 ^ j+1)))).testBit b) (i+1):=hq.more hil hbad (fun b=>by
        show Nat.testBit (_ ||| _) b=_
        rw [Nat.testBit_or,Zbx hm (by omega)])
       refine Zl (v:=.int .u8 ((sb ||| (m &&& (2 ^ 8 - (2 ^ j+1))):Nat):Int)) rfl (ZcH hs hcl rfl rfl)<|Zd rfl<|Zi ?_
       show Zp _ _ _ _ _ _ _ _
       refine Jg (a:=(i:Int)) (b:=1) rfl rfl ⟨by omega,by omega⟩<|Zd rfl<|Zi ?_
       exact ⟨k - 1,(i+1,_),by omega,⟨by simp only [];omega,hst,hq2,hk,p3,_,_,hp3,cp,hmp,hd3⟩,rfl,rfl,rfl,rfl,rfl,rfl,rfl,rfl,rfl,rfl,trivial⟩
    ·rw [decide_eq_true ht0]
     refine Zd rfl<|Zi<|YN<|Zm<|Zd rfl<|Zd rfl ?_
     have hst:sb ||| t < 256:=Nat.or_lt_two_pow (n:=8) hs htl
     have hq2:=hq.riv hil hj hr ht0
     refine Zl (v:=.int .u8 ((sb ||| t:Nat):Int)) rfl (ZcH hs htl rfl rfl)<|Zd rfl<|Zi ?_
     first | (refine W5 ?_;show wCM _ _ _ _ _ _ _ _ _) | skip
     show Zp _ _ _ _ _ _ _ _
     refine Jg (a:=(i:Int)) (b:=1) rfl rfl ⟨by omega,by omega⟩<|Zd rfl<|Zi ?_
     exact ⟨k - 1,(i+1,sb ||| t),by omega,⟨by simp only [];omega,hst,hq2,hk,p2,L,c,hp2,cp,hmp,hd⟩,rfl,rfl,rfl,rfl,rfl,rfl,rfl,rfl,rfl,rfl,trivial⟩
  ·have q2:¬ ((i:Int) < ((X.D j).length:Int)):=of_decide_eq_false q2
   first | (refine W5 ?_;show wCM _ _ _ _ _ _ _ _ _) | skip
   refine Zm<|Zd rfl<|Zd rfl<|Zd rfl<|Zi ?_
   exact And.intro trivial (Exists.intro _ (And.intro rfl ⟨.inr ⟨sb,p2,L,c,rfl,hs,hq.bad hj (hDs j hj) (.inl (by omega)),hp2,cp,hmp,hd⟩,hk⟩))
theorem ZaV (s:Snd Try.prog kn) {X:Pq} (ho:PqO X) (hn:X.n≤8) (hcr:1≤X.cr) (hDs:∀ k,k < X.n→(X.D k).Pairwise (· < ·)) (hDl:∀ k,k < X.n→(X.D k).length≤41) (hlp:lo≤X.pb) (hlg:lo≤X.gb):∀ (d:Nat) {j:Nat} {p p0:Nat→Int} {L:ML Se} {c:Nat} {H:Hp},j+d=X.n→PqH X H→(∀ i,i < j→p0 i=p i)→Cl H X.pb (plc X.n p0)→Mpa seV H X.gb L c→DnQ j X.B p L c→OkQ j X.D X.B X.cr X.lim p→FnM Try.prog lo 99 [iv (j:Int),pt X.b1,pt X.b2,pt X.b3,pt X.b4,pt X.b5] H fun v H'=>TrR X j p v H'∧Zf H H' [X.pb,X.gb]
 | 0,j,_,_,_,_,_,hj,a1,a2,a3,a4,a5,a6=>zV s ho hn hcr hDs hDl hlp hlg (by omega) a1 a2 a3 a4 a5 a6 (fun h=>by omega)
 | d+1,j,_,_,_,_,_,hj,a1,a2,a3,a4,a5,a6=>zV s ho hn hcr hDs hDl hlp hlg (by omega) a1 a2 a3 a4 a5 a6 (fun _ b1 b2 b3 b4 b5 b6=>ZaV s ho hn hcr hDs hDl hlp hlg d (by omega) b1 b2 b3 b4 b5 b6)
end
end
end Go.Ax


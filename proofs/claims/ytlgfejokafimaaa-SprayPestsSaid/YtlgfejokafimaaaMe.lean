import Derived.Test.YtlgfejokafimaaaMd
set_option linter.all false
/-
 Pool: what is valid: products,beds,stands,jobs (written by program).
-/
namespace Go.Ax
open Go Go.RowKit Go.Proofs

theorem Zab {α:Type} {l:List α} {p:α→Bool} {z:α} {i:Nat} (h:i < l.length) (hp:p (l.getD i z)=false):l.all p=false:=by
 rw [List.all_eq_false]
 exact ⟨l.getD i z,by rw [List.getD_eq_getElem?_getD,List.getElem?_eq_getElem h];exact List.getElem_mem h,by rw [hp];simp⟩
theorem qr {α:Type} {l:List α} {p:α→Bool} {z:α} (h:∀ i,i < l.length→p (l.getD i z)=true):l.all p=true:=by
 rw [← XC (z:=z),List.all_eq_true]
 exact fun i hi=>h i (List.mem_range.1 hi)
theorem WL {α:Type} {l:List α} {p:α→Bool} {z:α} {i:Nat} (h:l.all p=true) (hi:i < l.length):p (l.getD i z)=true:=by
 rw [← XC (z:=z),List.all_eq_true] at h
 exact h i (List.mem_range.2 hi)
def YaB (y:Yd):Prop:=y.ps.length≤1000∧y.bs.length≤1000∧y.ss.length≤1000∧y.js.length≤1000∧∀ i,i < y.ps.length→(y.ps.getD i Pd.z).wt.length≤1000
section
variable {kn:Kn} {lo:Nat} {H:Hp}
theorem Zb2 {l:List Bd} {sa:Option Addr} {n cap:Nat} (hs:Sl H sa n cap (bdc l)) (hl:l.length=n) (hn:n≤1000000) (hlo:lo≤H.next) {F:FuncId} {gc:Array Value} {bad:Nat→Bool} (hc:∀ i,i < n→∀ H1,Zf H H1 []→∃ H2,ZL Try.prog kn lo (.fn (.func F) gc) [.agg (Bd.f (l.getD i Bd.z)).toArray] H1 (.bool (bad i)) H2∧Zf H1 H2 []):∃ x H',FnX Try.prog kn lo 105 [.slice sa n cap,.func (.func F) #[] gc] H (iv x) H'∧(decide (x ≥ 0)=true↔∃ i,i < n∧bad i=true)∧Zf H H' []:=by
 have key:=Zs (kn:=kn) (lo:=lo) (H:=H) (args:=[.slice sa n cap,.func (.func F) #[] gc]) (Q:=fun w H'=>∃ x,w=iv x∧(decide (x ≥ 0)=true↔∃ i,i < n∧bad i=true)∧Zf H H' []) Try.func105 Zfr ZdR Zfu Zfg (by simp) ?_
 ·obtain ⟨w,H',h,x,rfl,r⟩:=key;exact ⟨x,H',h,r⟩
 have hk:=Zf.refl H []
 refine Zd<|Za rfl<|Zb<|Zd<|Za rfl<|YI (m:=n) rfl<|Za rfl<|Zb ?_
 refine YO (fn:=Try.f105) ZcK ZdR ZcI (fun i:Nat=>[(0,.slice sa n cap),(1,.func (.func F) #[] gc),(7,iv (n:Int)),(8,iv (i:Int))])
  (fun k i H'=>i+k=n∧Zf H H' []∧∀ j,j < i→bad j=false) n 0 ⟨by omega,hk,fun j h=>absurd h (by omega)⟩ ⟨rfl,rfl,rfl,rfl,trivial⟩ ?_
 rintro k i L1 ⟨hik,hk,hall⟩
 have mk:=hk.1
 refine Zd<|YY (a:=(i:Int)) (b:=(n:Int)) rfl rfl<|Zb ?_
 refine And.intro (fun q1=>?_) (fun q1=>?_)
 ·have q1:(i:Int) < (n:Int):=of_decide_eq_true q1
  have hi:i < n:=by omega
  have ss0:=hk.sl0 hs
  rcases id ss0 with ⟨_,h0s,_⟩ | ⟨sb,es,rs,_⟩
  ·omega
  have ls:=rs.1
  have fs:=hs.old
  first | refine ZE ?_ | skip
  refine Zd<|Za rfl<|Za rfl<|Zb<|Zd<|Za rfl<|Za rfl<|Za rfl<|Xz (b:=sb) (o:=0) (k:=i) (j:=(i:Int)) (by rw [← es];rfl) rfl rfl hi<|Yo (b:=sb) (o:=0+i * 4) rfl rs (Uq (by omega)) ?_
  obtain ⟨H1,fH1,kH1⟩:=hc i hi L1 hk
  have mH1:=kH1.1
  have hk:=hk.trans kH1
  have rs:=kH1.rd rs (by simp)
  cases hb:bad i
  ·rw [hb] at fH1
   refine Zr (v:=.bool false) (vs:=[.agg (Bd.f (l.getD i Bd.z)).toArray]) rfl fH1<|Zb<|YE ?_
   first | refine ZE ?_ | skip
   show Zw _ _ _ _ _ _ _ _
   refine YK (a:=(i:Int)) (b:=1) rfl rfl ⟨by omega,by omega⟩<|Za rfl<|Zb ?_
   exact ⟨k - 1,i+1,by omega,⟨by omega,hk,fun j hj=>by rcases Nat.lt_or_ge j i with c | c;exact hall j c;rw [show j=i by omega];exact hb⟩,rfl,rfl,rfl,rfl,trivial⟩
  ·rw [hb] at fH1
   refine Zr (v:=.bool true) (vs:=[.agg (Bd.f (l.getD i Bd.z)).toArray]) rfl fH1<|Zb<|YC<|Zd<|Za rfl<|Za rfl<|Zb ?_
   exact And.intro trivial (Exists.intro _ (And.intro rfl ⟨(i:Int),rfl,⟨fun _=>⟨i,hi,hb⟩,fun _=>decide_eq_true (by omega)⟩,hk⟩))
 ·have q1:¬ ((i:Int) < (n:Int)):=of_decide_eq_false q1
  refine Zd<|Za rfl<|Zb ?_
  exact And.intro trivial (Exists.intro _ (And.intro rfl ⟨-1,rfl,⟨fun h=>absurd (of_decide_eq_true h) (by omega),fun ⟨j,hj,q⟩=>by rw [hall j (by omega)] at q;cases q⟩,hk⟩))
theorem ZbL {l:List Bd} {sa:Option Addr} {n cap:Nat} (hs:Sl H sa n cap (bdc l)) (hl:l.length=n) (hn:n≤1000000) (hlo:lo≤H.next) {F:FuncId} {gc:Array Value} {bad:Nat→Bool} (hc:∀ i,i < n→∀ H1,Zf H H1 []→∃ H2,ZL Try.prog kn lo (.fn (.func F) gc) [.agg (Bd.f (l.getD i Bd.z)).toArray] H1 (.bool (bad i)) H2∧Zf H1 H2 []):∃ b H',FnX Try.prog kn lo 92 [.slice sa n cap,.func (.func F) #[] gc] H (.bool b) H'∧(b=true↔∃ i,i < n∧bad i=true)∧Zf H H' []:=by
 have key:=Zs (kn:=kn) (lo:=lo) (H:=H) (args:=[.slice sa n cap,.func (.func F) #[] gc]) (Q:=fun w H'=>∃ b,w=.bool b∧(b=true↔∃ i,i < n∧bad i=true)∧Zf H H' []) Try.func92 B92 N92 Z92 L92 (by simp) ?_
 ·obtain ⟨w,H',h,x,rfl,r⟩:=key;exact ⟨x,H',h,r⟩
 have hk:=Zf.refl H []
 refine Zd<|Za rfl<|Zb<|Zd<|Za rfl<|Za rfl ?_
 obtain ⟨x,H1,fH1,hx,kH1⟩:=Zb2 (kn:=kn) (lo:=lo) (H:=H) hs hl hn (by omega) (bad:=bad) hc
 refine Zr (vs:=[.slice sa n cap,.func (.func F) #[] gc]) rfl (Zk fH1) ?_
 have mH1:=kH1.1
 have hk:=hk.trans kH1
 refine WO (a:=x) (b:=0) rfl rfl<|Za rfl<|Zb ?_
 exact And.intro trivial (Exists.intro _ (And.intro rfl ⟨_,rfl,hx,hk⟩))
theorem ZbW {e:Bd} {G:FuncId} {gc:Array Value} {cc:Nat} {b:Bool} (r1:Rd H cc [.func (.func G) #[] gc]) (hg:∀ H1,Zf H H1 []→∃ H2,ZL Try.prog kn lo (.fn (.func G) gc) [.agg (Bd.f e).toArray] H1 (.bool b) H2∧Zf H1 H2 []):∃ H',FnX Try.prog kn lo 93 [.agg (Bd.f e).toArray,.pointer (some ⟨cc,0,none⟩)] H (.bool (!b)) H'∧Zf H H' []:=by
 have key:=Zs (kn:=kn) (lo:=lo) (H:=H) (args:=[.agg (Bd.f e).toArray,.pointer (some ⟨cc,0,none⟩)]) (Q:=fun w H'=>w=.bool (!b)∧Zf H H' []) Try.func93 B93 N93 Z93 L93 (by simp) ?_
 ·obtain ⟨w,H',h,rfl,q⟩:=key;exact ⟨H',h,q⟩
 have hk:=Zf.refl H []
 refine Zd<|Yc (v:=.agg (Bd.f e).toArray) rfl ?_
 intro H1 kH1 nH1 c1
 have c1:Cl H1 H.next [iv e.x,iv e.y,iv e.h,iv e.m]:=c1
 have mH1:=kH1.1
 have hk:=hk.trans kH1
 have r1:=kH1.rd r1 (by simp)
 refine Za rfl<|Zb<|Zd<|ZG (b:=cc) (o:=0) (v:=.func (.func G) #[] gc) rfl r1 rfl<|Yo (b:=H.next) (o:=0) rfl c1.rd (show row 4 _ _=some [iv e.x,iv e.y,iv e.h,iv e.m] from rfl) ?_
 obtain ⟨H2,fH2,kH2⟩:=hg H1 hk
 refine Zr (v:=.bool b) (vs:=[.agg (Bd.f e).toArray]) rfl fH2 ?_
 have mH2:=kH2.1
 have hk:=hk.trans kH2
 have r1:=kH2.rd r1 (by simp)
 have c1:=kH2.cl c1 (by simp)
 refine Zg (v:=.bool (!b)) rfl rfl<|Za rfl<|Zb ?_
 exact And.intro trivial (Exists.intro _ (And.intro rfl ⟨rfl,hk⟩))
theorem Zb8 {l:List Bd} {sa:Option Addr} {n cap:Nat} (hs:Sl H sa n cap (bdc l)) (hl:l.length=n) (hn:n≤1000000) (hlo:lo≤H.next) {F:FuncId} {gc:Array Value} {ok:Nat→Bool} (hc:∀ i,i < n→∀ H1,Zf H H1 []→∃ H2,ZL Try.prog kn lo (.fn (.func F) gc) [.agg (Bd.f (l.getD i Bd.z)).toArray] H1 (.bool (ok i)) H2∧Zf H1 H2 []):∃ H',FnX Try.prog kn lo 67 [.slice sa n cap,.func (.func F) #[] gc] H (.bool ((List.range n).all ok)) H'∧Zf H H' []:=by
 have key:=Zs (kn:=kn) (lo:=lo) (H:=H) (args:=[.slice sa n cap,.func (.func F) #[] gc]) (Q:=fun w H'=>w=.bool ((List.range n).all ok)∧Zf H H' []) Try.func67 B67 N67 Z67 L67 (by simp) ?_
 ·obtain ⟨w,H',h,rfl,q⟩:=key;exact ⟨H',h,q⟩
 have hk:=Zf.refl H []
 refine Zd<|Yc (v:=.func (.func F) #[] gc) rfl ?_
 intro H1 kH1 nH1 c1
 have c1:Cl H1 H.next [.func (.func F) #[] gc]:=c1
 have mH1:=kH1.1
 have hk:=hk.trans kH1
 refine Za rfl<|Zb<|Zd<|Za rfl<|Zg (v:=.func (.func 93) #[] #[pt H.next]) rfl (by kernel_rfl) ?_
 obtain ⟨x,H2,fH2,hx,kH2⟩:=ZbL (kn:=kn) (lo:=lo) (H:=H1) (hk.sl0 hs) hl hn (by omega) (F:=93) (gc:=#[.pointer (some ⟨H.next,0,none⟩)]) (bad:=fun i=>!(ok i)) (fun i hi H9 k9=>by
  obtain ⟨H8,f8,k8⟩:=ZbW (kn:=kn) (lo:=lo) (H:=H9) (e:=l.getD i Bd.z) (b:=ok i) (k9.rd c1.rd (by simp)) (fun H7 k7=>hc i hi H7 (hk.trans (k9.trans k7)))
  exact ⟨H8,ZW rfl (by simpa using f8),k8⟩)
 refine Zr (vs:=[.slice sa n cap,.func (.func 93) #[] #[pt H.next]]) rfl (Zk fH2) ?_
 have mH2:=kH2.1
 have hk:=hk.trans kH2
 have c1:=kH2.cl c1 (by simp)
 refine Zg (v:=.bool (!x)) rfl rfl<|Za rfl<|Zb ?_
 exact And.intro trivial (Exists.intro _ (And.intro rfl ⟨congrArg Value.bool (UY hx),hk⟩))
theorem Zbx {l:List Sd} {sa:Option Addr} {n cap:Nat} (hs:Sl H sa n cap (sdc l)) (hl:l.length=n) (hn:n≤1000000) (hlo:lo≤H.next) {F:FuncId} {gc:Array Value} {bad:Nat→Bool} (hc:∀ i,i < n→∀ H1,Zf H H1 []→∃ H2,ZL Try.prog kn lo (.fn (.func F) gc) [.agg (Sd.f (l.getD i Sd.z)).toArray] H1 (.bool (bad i)) H2∧Zf H1 H2 []):∃ x H',FnX Try.prog kn lo 106 [.slice sa n cap,.func (.func F) #[] gc] H (iv x) H'∧(decide (x ≥ 0)=true↔∃ i,i < n∧bad i=true)∧Zf H H' []:=by
 have key:=Zs (kn:=kn) (lo:=lo) (H:=H) (args:=[.slice sa n cap,.func (.func F) #[] gc]) (Q:=fun w H'=>∃ x,w=iv x∧(decide (x ≥ 0)=true↔∃ i,i < n∧bad i=true)∧Zf H H' []) Try.func106 Ze1 Zef ZfC Zfx (by simp) ?_
 ·obtain ⟨w,H',h,x,rfl,r⟩:=key;exact ⟨x,H',h,r⟩
 have hk:=Zf.refl H []
 refine Zd<|Za rfl<|Zb<|Zd<|Za rfl<|YI (m:=n) rfl<|Za rfl<|Zb ?_
 refine YO (fn:=Try.f106) Zc1 Zef ZcP (fun i:Nat=>[(0,.slice sa n cap),(1,.func (.func F) #[] gc),(7,iv (n:Int)),(8,iv (i:Int))])
  (fun k i H'=>i+k=n∧Zf H H' []∧∀ j,j < i→bad j=false) n 0 ⟨by omega,hk,fun j h=>absurd h (by omega)⟩ ⟨rfl,rfl,rfl,rfl,trivial⟩ ?_
 rintro k i L1 ⟨hik,hk,hall⟩
 have mk:=hk.1
 refine Zd<|YY (a:=(i:Int)) (b:=(n:Int)) rfl rfl<|Zb ?_
 refine And.intro (fun q1=>?_) (fun q1=>?_)
 ·have q1:(i:Int) < (n:Int):=of_decide_eq_true q1
  have hi:i < n:=by omega
  have ss0:=hk.sl0 hs
  rcases id ss0 with ⟨_,h0s,_⟩ | ⟨sb,es,rs,_⟩
  ·omega
  have ls:=rs.1
  have fs:=hs.old
  first | refine ZE ?_ | skip
  refine Zd<|Za rfl<|Za rfl<|Zb<|Zd<|Za rfl<|Za rfl<|Za rfl<|Xz (b:=sb) (o:=0) (k:=i) (j:=(i:Int)) (by rw [← es];rfl) rfl rfl hi<|Yo (b:=sb) (o:=0+i * 4) rfl rs (zV (by omega)) ?_
  obtain ⟨H1,fH1,kH1⟩:=hc i hi L1 hk
  have mH1:=kH1.1
  have hk:=hk.trans kH1
  have rs:=kH1.rd rs (by simp)
  cases hb:bad i
  ·rw [hb] at fH1
   refine Zr (v:=.bool false) (vs:=[.agg (Sd.f (l.getD i Sd.z)).toArray]) rfl fH1<|Zb<|YE ?_
   first | refine ZE ?_ | skip
   show Zw _ _ _ _ _ _ _ _
   refine YK (a:=(i:Int)) (b:=1) rfl rfl ⟨by omega,by omega⟩<|Za rfl<|Zb ?_
   exact ⟨k - 1,i+1,by omega,⟨by omega,hk,fun j hj=>by rcases Nat.lt_or_ge j i with c | c;exact hall j c;rw [show j=i by omega];exact hb⟩,rfl,rfl,rfl,rfl,trivial⟩
  ·rw [hb] at fH1
   refine Zr (v:=.bool true) (vs:=[.agg (Sd.f (l.getD i Sd.z)).toArray]) rfl fH1<|Zb<|YC<|Zd<|Za rfl<|Za rfl<|Zb ?_
   exact And.intro trivial (Exists.intro _ (And.intro rfl ⟨(i:Int),rfl,⟨fun _=>⟨i,hi,hb⟩,fun _=>decide_eq_true (by omega)⟩,hk⟩))
 ·have q1:¬ ((i:Int) < (n:Int)):=of_decide_eq_false q1
  refine Zd<|Za rfl<|Zb ?_
  exact And.intro trivial (Exists.intro _ (And.intro rfl ⟨-1,rfl,⟨fun h=>absurd (of_decide_eq_true h) (by omega),fun ⟨j,hj,q⟩=>by rw [hall j (by omega)] at q;cases q⟩,hk⟩))
theorem Zbn {l:List Sd} {sa:Option Addr} {n cap:Nat} (hs:Sl H sa n cap (sdc l)) (hl:l.length=n) (hn:n≤1000000) (hlo:lo≤H.next) {F:FuncId} {gc:Array Value} {bad:Nat→Bool} (hc:∀ i,i < n→∀ H1,Zf H H1 []→∃ H2,ZL Try.prog kn lo (.fn (.func F) gc) [.agg (Sd.f (l.getD i Sd.z)).toArray] H1 (.bool (bad i)) H2∧Zf H1 H2 []):∃ b H',FnX Try.prog kn lo 94 [.slice sa n cap,.func (.func F) #[] gc] H (.bool b) H'∧(b=true↔∃ i,i < n∧bad i=true)∧Zf H H' []:=by
 have key:=Zs (kn:=kn) (lo:=lo) (H:=H) (args:=[.slice sa n cap,.func (.func F) #[] gc]) (Q:=fun w H'=>∃ b,w=.bool b∧(b=true↔∃ i,i < n∧bad i=true)∧Zf H H' []) Try.func94 B94 N94 Z94 L94 (by simp) ?_
 ·obtain ⟨w,H',h,x,rfl,r⟩:=key;exact ⟨x,H',h,r⟩
 have hk:=Zf.refl H []
 refine Zd<|Za rfl<|Zb<|Zd<|Za rfl<|Za rfl ?_
 obtain ⟨x,H1,fH1,hx,kH1⟩:=Zbx (kn:=kn) (lo:=lo) (H:=H) hs hl hn (by omega) (bad:=bad) hc
 refine Zr (vs:=[.slice sa n cap,.func (.func F) #[] gc]) rfl (Zk fH1) ?_
 have mH1:=kH1.1
 have hk:=hk.trans kH1
 refine WO (a:=x) (b:=0) rfl rfl<|Za rfl<|Zb ?_
 exact And.intro trivial (Exists.intro _ (And.intro rfl ⟨_,rfl,hx,hk⟩))
theorem Zce {e:Sd} {G:FuncId} {gc:Array Value} {cc:Nat} {b:Bool} (r1:Rd H cc [.func (.func G) #[] gc]) (hg:∀ H1,Zf H H1 []→∃ H2,ZL Try.prog kn lo (.fn (.func G) gc) [.agg (Sd.f e).toArray] H1 (.bool b) H2∧Zf H1 H2 []):∃ H',FnX Try.prog kn lo 95 [.agg (Sd.f e).toArray,.pointer (some ⟨cc,0,none⟩)] H (.bool (!b)) H'∧Zf H H' []:=by
 have key:=Zs (kn:=kn) (lo:=lo) (H:=H) (args:=[.agg (Sd.f e).toArray,.pointer (some ⟨cc,0,none⟩)]) (Q:=fun w H'=>w=.bool (!b)∧Zf H H' []) Try.func95 B95 N95 Z95 L95 (by simp) ?_
 ·obtain ⟨w,H',h,rfl,q⟩:=key;exact ⟨H',h,q⟩
 have hk:=Zf.refl H []
 refine Zd<|Yc (v:=.agg (Sd.f e).toArray) rfl ?_
 intro H1 kH1 nH1 c1
 have c1:Cl H1 H.next [iv e.x,iv e.y,iv e.u,iv e.t]:=c1
 have mH1:=kH1.1
 have hk:=hk.trans kH1
 have r1:=kH1.rd r1 (by simp)
 refine Za rfl<|Zb<|Zd<|ZG (b:=cc) (o:=0) (v:=.func (.func G) #[] gc) rfl r1 rfl<|Yo (b:=H.next) (o:=0) rfl c1.rd (show row 4 _ _=some [iv e.x,iv e.y,iv e.u,iv e.t] from rfl) ?_
 obtain ⟨H2,fH2,kH2⟩:=hg H1 hk
 refine Zr (v:=.bool b) (vs:=[.agg (Sd.f e).toArray]) rfl fH2 ?_
 have mH2:=kH2.1
 have hk:=hk.trans kH2
 have r1:=kH2.rd r1 (by simp)
 have c1:=kH2.cl c1 (by simp)
 refine Zg (v:=.bool (!b)) rfl rfl<|Za rfl<|Zb ?_
 exact And.intro trivial (Exists.intro _ (And.intro rfl ⟨rfl,hk⟩))
theorem ZbU {l:List Sd} {sa:Option Addr} {n cap:Nat} (hs:Sl H sa n cap (sdc l)) (hl:l.length=n) (hn:n≤1000000) (hlo:lo≤H.next) {F:FuncId} {gc:Array Value} {ok:Nat→Bool} (hc:∀ i,i < n→∀ H1,Zf H H1 []→∃ H2,ZL Try.prog kn lo (.fn (.func F) gc) [.agg (Sd.f (l.getD i Sd.z)).toArray] H1 (.bool (ok i)) H2∧Zf H1 H2 []):∃ H',FnX Try.prog kn lo 69 [.slice sa n cap,.func (.func F) #[] gc] H (.bool ((List.range n).all ok)) H'∧Zf H H' []:=by
 have key:=Zs (kn:=kn) (lo:=lo) (H:=H) (args:=[.slice sa n cap,.func (.func F) #[] gc]) (Q:=fun w H'=>w=.bool ((List.range n).all ok)∧Zf H H' []) Try.func69 B69 N69 Z69 L69 (by simp) ?_
 ·obtain ⟨w,H',h,rfl,q⟩:=key;exact ⟨H',h,q⟩
 have hk:=Zf.refl H []
 refine Zd<|Yc (v:=.func (.func F) #[] gc) rfl ?_
 intro H1 kH1 nH1 c1
 have c1:Cl H1 H.next [.func (.func F) #[] gc]:=c1
 have mH1:=kH1.1
 have hk:=hk.trans kH1
 refine Za rfl<|Zb<|Zd<|Za rfl<|Zg (v:=.func (.func 95) #[] #[pt H.next]) rfl (by kernel_rfl) ?_
 obtain ⟨x,H2,fH2,hx,kH2⟩:=Zbn (kn:=kn) (lo:=lo) (H:=H1) (hk.sl0 hs) hl hn (by omega) (F:=95) (gc:=#[.pointer (some ⟨H.next,0,none⟩)]) (bad:=fun i=>!(ok i)) (fun i hi H9 k9=>by
  obtain ⟨H8,f8,k8⟩:=Zce (kn:=kn) (lo:=lo) (H:=H9) (e:=l.getD i Sd.z) (b:=ok i) (k9.rd c1.rd (by simp)) (fun H7 k7=>hc i hi H7 (hk.trans (k9.trans k7)))
  exact ⟨H8,ZW rfl (by simpa using f8),k8⟩)
 refine Zr (vs:=[.slice sa n cap,.func (.func 95) #[] #[pt H.next]]) rfl (Zk fH2) ?_
 have mH2:=kH2.1
 have hk:=hk.trans kH2
 have c1:=kH2.cl c1 (by simp)
 refine Zg (v:=.bool (!x)) rfl rfl<|Za rfl<|Zb ?_
 exact And.intro trivial (Exists.intro _ (And.intro rfl ⟨congrArg Value.bool (UY hx),hk⟩))
theorem Zb6 {l:List Jb} {sa:Option Addr} {n cap:Nat} (hs:Sl H sa n cap (jbc l)) (hl:l.length=n) (hn:n≤1000000) (hlo:lo≤H.next) {F:FuncId} {gc:Array Value} {bad:Nat→Bool} (hc:∀ i,i < n→∀ H1,Zf H H1 []→∃ H2,ZL Try.prog kn lo (.fn (.func F) gc) [.agg (Jb.f (l.getD i Jb.z)).toArray] H1 (.bool (bad i)) H2∧Zf H1 H2 []):∃ x H',FnX Try.prog kn lo 107 [.slice sa n cap,.func (.func F) #[] gc] H (iv x) H'∧(decide (x ≥ 0)=true↔∃ i,i < n∧bad i=true)∧Zf H H' []:=by
 have key:=Zs (kn:=kn) (lo:=lo) (H:=H) (args:=[.slice sa n cap,.func (.func F) #[] gc]) (Q:=fun w H'=>∃ x,w=iv x∧(decide (x ≥ 0)=true↔∃ i,i < n∧bad i=true)∧Zf H H' []) Try.func107 Zfa Zev ZfA ZeV (by simp) ?_
 ·obtain ⟨w,H',h,x,rfl,r⟩:=key;exact ⟨x,H',h,r⟩
 have hk:=Zf.refl H []
 refine Zd<|Za rfl<|Zb<|Zd<|Za rfl<|YI (m:=n) rfl<|Za rfl<|Zb ?_
 refine YO (fn:=Try.f107) Zcy Zev Zds (fun i:Nat=>[(0,.slice sa n cap),(1,.func (.func F) #[] gc),(7,iv (n:Int)),(8,iv (i:Int))])
  (fun k i H'=>i+k=n∧Zf H H' []∧∀ j,j < i→bad j=false) n 0 ⟨by omega,hk,fun j h=>absurd h (by omega)⟩ ⟨rfl,rfl,rfl,rfl,trivial⟩ ?_
 rintro k i L1 ⟨hik,hk,hall⟩
 have mk:=hk.1
 refine Zd<|YY (a:=(i:Int)) (b:=(n:Int)) rfl rfl<|Zb ?_
 refine And.intro (fun q1=>?_) (fun q1=>?_)
 ·have q1:(i:Int) < (n:Int):=of_decide_eq_true q1
  have hi:i < n:=by omega
  have ss0:=hk.sl0 hs
  rcases id ss0 with ⟨_,h0s,_⟩ | ⟨sb,es,rs,_⟩
  ·omega
  have ls:=rs.1
  have fs:=hs.old
  first | refine ZE ?_ | skip
  refine Zd<|Za rfl<|Za rfl<|Zb<|Zd<|Za rfl<|Za rfl<|Za rfl<|Xz (b:=sb) (o:=0) (k:=i) (j:=(i:Int)) (by rw [← es];rfl) rfl rfl hi<|Yo (b:=sb) (o:=0+i * 4) rfl rs (VD (by omega)) ?_
  obtain ⟨H1,fH1,kH1⟩:=hc i hi L1 hk
  have mH1:=kH1.1
  have hk:=hk.trans kH1
  have rs:=kH1.rd rs (by simp)
  cases hb:bad i
  ·rw [hb] at fH1
   refine Zr (v:=.bool false) (vs:=[.agg (Jb.f (l.getD i Jb.z)).toArray]) rfl fH1<|Zb<|YE ?_
   first | refine ZE ?_ | skip
   show Zw _ _ _ _ _ _ _ _
   refine YK (a:=(i:Int)) (b:=1) rfl rfl ⟨by omega,by omega⟩<|Za rfl<|Zb ?_
   exact ⟨k - 1,i+1,by omega,⟨by omega,hk,fun j hj=>by rcases Nat.lt_or_ge j i with c | c;exact hall j c;rw [show j=i by omega];exact hb⟩,rfl,rfl,rfl,rfl,trivial⟩
  ·rw [hb] at fH1
   refine Zr (v:=.bool true) (vs:=[.agg (Jb.f (l.getD i Jb.z)).toArray]) rfl fH1<|Zb<|YC<|Zd<|Za rfl<|Za rfl<|Zb ?_
   exact And.intro trivial (Exists.intro _ (And.intro rfl ⟨(i:Int),rfl,⟨fun _=>⟨i,hi,hb⟩,fun _=>decide_eq_true (by omega)⟩,hk⟩))
 ·have q1:¬ ((i:Int) < (n:Int)):=of_decide_eq_false q1
  refine Zd<|Za rfl<|Zb ?_
  exact And.intro trivial (Exists.intro _ (And.intro rfl ⟨-1,rfl,⟨fun h=>absurd (of_decide_eq_true h) (by omega),fun ⟨j,hj,q⟩=>by rw [hall j (by omega)] at q;cases q⟩,hk⟩))
theorem Zbi {l:List Jb} {sa:Option Addr} {n cap:Nat} (hs:Sl H sa n cap (jbc l)) (hl:l.length=n) (hn:n≤1000000) (hlo:lo≤H.next) {F:FuncId} {gc:Array Value} {bad:Nat→Bool} (hc:∀ i,i < n→∀ H1,Zf H H1 []→∃ H2,ZL Try.prog kn lo (.fn (.func F) gc) [.agg (Jb.f (l.getD i Jb.z)).toArray] H1 (.bool (bad i)) H2∧Zf H1 H2 []):∃ b H',FnX Try.prog kn lo 96 [.slice sa n cap,.func (.func F) #[] gc] H (.bool b) H'∧(b=true↔∃ i,i < n∧bad i=true)∧Zf H H' []:=by
 have key:=Zs (kn:=kn) (lo:=lo) (H:=H) (args:=[.slice sa n cap,.func (.func F) #[] gc]) (Q:=fun w H'=>∃ b,w=.bool b∧(b=true↔∃ i,i < n∧bad i=true)∧Zf H H' []) Try.func96 B96 N96 Z96 L96 (by simp) ?_
 ·obtain ⟨w,H',h,x,rfl,r⟩:=key;exact ⟨x,H',h,r⟩
 have hk:=Zf.refl H []
 refine Zd<|Za rfl<|Zb<|Zd<|Za rfl<|Za rfl ?_
 obtain ⟨x,H1,fH1,hx,kH1⟩:=Zb6 (kn:=kn) (lo:=lo) (H:=H) hs hl hn (by omega) (bad:=bad) hc
 refine Zr (vs:=[.slice sa n cap,.func (.func F) #[] gc]) rfl (Zk fH1) ?_
 have mH1:=kH1.1
 have hk:=hk.trans kH1
 refine WO (a:=x) (b:=0) rfl rfl<|Za rfl<|Zb ?_
 exact And.intro trivial (Exists.intro _ (And.intro rfl ⟨_,rfl,hx,hk⟩))
theorem Zbw {e:Jb} {G:FuncId} {gc:Array Value} {cc:Nat} {b:Bool} (r1:Rd H cc [.func (.func G) #[] gc]) (hg:∀ H1,Zf H H1 []→∃ H2,ZL Try.prog kn lo (.fn (.func G) gc) [.agg (Jb.f e).toArray] H1 (.bool b) H2∧Zf H1 H2 []):∃ H',FnX Try.prog kn lo 97 [.agg (Jb.f e).toArray,.pointer (some ⟨cc,0,none⟩)] H (.bool (!b)) H'∧Zf H H' []:=by
 have key:=Zs (kn:=kn) (lo:=lo) (H:=H) (args:=[.agg (Jb.f e).toArray,.pointer (some ⟨cc,0,none⟩)]) (Q:=fun w H'=>w=.bool (!b)∧Zf H H' []) Try.func97 B97 N97 Z97 L97 (by simp) ?_
 ·obtain ⟨w,H',h,rfl,q⟩:=key;exact ⟨H',h,q⟩
 have hk:=Zf.refl H []
 refine Zd<|Yc (v:=.agg (Jb.f e).toArray) rfl ?_
 intro H1 kH1 nH1 c1
 have c1:Cl H1 H.next [iv e.b,iv e.p,iv e.u,iv e.t]:=c1
 have mH1:=kH1.1
 have hk:=hk.trans kH1
 have r1:=kH1.rd r1 (by simp)
 refine Za rfl<|Zb<|Zd<|ZG (b:=cc) (o:=0) (v:=.func (.func G) #[] gc) rfl r1 rfl<|Yo (b:=H.next) (o:=0) rfl c1.rd (show row 4 _ _=some [iv e.b,iv e.p,iv e.u,iv e.t] from rfl) ?_
 obtain ⟨H2,fH2,kH2⟩:=hg H1 hk
 refine Zr (v:=.bool b) (vs:=[.agg (Jb.f e).toArray]) rfl fH2 ?_
 have mH2:=kH2.1
 have hk:=hk.trans kH2
 have r1:=kH2.rd r1 (by simp)
 have c1:=kH2.cl c1 (by simp)
 refine Zg (v:=.bool (!b)) rfl rfl<|Za rfl<|Zb ?_
 exact And.intro trivial (Exists.intro _ (And.intro rfl ⟨rfl,hk⟩))
theorem ZbY {l:List Jb} {sa:Option Addr} {n cap:Nat} (hs:Sl H sa n cap (jbc l)) (hl:l.length=n) (hn:n≤1000000) (hlo:lo≤H.next) {F:FuncId} {gc:Array Value} {ok:Nat→Bool} (hc:∀ i,i < n→∀ H1,Zf H H1 []→∃ H2,ZL Try.prog kn lo (.fn (.func F) gc) [.agg (Jb.f (l.getD i Jb.z)).toArray] H1 (.bool (ok i)) H2∧Zf H1 H2 []):∃ H',FnX Try.prog kn lo 71 [.slice sa n cap,.func (.func F) #[] gc] H (.bool ((List.range n).all ok)) H'∧Zf H H' []:=by
 have key:=Zs (kn:=kn) (lo:=lo) (H:=H) (args:=[.slice sa n cap,.func (.func F) #[] gc]) (Q:=fun w H'=>w=.bool ((List.range n).all ok)∧Zf H H' []) Try.func71 B71 N71 Z71 L71 (by simp) ?_
 ·obtain ⟨w,H',h,rfl,q⟩:=key;exact ⟨H',h,q⟩
 have hk:=Zf.refl H []
 refine Zd<|Yc (v:=.func (.func F) #[] gc) rfl ?_
 intro H1 kH1 nH1 c1
 have c1:Cl H1 H.next [.func (.func F) #[] gc]:=c1
 have mH1:=kH1.1
 have hk:=hk.trans kH1
 refine Za rfl<|Zb<|Zd<|Za rfl<|Zg (v:=.func (.func 97) #[] #[pt H.next]) rfl (by kernel_rfl) ?_
 obtain ⟨x,H2,fH2,hx,kH2⟩:=Zbi (kn:=kn) (lo:=lo) (H:=H1) (hk.sl0 hs) hl hn (by omega) (F:=97) (gc:=#[.pointer (some ⟨H.next,0,none⟩)]) (bad:=fun i=>!(ok i)) (fun i hi H9 k9=>by
  obtain ⟨H8,f8,k8⟩:=Zbw (kn:=kn) (lo:=lo) (H:=H9) (e:=l.getD i Jb.z) (b:=ok i) (k9.rd c1.rd (by simp)) (fun H7 k7=>hc i hi H7 (hk.trans (k9.trans k7)))
  exact ⟨H8,ZW rfl (by simpa using f8),k8⟩)
 refine Zr (vs:=[.slice sa n cap,.func (.func 97) #[] #[pt H.next]]) rfl (Zk fH2) ?_
 have mH2:=kH2.1
 have hk:=hk.trans kH2
 have c1:=kH2.cl c1 (by simp)
 refine Zg (v:=.bool (!x)) rfl rfl<|Za rfl<|Zb ?_
 exact And.intro trivial (Exists.intro _ (And.intro rfl ⟨congrArg Value.bool (UY hx),hk⟩))
theorem ZbD {l:List Tp} {sa:Option Addr} {n cap:Nat} (hs:Sl H sa n cap (tpc l)) (hl:l.length=n) (hn:n≤1000000) (hlo:lo≤H.next) {F:FuncId} {gc:Array Value} {bad:Nat→Bool} (hc:∀ i,i < n→∀ H1,Zf H H1 []→∃ H2,ZL Try.prog kn lo (.fn (.func F) gc) [.agg (Tp.f (l.getD i Tp.z)).toArray] H1 (.bool (bad i)) H2∧Zf H1 H2 []):∃ x H',FnX Try.prog kn lo 103 [.slice sa n cap,.func (.func F) #[] gc] H (iv x) H'∧(decide (x ≥ 0)=true↔∃ i,i < n∧bad i=true)∧Zf H H' []:=by
 have key:=Zs (kn:=kn) (lo:=lo) (H:=H) (args:=[.slice sa n cap,.func (.func F) #[] gc]) (Q:=fun w H'=>∃ x,w=iv x∧(decide (x ≥ 0)=true↔∃ i,i < n∧bad i=true)∧Zf H H' []) Try.func103 ZeQ ZdY Ze6 ZeY (by simp) ?_
 ·obtain ⟨w,H',h,x,rfl,r⟩:=key;exact ⟨x,H',h,r⟩
 have hk:=Zf.refl H []
 refine Zd<|Za rfl<|Zb<|Zd<|Za rfl<|YI (m:=n) rfl<|Za rfl<|Zb ?_
 refine YO (fn:=Try.f103) ZcY ZdY Zdh (fun i:Nat=>[(0,.slice sa n cap),(1,.func (.func F) #[] gc),(7,iv (n:Int)),(8,iv (i:Int))])
  (fun k i H'=>i+k=n∧Zf H H' []∧∀ j,j < i→bad j=false) n 0 ⟨by omega,hk,fun j h=>absurd h (by omega)⟩ ⟨rfl,rfl,rfl,rfl,trivial⟩ ?_
 rintro k i L1 ⟨hik,hk,hall⟩
 have mk:=hk.1
 refine Zd<|YY (a:=(i:Int)) (b:=(n:Int)) rfl rfl<|Zb ?_
 refine And.intro (fun q1=>?_) (fun q1=>?_)
 ·have q1:(i:Int) < (n:Int):=of_decide_eq_true q1
  have hi:i < n:=by omega
  have ss0:=hk.sl0 hs
  rcases id ss0 with ⟨_,h0s,_⟩ | ⟨sb,es,rs,_⟩
  ·omega
  have ls:=rs.1
  have fs:=hs.old
  first | refine ZE ?_ | skip
  refine Zd<|Za rfl<|Za rfl<|Zb<|Zd<|Za rfl<|Za rfl<|Za rfl<|Xz (b:=sb) (o:=0) (k:=i) (j:=(i:Int)) (by rw [← es];rfl) rfl rfl hi<|Yo (b:=sb) (o:=0+i * 3) rfl rs (Uk (by omega)) ?_
  obtain ⟨H1,fH1,kH1⟩:=hc i hi L1 hk
  have mH1:=kH1.1
  have hk:=hk.trans kH1
  have rs:=kH1.rd rs (by simp)
  cases hb:bad i
  ·rw [hb] at fH1
   refine Zr (v:=.bool false) (vs:=[.agg (Tp.f (l.getD i Tp.z)).toArray]) rfl fH1<|Zb<|YE ?_
   first | refine ZE ?_ | skip
   show Zw _ _ _ _ _ _ _ _
   refine YK (a:=(i:Int)) (b:=1) rfl rfl ⟨by omega,by omega⟩<|Za rfl<|Zb ?_
   exact ⟨k - 1,i+1,by omega,⟨by omega,hk,fun j hj=>by rcases Nat.lt_or_ge j i with c | c;exact hall j c;rw [show j=i by omega];exact hb⟩,rfl,rfl,rfl,rfl,trivial⟩
  ·rw [hb] at fH1
   refine Zr (v:=.bool true) (vs:=[.agg (Tp.f (l.getD i Tp.z)).toArray]) rfl fH1<|Zb<|YC<|Zd<|Za rfl<|Za rfl<|Zb ?_
   exact And.intro trivial (Exists.intro _ (And.intro rfl ⟨(i:Int),rfl,⟨fun _=>⟨i,hi,hb⟩,fun _=>decide_eq_true (by omega)⟩,hk⟩))
 ·have q1:¬ ((i:Int) < (n:Int)):=of_decide_eq_false q1
  refine Zd<|Za rfl<|Zb ?_
  exact And.intro trivial (Exists.intro _ (And.intro rfl ⟨-1,rfl,⟨fun h=>absurd (of_decide_eq_true h) (by omega),fun ⟨j,hj,q⟩=>by rw [hall j (by omega)] at q;cases q⟩,hk⟩))
theorem Zbs {l:List Tp} {sa:Option Addr} {n cap:Nat} (hs:Sl H sa n cap (tpc l)) (hl:l.length=n) (hn:n≤1000000) (hlo:lo≤H.next) {F:FuncId} {gc:Array Value} {bad:Nat→Bool} (hc:∀ i,i < n→∀ H1,Zf H H1 []→∃ H2,ZL Try.prog kn lo (.fn (.func F) gc) [.agg (Tp.f (l.getD i Tp.z)).toArray] H1 (.bool (bad i)) H2∧Zf H1 H2 []):∃ b H',FnX Try.prog kn lo 86 [.slice sa n cap,.func (.func F) #[] gc] H (.bool b) H'∧(b=true↔∃ i,i < n∧bad i=true)∧Zf H H' []:=by
 have key:=Zs (kn:=kn) (lo:=lo) (H:=H) (args:=[.slice sa n cap,.func (.func F) #[] gc]) (Q:=fun w H'=>∃ b,w=.bool b∧(b=true↔∃ i,i < n∧bad i=true)∧Zf H H' []) Try.func86 B86 N86 Z86 L86 (by simp) ?_
 ·obtain ⟨w,H',h,x,rfl,r⟩:=key;exact ⟨x,H',h,r⟩
 have hk:=Zf.refl H []
 refine Zd<|Za rfl<|Zb<|Zd<|Za rfl<|Za rfl ?_
 obtain ⟨x,H1,fH1,hx,kH1⟩:=ZbD (kn:=kn) (lo:=lo) (H:=H) hs hl hn (by omega) (bad:=bad) hc
 refine Zr (vs:=[.slice sa n cap,.func (.func F) #[] gc]) rfl (Zk fH1) ?_
 have mH1:=kH1.1
 have hk:=hk.trans kH1
 refine WO (a:=x) (b:=0) rfl rfl<|Za rfl<|Zb ?_
 exact And.intro trivial (Exists.intro _ (And.intro rfl ⟨_,rfl,hx,hk⟩))
theorem Zbq {e:Tp} {G:FuncId} {gc:Array Value} {cc:Nat} {b:Bool} (r1:Rd H cc [.func (.func G) #[] gc]) (hg:∀ H1,Zf H H1 []→∃ H2,ZL Try.prog kn lo (.fn (.func G) gc) [.agg (Tp.f e).toArray] H1 (.bool b) H2∧Zf H1 H2 []):∃ H',FnX Try.prog kn lo 87 [.agg (Tp.f e).toArray,.pointer (some ⟨cc,0,none⟩)] H (.bool (!b)) H'∧Zf H H' []:=by
 have key:=Zs (kn:=kn) (lo:=lo) (H:=H) (args:=[.agg (Tp.f e).toArray,.pointer (some ⟨cc,0,none⟩)]) (Q:=fun w H'=>w=.bool (!b)∧Zf H H' []) Try.func87 B87 N87 Z87 L87 (by simp) ?_
 ·obtain ⟨w,H',h,rfl,q⟩:=key;exact ⟨H',h,q⟩
 have hk:=Zf.refl H []
 refine Zd<|Yc (v:=.agg (Tp.f e).toArray) rfl ?_
 intro H1 kH1 nH1 c1
 have c1:Cl H1 H.next [iv e.c,iv e.l,iv e.h]:=c1
 have mH1:=kH1.1
 have hk:=hk.trans kH1
 have r1:=kH1.rd r1 (by simp)
 refine Za rfl<|Zb<|Zd<|ZG (b:=cc) (o:=0) (v:=.func (.func G) #[] gc) rfl r1 rfl<|Yo (b:=H.next) (o:=0) rfl c1.rd (show row 3 _ _=some [iv e.c,iv e.l,iv e.h] from rfl) ?_
 obtain ⟨H2,fH2,kH2⟩:=hg H1 hk
 refine Zr (v:=.bool b) (vs:=[.agg (Tp.f e).toArray]) rfl fH2 ?_
 have mH2:=kH2.1
 have hk:=hk.trans kH2
 have r1:=kH2.rd r1 (by simp)
 have c1:=kH2.cl c1 (by simp)
 refine Zg (v:=.bool (!b)) rfl rfl<|Za rfl<|Zb ?_
 exact And.intro trivial (Exists.intro _ (And.intro rfl ⟨rfl,hk⟩))
theorem Zb3 {l:List Tp} {sa:Option Addr} {n cap:Nat} (hs:Sl H sa n cap (tpc l)) (hl:l.length=n) (hn:n≤1000000) (hlo:lo≤H.next) {F:FuncId} {gc:Array Value} {ok:Nat→Bool} (hc:∀ i,i < n→∀ H1,Zf H H1 []→∃ H2,ZL Try.prog kn lo (.fn (.func F) gc) [.agg (Tp.f (l.getD i Tp.z)).toArray] H1 (.bool (ok i)) H2∧Zf H1 H2 []):∃ H',FnX Try.prog kn lo 57 [.slice sa n cap,.func (.func F) #[] gc] H (.bool ((List.range n).all ok)) H'∧Zf H H' []:=by
 have key:=Zs (kn:=kn) (lo:=lo) (H:=H) (args:=[.slice sa n cap,.func (.func F) #[] gc]) (Q:=fun w H'=>w=.bool ((List.range n).all ok)∧Zf H H' []) Try.func57 B57 N57 Z57 L57 (by simp) ?_
 ·obtain ⟨w,H',h,rfl,q⟩:=key;exact ⟨H',h,q⟩
 have hk:=Zf.refl H []
 refine Zd<|Yc (v:=.func (.func F) #[] gc) rfl ?_
 intro H1 kH1 nH1 c1
 have c1:Cl H1 H.next [.func (.func F) #[] gc]:=c1
 have mH1:=kH1.1
 have hk:=hk.trans kH1
 refine Za rfl<|Zb<|Zd<|Za rfl<|Zg (v:=.func (.func 87) #[] #[pt H.next]) rfl (by kernel_rfl) ?_
 obtain ⟨x,H2,fH2,hx,kH2⟩:=Zbs (kn:=kn) (lo:=lo) (H:=H1) (hk.sl0 hs) hl hn (by omega) (F:=87) (gc:=#[.pointer (some ⟨H.next,0,none⟩)]) (bad:=fun i=>!(ok i)) (fun i hi H9 k9=>by
  obtain ⟨H8,f8,k8⟩:=Zbq (kn:=kn) (lo:=lo) (H:=H9) (e:=l.getD i Tp.z) (b:=ok i) (k9.rd c1.rd (by simp)) (fun H7 k7=>hc i hi H7 (hk.trans (k9.trans k7)))
  exact ⟨H8,ZW rfl (by simpa using f8),k8⟩)
 refine Zr (vs:=[.slice sa n cap,.func (.func 87) #[] #[pt H.next]]) rfl (Zk fH2) ?_
 have mH2:=kH2.1
 have hk:=hk.trans kH2
 have c1:=kH2.cl c1 (by simp)
 refine Zg (v:=.bool (!x)) rfl rfl<|Za rfl<|Zb ?_
 exact And.intro trivial (Exists.intro _ (And.intro rfl ⟨congrArg Value.bool (UY hx),hk⟩))
theorem Zcd {ws:Nat→Wa} {ps:List Pd} {sa:Option Addr} {n cap:Nat} (hs:Sl H sa n cap (pdc ws ps)) (hl:ps.length=n) (hn:n≤1000000) (hlo:lo≤H.next) {F:FuncId} {gc:Array Value} {bad:Nat→Bool} (hc:∀ i,i < n→∀ H1,Zf H H1 []→∃ H2,ZL Try.prog kn lo (.fn (.func F) gc) [.agg (Pd.f (ws i) (ps.getD i Pd.z)).toArray] H1 (.bool (bad i)) H2∧Zf H1 H2 []):∃ x H',FnX Try.prog kn lo 104 [.slice sa n cap,.func (.func F) #[] gc] H (iv x) H'∧(decide (x ≥ 0)=true↔∃ i,i < n∧bad i=true)∧Zf H H' []:=by
 have key:=Zs (kn:=kn) (lo:=lo) (H:=H) (args:=[.slice sa n cap,.func (.func F) #[] gc]) (Q:=fun w H'=>∃ x,w=iv x∧(decide (x ≥ 0)=true↔∃ i,i < n∧bad i=true)∧Zf H H' []) Try.func104 ZfD ZdT Zfv ZeX (by simp) ?_
 ·obtain ⟨w,H',h,x,rfl,r⟩:=key;exact ⟨x,H',h,r⟩
 have hk:=Zf.refl H []
 refine Zd<|Za rfl<|Zb<|Zd<|Za rfl<|YI (m:=n) rfl<|Za rfl<|Zb ?_
 refine YO (fn:=Try.f104) ZcJ ZdT Zdf (fun i:Nat=>[(0,.slice sa n cap),(1,.func (.func F) #[] gc),(7,iv (n:Int)),(8,iv (i:Int))])
  (fun k i H'=>i+k=n∧Zf H H' []∧∀ j,j < i→bad j=false) n 0 ⟨by omega,hk,fun j h=>absurd h (by omega)⟩ ⟨rfl,rfl,rfl,rfl,trivial⟩ ?_
 rintro k i L1 ⟨hik,hk,hall⟩
 have mk:=hk.1
 refine Zd<|YY (a:=(i:Int)) (b:=(n:Int)) rfl rfl<|Zb ?_
 refine And.intro (fun q1=>?_) (fun q1=>?_)
 ·have q1:(i:Int) < (n:Int):=of_decide_eq_true q1
  have hi:i < n:=by omega
  have ss0:=hk.sl0 hs
  rcases id ss0 with ⟨_,h0s,_⟩ | ⟨sb,es,rs,_⟩
  ·omega
  have ls:=rs.1
  have fs:=hs.old
  first | refine ZE ?_ | skip
  refine Zd<|Za rfl<|Za rfl<|Zb<|Zd<|Za rfl<|Za rfl<|Za rfl<|Xz (b:=sb) (o:=0) (k:=i) (j:=(i:Int)) (by rw [← es];rfl) rfl rfl hi<|Yo (b:=sb) (o:=0+i * 4) rfl rs (Jk (by omega)) ?_
  obtain ⟨H1,fH1,kH1⟩:=hc i hi L1 hk
  have mH1:=kH1.1
  have hk:=hk.trans kH1
  have rs:=kH1.rd rs (by simp)
  cases hb:bad i
  ·rw [hb] at fH1
   refine Zr (v:=.bool false) (vs:=[.agg (Pd.f (ws i) (ps.getD i Pd.z)).toArray]) rfl fH1<|Zb<|YE ?_
   first | refine ZE ?_ | skip
   show Zw _ _ _ _ _ _ _ _
   refine YK (a:=(i:Int)) (b:=1) rfl rfl ⟨by omega,by omega⟩<|Za rfl<|Zb ?_
   exact ⟨k - 1,i+1,by omega,⟨by omega,hk,fun j hj=>by rcases Nat.lt_or_ge j i with c | c;exact hall j c;rw [show j=i by omega];exact hb⟩,rfl,rfl,rfl,rfl,trivial⟩
  ·rw [hb] at fH1
   refine Zr (v:=.bool true) (vs:=[.agg (Pd.f (ws i) (ps.getD i Pd.z)).toArray]) rfl fH1<|Zb<|YC<|Zd<|Za rfl<|Za rfl<|Zb ?_
   exact And.intro trivial (Exists.intro _ (And.intro rfl ⟨(i:Int),rfl,⟨fun _=>⟨i,hi,hb⟩,fun _=>decide_eq_true (by omega)⟩,hk⟩))
 ·have q1:¬ ((i:Int) < (n:Int)):=of_decide_eq_false q1
  refine Zd<|Za rfl<|Zb ?_
  exact And.intro trivial (Exists.intro _ (And.intro rfl ⟨-1,rfl,⟨fun h=>absurd (of_decide_eq_true h) (by omega),fun ⟨j,hj,q⟩=>by rw [hall j (by omega)] at q;cases q⟩,hk⟩))
theorem ZbG {ws:Nat→Wa} {ps:List Pd} {sa:Option Addr} {n cap:Nat} (hs:Sl H sa n cap (pdc ws ps)) (hl:ps.length=n) (hn:n≤1000000) (hlo:lo≤H.next) {F:FuncId} {gc:Array Value} {bad:Nat→Bool} (hc:∀ i,i < n→∀ H1,Zf H H1 []→∃ H2,ZL Try.prog kn lo (.fn (.func F) gc) [.agg (Pd.f (ws i) (ps.getD i Pd.z)).toArray] H1 (.bool (bad i)) H2∧Zf H1 H2 []):∃ b H',FnX Try.prog kn lo 88 [.slice sa n cap,.func (.func F) #[] gc] H (.bool b) H'∧(b=true↔∃ i,i < n∧bad i=true)∧Zf H H' []:=by
 have key:=Zs (kn:=kn) (lo:=lo) (H:=H) (args:=[.slice sa n cap,.func (.func F) #[] gc]) (Q:=fun w H'=>∃ b,w=.bool b∧(b=true↔∃ i,i < n∧bad i=true)∧Zf H H' []) Try.func88 B88 N88 Z88 L88 (by simp) ?_
 ·obtain ⟨w,H',h,x,rfl,r⟩:=key;exact ⟨x,H',h,r⟩
 have hk:=Zf.refl H []
 refine Zd<|Za rfl<|Zb<|Zd<|Za rfl<|Za rfl ?_
 obtain ⟨x,H1,fH1,hx,kH1⟩:=Zcd (kn:=kn) (lo:=lo) (H:=H) hs hl hn (by omega) (bad:=bad) hc
 refine Zr (vs:=[.slice sa n cap,.func (.func F) #[] gc]) rfl (Zk fH1) ?_
 have mH1:=kH1.1
 have hk:=hk.trans kH1
 refine WO (a:=x) (b:=0) rfl rfl<|Za rfl<|Zb ?_
 exact And.intro trivial (Exists.intro _ (And.intro rfl ⟨_,rfl,hx,hk⟩))
theorem ZbO {e:Pd} {v:Wa} {G:FuncId} {gc:Array Value} {cc:Nat} {b:Bool} (r1:Rd H cc [.func (.func G) #[] gc]) (hg:∀ H1,Zf H H1 []→∃ H2,ZL Try.prog kn lo (.fn (.func G) gc) [.agg (Pd.f v e).toArray] H1 (.bool b) H2∧Zf H1 H2 []):∃ H',FnX Try.prog kn lo 89 [.agg (Pd.f v e).toArray,.pointer (some ⟨cc,0,none⟩)] H (.bool (!b)) H'∧Zf H H' []:=by
 have key:=Zs (kn:=kn) (lo:=lo) (H:=H) (args:=[.agg (Pd.f v e).toArray,.pointer (some ⟨cc,0,none⟩)]) (Q:=fun w H'=>w=.bool (!b)∧Zf H H' []) Try.func89 B89 N89 Z89 L89 (by simp) ?_
 ·obtain ⟨w,H',h,rfl,q⟩:=key;exact ⟨H',h,q⟩
 have hk:=Zf.refl H []
 refine Zd<|Yc (v:=.agg (Pd.f v e).toArray) rfl ?_
 intro H1 kH1 nH1 c1
 have c1:Cl H1 H.next [iv e.re,iv e.st,.slice v.1 e.wt.length v.2,iv e.us]:=c1
 have mH1:=kH1.1
 have hk:=hk.trans kH1
 have r1:=kH1.rd r1 (by simp)
 refine Za rfl<|Zb<|Zd<|ZG (b:=cc) (o:=0) (v:=.func (.func G) #[] gc) rfl r1 rfl<|Yo (b:=H.next) (o:=0) rfl c1.rd (show row 4 _ _=some [iv e.re,iv e.st,.slice v.1 e.wt.length v.2,iv e.us] from rfl) ?_
 obtain ⟨H2,fH2,kH2⟩:=hg H1 hk
 refine Zr (v:=.bool b) (vs:=[.agg (Pd.f v e).toArray]) rfl fH2 ?_
 have mH2:=kH2.1
 have hk:=hk.trans kH2
 have r1:=kH2.rd r1 (by simp)
 have c1:=kH2.cl c1 (by simp)
 refine Zg (v:=.bool (!b)) rfl rfl<|Za rfl<|Zb ?_
 exact And.intro trivial (Exists.intro _ (And.intro rfl ⟨rfl,hk⟩))
theorem ZbS {ws:Nat→Wa} {ps:List Pd} {sa:Option Addr} {n cap:Nat} (hs:Sl H sa n cap (pdc ws ps)) (hl:ps.length=n) (hn:n≤1000000) (hlo:lo≤H.next) {F:FuncId} {gc:Array Value} {ok:Nat→Bool} (hc:∀ i,i < n→∀ H1,Zf H H1 []→∃ H2,ZL Try.prog kn lo (.fn (.func F) gc) [.agg (Pd.f (ws i) (ps.getD i Pd.z)).toArray] H1 (.bool (ok i)) H2∧Zf H1 H2 []):∃ H',FnX Try.prog kn lo 65 [.slice sa n cap,.func (.func F) #[] gc] H (.bool ((List.range n).all ok)) H'∧Zf H H' []:=by
 have key:=Zs (kn:=kn) (lo:=lo) (H:=H) (args:=[.slice sa n cap,.func (.func F) #[] gc]) (Q:=fun w H'=>w=.bool ((List.range n).all ok)∧Zf H H' []) Try.func65 B65 N65 Z65 L65 (by simp) ?_
 ·obtain ⟨w,H',h,rfl,q⟩:=key;exact ⟨H',h,q⟩
 have hk:=Zf.refl H []
 refine Zd<|Yc (v:=.func (.func F) #[] gc) rfl ?_
 intro H1 kH1 nH1 c1
 have c1:Cl H1 H.next [.func (.func F) #[] gc]:=c1
 have mH1:=kH1.1
 have hk:=hk.trans kH1
 refine Za rfl<|Zb<|Zd<|Za rfl<|Zg (v:=.func (.func 89) #[] #[pt H.next]) rfl (by kernel_rfl) ?_
 obtain ⟨x,H2,fH2,hx,kH2⟩:=ZbG (kn:=kn) (lo:=lo) (H:=H1) (hk.sl0 hs) hl hn (by omega) (F:=89) (gc:=#[.pointer (some ⟨H.next,0,none⟩)]) (bad:=fun i=>!(ok i)) (fun i hi H9 k9=>by
  obtain ⟨H8,f8,k8⟩:=ZbO (kn:=kn) (lo:=lo) (H:=H9) (e:=ps.getD i Pd.z) (v:=ws i) (b:=ok i) (k9.rd c1.rd (by simp)) (fun H7 k7=>hc i hi H7 (hk.trans (k9.trans k7)))
  exact ⟨H8,ZW rfl (by simpa using f8),k8⟩)
 refine Zr (vs:=[.slice sa n cap,.func (.func 89) #[] #[pt H.next]]) rfl (Zk fH2) ?_
 have mH2:=kH2.1
 have hk:=hk.trans kH2
 have c1:=kH2.cl c1 (by simp)
 refine Zg (v:=.bool (!x)) rfl rfl<|Za rfl<|Zb ?_
 exact And.intro trivial (Exists.intro _ (And.intro rfl ⟨congrArg Value.bool (UY hx),hk⟩))
theorem ZdE {p:Pd} {w:Wa} (hw:Sl H w.1 p.wt.length w.2 (cI p.wt)) (hlo:lo≤H.next):∃ H',FnX Try.prog kn lo 66 [.agg (Pd.f w p).toArray] H (.bool (vP p)) H'∧Zf H H' []:=by
 have key:=Zs (kn:=kn) (lo:=lo) (H:=H) (args:=[.agg (Pd.f w p).toArray]) (Q:=fun w H'=>w=.bool (vP p)∧Zf H H' []) Try.func66 B66 N66 Z66 L66 (by simp) ?_
 ·obtain ⟨w,H',h,rfl,q⟩:=key;exact ⟨H',h,q⟩
 have hk:=Zf.refl H []
 refine Zd<|Yc (v:=.agg (Pd.f w p).toArray) rfl ?_
 intro H1 kH1 nH1 c1
 have c1:Cl H1 H.next [iv p.re,iv p.st,.slice w.1 p.wt.length w.2,iv p.us]:=c1
 have mH1:=kH1.1
 have hk:=hk.trans kH1
 refine Za rfl<|Zb<|Zd<|Zq (b:=H.next) (o:=0) rfl<|ZG (b:=H.next) (o:=0) (v:=iv p.re) rfl c1.rd rfl<|ZM rfl (UH) ?_
 intro tH2 H2 hH2 kH2
 have mH2:=kH2.1
 have hk:=hk.trans kH2
 have c1:=kH2.cl c1 (by simp)
 cases tH2
 ·have thH2:inB p.re 0 65536=false:=hH2
  have uhH2:=YG thH2
  refine Za rfl<|Zh rfl<|Zh rfl<|Zh rfl<|Zg (v:=.bool false) rfl rfl<|Za rfl<|Zh rfl<|Zh rfl<|Zh rfl<|Zg (v:=.bool false) rfl rfl<|Za rfl<|Zb<|Zd<|Za rfl<|Za rfl<|Zh rfl<|Zh rfl<|Zh rfl<|Zh rfl<|Zg (v:=.bool false) rfl rfl<|Za rfl<|Zh rfl<|Zh rfl<|Zh rfl<|Zg (v:=.bool false) rfl rfl<|Za rfl<|Zb ?_
  exact And.intro trivial (Exists.intro _ (And.intro rfl ⟨congrArg Value.bool (show false=vP p from by symm;rw [← Bool.not_eq_true];simp only [vP,Bool.and_eq_true,decide_eq_true_eq];intro q;obtain ⟨⟨⟨⟨q0,q1⟩,q2⟩,q3⟩,q4⟩:=q;first | omega | (simp_all;done)),hk⟩))
 ·have thH2:inB p.re 0 65536=true:=hH2
  have uhH2:=Yr thH2
  refine Za rfl ?_
  refine ZD rfl (Zq (b:=H.next) (o:=0) rfl ?_)
  refine ZD rfl (ZG (b:=H.next) (o:=1) (v:=iv p.st) rfl c1.rd rfl ?_)
  refine ZD rfl (ZM rfl (XZ) ?_)
  intro tH3 H3 hH3 kH3
  have mH3:=kH3.1
  have hk:=hk.trans kH3
  have c1:=kH3.cl c1 (by simp)
  cases tH3
  ·have thH3:inB p.st 0 30=false:=hH3
   have uhH3:=YG thH3
   refine Zg (v:=.bool false) rfl rfl<|Za rfl<|Zh rfl<|Zh rfl<|Zh rfl<|Zg (v:=.bool false) rfl rfl<|Za rfl<|Zb<|Zd<|Za rfl<|Za rfl<|Zh rfl<|Zh rfl<|Zh rfl<|Zh rfl<|Zg (v:=.bool false) rfl rfl<|Za rfl<|Zh rfl<|Zh rfl<|Zh rfl<|Zg (v:=.bool false) rfl rfl<|Za rfl<|Zb ?_
   exact And.intro trivial (Exists.intro _ (And.intro rfl ⟨congrArg Value.bool (show false=vP p from by symm;rw [← Bool.not_eq_true];simp only [vP,Bool.and_eq_true,decide_eq_true_eq];intro q;obtain ⟨⟨⟨⟨q0,q1⟩,q2⟩,q3⟩,q4⟩:=q;first | omega | (simp_all;done)),hk⟩))
  ·have thH3:inB p.st 0 30=true:=hH3
   have uhH3:=Yr thH3
   refine Zg (v:=.bool true) rfl rfl<|Za rfl ?_
   refine ZD rfl (Zq (b:=H.next) (o:=0) rfl ?_)
   refine ZD rfl (ZG (b:=H.next) (o:=3) (v:=iv p.us) rfl c1.rd rfl ?_)
   refine ZD rfl (ZM rfl (XZ) ?_)
   intro tH4 H4 hH4 kH4
   have mH4:=kH4.1
   have hk:=hk.trans kH4
   have c1:=kH4.cl c1 (by simp)
   cases tH4
   ·have thH4:inB p.us 1 16=false:=hH4
    have uhH4:=YG thH4
    refine Zg (v:=.bool false) rfl rfl<|Za rfl<|Zb<|Zd<|Za rfl<|Za rfl<|Zh rfl<|Zh rfl<|Zh rfl<|Zh rfl<|Zg (v:=.bool false) rfl rfl<|Za rfl<|Zh rfl<|Zh rfl<|Zh rfl<|Zg (v:=.bool false) rfl rfl<|Za rfl<|Zb ?_
    exact And.intro trivial (Exists.intro _ (And.intro rfl ⟨congrArg Value.bool (show false=vP p from by symm;rw [← Bool.not_eq_true];simp only [vP,Bool.and_eq_true,decide_eq_true_eq];intro q;obtain ⟨⟨⟨⟨q0,q1⟩,q2⟩,q3⟩,q4⟩:=q;first | omega | (simp_all;done)),hk⟩))
   ·have thH4:inB p.us 1 16=true:=hH4
    have uhH4:=Yr thH4
    refine Zg (v:=.bool true) rfl rfl<|Za rfl<|Zb<|Zd<|Za rfl<|Za rfl ?_
    refine ZD rfl (Zq (b:=H.next) (o:=0) rfl ?_)
    refine ZD rfl (ZG (b:=H.next) (o:=2) (v:=.slice w.1 p.wt.length w.2) rfl c1.rd rfl ?_)
    refine ZD rfl (YI (m:=p.wt.length) rfl ?_)
    refine ZD rfl (Wy (a:=(p.wt.length:Int)) (b:=8) rfl rfl ?_)
    intro t1 g1;cases t1
    ·have g1:¬ ((p.wt.length:Int)≤8):=of_decide_eq_false g1
     refine Zg (v:=.bool false) rfl rfl<|Za rfl<|Zh rfl<|Zh rfl<|Zh rfl<|Zg (v:=.bool false) rfl rfl<|Za rfl<|Zb ?_
     exact And.intro trivial (Exists.intro _ (And.intro rfl ⟨congrArg Value.bool (show false=vP p from by symm;rw [← Bool.not_eq_true];simp only [vP,Bool.and_eq_true,decide_eq_true_eq];intro q;obtain ⟨⟨⟨⟨q0,q1⟩,q2⟩,q3⟩,q4⟩:=q;first | omega | (simp_all;done)),hk⟩))
    ·have g1:(p.wt.length:Int)≤8:=of_decide_eq_true g1
     refine Zg (v:=.bool true) rfl rfl<|Za rfl ?_
     refine ZD rfl (Zq (b:=H.next) (o:=0) rfl ?_)
     refine ZD rfl (ZG (b:=H.next) (o:=2) (v:=.slice w.1 p.wt.length w.2) rfl c1.rd rfl ?_)
     obtain ⟨H5,fH5,kH5⟩:=Zba (kn:=kn) (lo:=lo) (H:=H4) (hk.sl0 hw) rfl (by omega) (by omega) (F:=91) (gc:=#[]) (ok:=fun i=>inB (p.wt.getD i 0) 0 365) (fun i hi H9 k9=>by
      obtain ⟨H8,f8,k8⟩:=ZbZ (kn:=kn) (lo:=lo) (H:=H9) (n:=p.wt.getD i 0)
      exact ⟨H8,ZW rfl (by simpa using f8),k8⟩)
     rw [XC (p:=fun d=>inB d 0 365)] at fH5
     have mH5:=kH5.1
     have hk:=hk.trans kH5
     have c1:=kH5.cl c1 (by simp)
     cases hal:(p.wt.all fun d=>inB d 0 365)
     ·rw [hal] at fH5
      refine ZD rfl (Zr (v:=.bool false) (vs:=[.slice w.1 p.wt.length w.2,.func (.func 91) #[] #[]]) rfl (Zk fH5) ?_)
      refine Zg (v:=.bool false) rfl rfl<|Za rfl<|Zb ?_
      exact And.intro trivial (Exists.intro _ (And.intro rfl ⟨congrArg Value.bool (show false=vP p from by symm;rw [← Bool.not_eq_true];simp only [vP,Bool.and_eq_true,decide_eq_true_eq];intro q;obtain ⟨⟨⟨⟨q0,q1⟩,q2⟩,q3⟩,q4⟩:=q;first | omega | (simp_all;done)),hk⟩))
     ·rw [hal] at fH5
      refine ZD rfl (Zr (v:=.bool true) (vs:=[.slice w.1 p.wt.length w.2,.func (.func 91) #[] #[]]) rfl (Zk fH5) ?_)
      refine Zg (v:=.bool true) rfl rfl<|Za rfl<|Zb ?_
      exact And.intro trivial (Exists.intro _ (And.intro rfl ⟨congrArg Value.bool (show true=vP p from by symm;simp only [vP,Bool.and_eq_true,decide_eq_true_eq];refine ⟨⟨⟨⟨?_,?_⟩,?_⟩,?_⟩,?_⟩<;>first | assumption | omega),hk⟩))
theorem ZeL {a:Ya} {y:Yd} {j:Jb} (hy:YaH H a y) (hB:YaB y):∃ H',FnX Try.prog kn lo 73 [.agg (Jb.f j).toArray,.agg (Ya.f a y).toArray] H (.bool (vJ y j)) H'∧Zf H H' []:=by
 have key:=Zs (kn:=kn) (lo:=lo) (H:=H) (args:=[.agg (Jb.f j).toArray,.agg (Ya.f a y).toArray]) (Q:=fun w H'=>w=.bool (vJ y j)∧Zf H H' []) Try.func73 B73 N73 Z73 L73 (by simp) ?_
 ·obtain ⟨w,H',h,rfl,q⟩:=key;exact ⟨H',h,q⟩
 have hB1:=hB.1;have hB2:=hB.2.1
 have hk:=Zf.refl H []
 refine Zd<|Yc (v:=.agg (Jb.f j).toArray) rfl ?_
 intro H1 kH1 nH1 c1
 have c1:Cl H1 H.next [iv j.b,iv j.p,iv j.u,iv j.t]:=c1
 have mH1:=kH1.1
 have hk:=hk.trans kH1
 refine Yc (v:=.agg (Ya.f a y).toArray) rfl ?_
 intro H2 kH2 nH2 c2
 have c2:Cl H2 H1.next [.slice a.pa y.ps.length a.pc,.slice a.ba y.bs.length a.bc,.slice a.sa y.ss.length a.sc,.slice a.ja y.js.length a.jc]:=c2
 have mH2:=kH2.1
 have hk:=hk.trans kH2
 have c1:=kH2.cl c1 (by simp)
 refine Za rfl<|Zb<|Zd<|Zq (b:=H.next) (o:=0) rfl<|ZG (b:=H.next) (o:=0) (v:=iv j.b) rfl c1.rd rfl<|Zq (b:=H1.next) (o:=0) rfl<|ZG (b:=H1.next) (o:=1) (v:=.slice a.ba y.bs.length a.bc) rfl c2.rd rfl<|YI (m:=y.bs.length) rfl<|ZM rfl (US (by omega)) ?_
 intro tH3 H3 hH3 kH3
 have mH3:=kH3.1
 have hk:=hk.trans kH3
 have c1:=kH3.cl c1 (by simp)
 have c2:=kH3.cl c2 (by simp)
 cases tH3
 ·have thH3:inB j.b 0 ((y.bs.length:Int) - 1)=false:=hH3
  have uhH3:=YG thH3
  refine Zg (v:=.bool true) rfl rfl<|Za rfl<|Zh rfl<|Zh rfl<|Zh rfl<|Zh rfl<|Zh rfl<|Zh rfl<|Zh rfl<|Zg (v:=.bool true) rfl rfl<|Zb<|YC<|Zd<|Za rfl<|Zb ?_
  exact And.intro trivial (Exists.intro _ (And.intro rfl ⟨congrArg Value.bool (show false=vJ y j from by symm;rw [← Bool.not_eq_true];simp only [vJ,inB,Bool.and_eq_true,decide_eq_true_eq];simp only [jB,jP];omega),hk⟩))
 ·have thH3:inB j.b 0 ((y.bs.length:Int) - 1)=true:=hH3
  have uhH3:=Yr thH3
  refine Zg (v:=.bool false) rfl rfl<|Za rfl ?_
  refine ZD rfl (Zq (b:=H.next) (o:=0) rfl ?_)
  refine ZD rfl (ZG (b:=H.next) (o:=1) (v:=iv j.p) rfl c1.rd rfl ?_)
  refine ZD rfl (Zq (b:=H1.next) (o:=0) rfl ?_)
  refine ZD rfl (ZG (b:=H1.next) (o:=0) (v:=.slice a.pa y.ps.length a.pc) rfl c2.rd rfl ?_)
  refine ZD rfl (YI (m:=y.ps.length) rfl ?_)
  refine ZD rfl (ZM rfl (US (by omega)) ?_)
  intro tH4 H4 hH4 kH4
  have mH4:=kH4.1
  have hk:=hk.trans kH4
  have c1:=kH4.cl c1 (by simp)
  have c2:=kH4.cl c2 (by simp)
  cases tH4
  ·have thH4:inB j.p 0 ((y.ps.length:Int) - 1)=false:=hH4
   have uhH4:=YG thH4
   refine ZD rfl (Zg (v:=.bool true) rfl rfl ?_)
   refine Zg (v:=.bool true) rfl rfl<|Zb<|YC<|Zd<|Za rfl<|Zb ?_
   exact And.intro trivial (Exists.intro _ (And.intro rfl ⟨congrArg Value.bool (show false=vJ y j from by symm;rw [← Bool.not_eq_true];simp only [vJ,inB,Bool.and_eq_true,decide_eq_true_eq];simp only [jB,jP];omega),hk⟩))
  ·have thH4:inB j.p 0 ((y.ps.length:Int) - 1)=true:=hH4
   have uhH4:=Yr thH4
   refine ZD rfl (Zg (v:=.bool false) rfl rfl ?_)
   refine Zg (v:=.bool false) rfl rfl<|Zb<|YE ?_
   have hjb:j.b.toNat < y.bs.length:=by omega
   have hjp:j.p.toNat < y.ps.length:=by omega
   have hwl:=hB.2.2.2.2 j.p.toNat hjp
   have sb0:=(hy.keep hk).b
   rcases id sb0 with ⟨_,h0b,_⟩ | ⟨bb,eb,rb,_⟩
   ·omega
   have lb:=rb.1
   have sp0:=(hy.keep hk).p
   rcases id sp0 with ⟨_,h0p,_⟩ | ⟨pb,ep,rp,_⟩
   ·omega
   have lp:=rp.1
   first | refine ZE ?_ | skip
   refine Zd<|Zq (b:=H.next) (o:=0) rfl<|ZG (b:=H.next) (o:=2) (v:=iv j.u) rfl c1.rd rfl<|ZM rfl (Uv) ?_
   intro tH5 H5 hH5 kH5
   have mH5:=kH5.1
   have hk:=hk.trans kH5
   have c1:=kH5.cl c1 (by simp)
   have c2:=kH5.cl c2 (by simp)
   have rb:=kH5.rd rb (by simp)
   have rp:=kH5.rd rp (by simp)
   cases tH5
   ·have thH5:inB j.u 0 16384=false:=hH5
    have uhH5:=YG thH5
    refine Za rfl<|Zh rfl<|Zh rfl<|Zh rfl<|Zg (v:=.bool false) rfl rfl<|Za rfl<|Zh rfl<|Zh rfl<|Zh rfl<|Zh rfl<|Zh rfl<|Zh rfl<|Zg (v:=.bool false) rfl rfl<|Za rfl<|Zb<|Wf<|ZJ rfl<|ZJ rfl<|ZS rfl<|ZS rfl<|ZS rfl<|ZS rfl<|ZS rfl<|ZS rfl<|ZS rfl<|ZS rfl<|ZS rfl<|ZS rfl<|ZS rfl<|ZS rfl<|ZS rfl<|ZS rfl<|ZS rfl<|ZS rfl<|Q0 (v:=.bool false) rfl rfl<|ZJ rfl ?_
    refine Y7 (by repeat' first | exact True.intro | exact (fun h=>h) | refine And.intro ?_ ?_ | (intro h;have h:(_:Nat)=_:=h;omega)) ?_
    exact And.intro trivial (Exists.intro _ (And.intro rfl ⟨congrArg Value.bool (show false=vJ y j from by symm;rw [← Bool.not_eq_true];simp only [vJ,inB,Bool.and_eq_true,decide_eq_true_eq];simp only [jB,jP];omega),hk⟩))
   ·have thH5:inB j.u 0 16384=true:=hH5
    have uhH5:=Yr thH5
    refine Za rfl ?_
    refine ZD rfl (Zq (b:=H.next) (o:=0) rfl ?_)
    refine ZD rfl (ZG (b:=H.next) (o:=3) (v:=iv j.t) rfl c1.rd rfl ?_)
    refine ZD rfl (ZM rfl (Uv) ?_)
    intro tH6 H6 hH6 kH6
    have mH6:=kH6.1
    have hk:=hk.trans kH6
    have c1:=kH6.cl c1 (by simp)
    have c2:=kH6.cl c2 (by simp)
    have rb:=kH6.rd rb (by simp)
    have rp:=kH6.rd rp (by simp)
    cases tH6
    ·have thH6:inB j.t 0 16384=false:=hH6
     have uhH6:=YG thH6
     refine Zg (v:=.bool false) rfl rfl<|Za rfl<|Zh rfl<|Zh rfl<|Zh rfl<|Zh rfl<|Zh rfl<|Zh rfl<|Zg (v:=.bool false) rfl rfl<|Za rfl<|Zb<|Wf<|ZJ rfl<|ZJ rfl<|ZS rfl<|ZS rfl<|ZS rfl<|ZS rfl<|ZS rfl<|ZS rfl<|ZS rfl<|ZS rfl<|ZS rfl<|ZS rfl<|ZS rfl<|ZS rfl<|ZS rfl<|ZS rfl<|ZS rfl<|ZS rfl<|Q0 (v:=.bool false) rfl rfl<|ZJ rfl ?_
     refine Y7 (by repeat' first | exact True.intro | exact (fun h=>h) | refine And.intro ?_ ?_ | (intro h;have h:(_:Nat)=_:=h;omega)) ?_
     exact And.intro trivial (Exists.intro _ (And.intro rfl ⟨congrArg Value.bool (show false=vJ y j from by symm;rw [← Bool.not_eq_true];simp only [vJ,inB,Bool.and_eq_true,decide_eq_true_eq];simp only [jB,jP];omega),hk⟩))
    ·have thH6:inB j.t 0 16384=true:=hH6
     have uhH6:=Yr thH6
     refine Zg (v:=.bool true) rfl rfl<|Za rfl ?_
     refine ZD rfl (Zq (b:=H.next) (o:=0) rfl ?_)
     refine ZD rfl (ZG (b:=H.next) (o:=3) (v:=iv j.t) rfl c1.rd rfl ?_)
     refine ZD rfl (Zq (b:=H.next) (o:=0) rfl ?_)
     refine ZD rfl (ZG (b:=H.next) (o:=2) (v:=iv j.u) rfl c1.rd rfl ?_)
     refine ZD rfl (K9 (a:=j.t) (b:=j.u) rfl rfl ⟨by omega,by omega⟩ ?_)
     refine ZD rfl (ZM rfl (XZ) ?_)
     intro tH7 H7 hH7 kH7
     have mH7:=kH7.1
     have hk:=hk.trans kH7
     have c1:=kH7.cl c1 (by simp)
     have c2:=kH7.cl c2 (by simp)
     have rb:=kH7.rd rb (by simp)
     have rp:=kH7.rd rp (by simp)
     cases tH7
     ·have thH7:inB (j.t - j.u) 0 40=false:=hH7
      have uhH7:=YG thH7
      refine Zg (v:=.bool false) rfl rfl<|Za rfl<|Zb<|Wf<|ZJ rfl<|ZJ rfl<|ZS rfl<|ZS rfl<|ZS rfl<|ZS rfl<|ZS rfl<|ZS rfl<|ZS rfl<|ZS rfl<|ZS rfl<|ZS rfl<|ZS rfl<|ZS rfl<|ZS rfl<|ZS rfl<|ZS rfl<|ZS rfl<|Q0 (v:=.bool false) rfl rfl<|ZJ rfl ?_
      refine Y7 (by repeat' first | exact True.intro | exact (fun h=>h) | refine And.intro ?_ ?_ | (intro h;have h:(_:Nat)=_:=h;omega)) ?_
      exact And.intro trivial (Exists.intro _ (And.intro rfl ⟨congrArg Value.bool (show false=vJ y j from by symm;rw [← Bool.not_eq_true];simp only [vJ,inB,Bool.and_eq_true,decide_eq_true_eq];simp only [jB,jP];omega),hk⟩))
     ·have thH7:inB (j.t - j.u) 0 40=true:=hH7
      have uhH7:=Yr thH7
      refine Zg (v:=.bool true) rfl rfl<|Za rfl<|Zb<|Wf<|ZJ rfl<|ZJ rfl ?_
      refine V2 rfl (Zz (b:=H1.next) (o:=0) rfl ?_)
      refine V2 rfl (Z8 (b:=H1.next) (o:=1) (v:=.slice a.ba y.bs.length a.bc) rfl c2.rd rfl ?_)
      refine V2 rfl (Zz (b:=H.next) (o:=0) rfl ?_)
      refine V2 rfl (Z8 (b:=H.next) (o:=0) (v:=iv j.b) rfl c1.rd rfl ?_)
      refine V2 rfl (XR (b:=bb) (o:=0) (k:=j.b.toNat) (j:=j.b) (by rw [← eb];rfl) rfl (by omega) (by omega) ?_)
      refine V2 rfl (Zz (b:=bb) (o:=0+j.b.toNat * 4) rfl ?_)
      refine V2 rfl (Z8 (b:=bb) (o:=0+j.b.toNat * 4+3) (v:=iv ((y.bs.getD j.b.toNat Bd.z).m)) rfl rb (Zb5 (l:=y.bs) (i:=j.b.toNat) (j:=3) (by omega) rfl) ?_)
      refine V2 rfl (Zz (b:=H1.next) (o:=0) rfl ?_)
      refine V2 rfl (Z8 (b:=H1.next) (o:=0) (v:=.slice a.pa y.ps.length a.pc) rfl c2.rd rfl ?_)
      refine V2 rfl (Zz (b:=H.next) (o:=0) rfl ?_)
      refine V2 rfl (Z8 (b:=H.next) (o:=1) (v:=iv j.p) rfl c1.rd rfl ?_)
      refine V2 rfl (XR (b:=pb) (o:=0) (k:=j.p.toNat) (j:=j.p) (by rw [← ep];rfl) rfl (by omega) (by omega) ?_)
      refine V2 rfl (Zz (b:=pb) (o:=0+j.p.toNat * 4) rfl ?_)
      refine V2 rfl (Z8 (b:=pb) (o:=0+j.p.toNat * 4+2) (v:=.slice ((a.ws j.p.toNat).1) ((y.ps.getD j.p.toNat Pd.z).wt.length) ((a.ws j.p.toNat).2)) rfl rp (zq (i:=j.p.toNat) (j:=2) (by omega) rfl) ?_)
      refine V2 rfl (Zcz (m:=(y.ps.getD j.p.toNat Pd.z).wt.length) rfl ?_)
      refine Zer (US (by omega)) ?_
      intro tH8 H8 hH8 kH8
      have mH8:=kH8.1
      have hk:=hk.trans kH8
      have c1:=kH8.cl c1 (by simp)
      have c2:=kH8.cl c2 (by simp)
      have rb:=kH8.rd rb (by simp)
      have rp:=kH8.rd rp (by simp)
      cases tH8
      ·have thH8:inB ((y.bs.getD j.b.toNat Bd.z).m) 0 (((y.ps.getD j.p.toNat Pd.z).wt.length:Int) - 1)=false:=hH8
       have uhH8:=YG thH8
       refine Q0 (v:=.bool false) rfl rfl<|ZJ rfl ?_
       refine Y7 (by repeat' first | exact True.intro | exact (fun h=>h) | refine And.intro ?_ ?_ | (intro h;have h:(_:Nat)=_:=h;omega)) ?_
       exact And.intro trivial (Exists.intro _ (And.intro rfl ⟨congrArg Value.bool (show false=vJ y j from by symm;rw [← Bool.not_eq_true];simp only [vJ,inB,Bool.and_eq_true,decide_eq_true_eq];simp only [jB,jP];omega),hk⟩))
      ·have thH8:inB ((y.bs.getD j.b.toNat Bd.z).m) 0 (((y.ps.getD j.p.toNat Pd.z).wt.length:Int) - 1)=true:=hH8
       have uhH8:=Yr thH8
       refine Q0 (v:=.bool true) rfl rfl<|ZJ rfl ?_
       refine Y7 (by repeat' first | exact True.intro | exact (fun h=>h) | refine And.intro ?_ ?_ | (intro h;have h:(_:Nat)=_:=h;omega)) ?_
       exact And.intro trivial (Exists.intro _ (And.intro rfl ⟨congrArg Value.bool (show true=vJ y j from by symm;simp only [vJ,inB,Bool.and_eq_true,decide_eq_true_eq];simp only [jB,jP];omega),hk⟩))
theorem ZcL {a:Ya} {y:Yd} {j:Jb} {cc:Nat} (r1:Rd H cc (Ya.f a y)) (hy:YaH H a y) (hB:YaB y):∃ H',FnX Try.prog kn lo 72 [.agg (Jb.f j).toArray,.pointer (some ⟨cc,0,none⟩)] H (.bool (vJ y j)) H'∧Zf H H' []:=by
 have key:=Zs (kn:=kn) (lo:=lo) (H:=H) (args:=[.agg (Jb.f j).toArray,.pointer (some ⟨cc,0,none⟩)]) (Q:=fun w H'=>w=.bool (vJ y j)∧Zf H H' []) Try.func72 B72 N72 Z72 L72 (by simp) ?_
 ·obtain ⟨w,H',h,rfl,q⟩:=key;exact ⟨H',h,q⟩
 have hk:=Zf.refl H []
 refine Zd<|Yc (v:=.agg (Jb.f j).toArray) rfl ?_
 intro H1 kH1 nH1 c1
 have c1:Cl H1 H.next [iv j.b,iv j.p,iv j.u,iv j.t]:=c1
 have mH1:=kH1.1
 have hk:=hk.trans kH1
 have r1:=kH1.rd r1 (by simp)
 refine Za rfl<|Zb<|Zd<|Yo (b:=H.next) (o:=0) rfl c1.rd (show row 4 _ _=some [iv j.b,iv j.p,iv j.u,iv j.t] from rfl)<|Yo (b:=cc) (o:=0) rfl r1 (show row 4 _ _=some [.slice a.pa y.ps.length a.pc,.slice a.ba y.bs.length a.bc,.slice a.sa y.ss.length a.sc,.slice a.ja y.js.length a.jc] from rfl) ?_
 obtain ⟨H2,fH2,kH2⟩:=ZeL (kn:=kn) (lo:=lo) (H:=H1) (j:=j) (hy.keep hk) hB
 refine Zr (vs:=[.agg (Jb.f j).toArray,.agg (Ya.f a y).toArray]) rfl (Zk fH2) ?_
 have mH2:=kH2.1
 have hk:=hk.trans kH2
 have r1:=kH2.rd r1 (by simp)
 have c1:=kH2.cl c1 (by simp)
 refine Za rfl<|Zb ?_
 exact And.intro trivial (Exists.intro _ (And.intro rfl ⟨congrArg Value.bool rfl,hk⟩))
end
end Go.Ax

/-
 Pool: traps: how many insects there can be (written by program).
-/
namespace Go.Ax
open Go Go.RowKit Go.Proofs

noncomputable section
def Zae:Code→Array Oper
 | .region _ ops _=>ops
 | _=>#[]
theorem Zcc {P:Program} {kn:Kn} {lo:Nat} {H:Hp} {n:Nat} {rd:Bool} {x y:RC} {S:Rg} {K:Exit→Rg→Hp→Prop} (h:wC P kn lo n rd x S H fun e S' H'=>match e with | .normal=>wC P kn lo n rd y S' H' K | e=>K e S' H'):wC P kn lo n rd (.seq x y) S H K:=h
noncomputable def R60v:RC:=(.seq (.reg [oK 1 57 0,oN 2 0])
 (.seq (.other (at_ Try.f60 [1,0]))
 .ret))
theorem V60:LV Try.prog 13 (at_ Try.f60 []) R60v:=by
 have e:at_ Try.f60 []=(.seq (at_ Try.f60 [0]) (.seq (at_ Try.f60 [1,0]) (at_ Try.f60 [1,1]))):=by kernel_rfl
 rw [e]
 exact (.seq (.low (by kernel_rfl)) (.seq (.other _) (.low (by kernel_rfl))))
def Xm (t:Tp):Int:=if t.c=0 then 0 else (t.c - 1) * 1000 / t.h+1
def WA (t:Tp):Int:=((t.c+1) * 1000 - 1) / t.l
theorem Zar {t:Tp} (h:vT t=true):0≤t.c∧t.c≤1048576∧1≤t.l∧t.l≤t.h∧t.h≤1000:=by
 simp only [vT,inB,Bool.and_eq_true,decide_eq_true_eq] at h;omega
theorem jQ {t:Tp} (h:vT t=true):-1000≤((t.c - 1) * 1000).tdiv t.h∧((t.c - 1) * 1000).tdiv t.h≤2000000000∧max 0 (((t.c - 1) * 1000).tdiv t.h+1)=Xm t:=by
 have hv:=Zar h
 unfold Xm
 by_cases e:t.c=0
 ·rw [e,if_pos rfl,show ((0:Int) - 1) * 1000 = -1000 from rfl,Int.neg_tdiv,Q4 (by decide) (by omega)]
  have h1:1≤1000 / t.h:=Int.le_ediv_of_mul_le (by omega) (by omega)
  have h2:1000 / t.h≤1000:=Int.ediv_le_self _ (by decide)
  omega
 ·rw [if_neg e,Q4 (by omega) (by omega)]
  have h1:0≤(t.c - 1) * 1000 / t.h:=Int.ediv_nonneg (by omega) (by omega)
  have h2:(t.c - 1) * 1000 / t.h≤(t.c - 1) * 1000:=Int.ediv_le_self _ (by omega)
  omega
theorem yO {t:Tp} (h:vT t=true):0≤Xm t∧Xm t≤2199023255552:=by have:=jQ h;omega
theorem yX {t:Tp} (h:vT t=true):0≤WA t∧WA t≤2199023255552:=by
 have hv:=Zar h
 unfold WA
 have h1:0≤((t.c+1) * 1000 - 1) / t.l:=Int.ediv_nonneg (by omega) (by omega)
 have h2:((t.c+1) * 1000 - 1) / t.l≤(t.c+1) * 1000 - 1:=Int.ediv_le_self _ (by omega)
 omega
theorem ZaM {n:Nat} {S:Rg} {d:Option Tmp} {x y:Operand} {p:String} {a b:Int} (hx:evS S x=some (iv a)) (hy:evS S y=some (iv b)) (hb:0 < b) (h:InR (a.tdiv b)):Zn Try.prog (frS n S) ⟨d,.binOp .quo 3 x y 3,3,p,#[],none⟩=some (iv (a.tdiv b)):=by
 have:Zn Try.prog (frS n S) ⟨d,.binOp .quo 3 x y 3,3,p,#[],none⟩=match Zy Try.prog (Op.intDiv .quo .i64 a b) with | some v=>bif flat v then some v else none | none=>none:=by unfold Zn;simp only [Yx,hx,hy];rfl
 rw [this]
 unfold Op.intDiv
 rw [if_neg (by omega)]
 show some (Value.int .i64 (IntKind.i64.wrap (a.tdiv b)))=_
 rw [wrap_i64 h]
def smT:Nat→(Nat→Int)→Int
 | 0,_=>0
 | n+1,g=>smT n g+g n
theorem yR {n:Nat} {g:Nat→Int} (h:∀ i,i < n→0≤g i∧g i≤2199023255552):0≤smT n g∧smT n g≤2199023255552 * n:=by
 induction n with
 | zero=>simp [smT]
 | succ n ih=>
  have a:=ih fun i hi=>h i (by omega)
  have b:=h n (by omega)
  unfold smT
  omega
theorem Qb {P:Program} {S:Rg} {H:Hp} {a b x n:Nat} {t:TypeId} {cs:List Value} {v:Value} (ha:lk S a=some (.pointer (some ⟨x,0,none⟩))) (h1:XT P t=some true) (hi:∃ i,P.info? t=some i∧i.size=n) (hl:cs.length=n) (h:Cl H x cs) (hb:lk S b=some v):Ww P S H [.cell a t,.tmp b]=some [.agg cs.toArray,v]:=by
 simp only [Ww,ha,hb,z3 h1 hi h.rd hl]
def peL (l:List Tp):Int:=if l.length≤64∧l.all vT=true then smT l.length fun i=>Xm (l.getD i Tp.z) else 0
def peH (l:List Tp):Int:=if l.length≤64∧l.all vT=true then smT l.length fun i=>WA (l.getD i Tp.z) else 0
def peE (l:List Tp):Int:=if l.length≤64 then (if l.all vT=true then 0 else 1) else 3
theorem qD {l:List Tp} (h:¬ l.length≤64):peL l=0∧peH l=0∧peE l=3:=by
 unfold peL peH peE;rw [if_neg (fun q=>h q.1),if_neg (fun q=>h q.1),if_neg h];exact ⟨rfl,rfl,rfl⟩
theorem j9 {l:List Tp} (h:l.length≤64) (h2:l.all vT=false):peL l=0∧peH l=0∧peE l=1:=by
 unfold peL peH peE;rw [if_neg (fun q=>by rw [h2] at q;cases q.2),if_neg (fun q=>by rw [h2] at q;cases q.2),if_pos h,if_neg (by rw [h2];simp)];exact ⟨rfl,rfl,rfl⟩
theorem Zck {l:List Tp} (h:l.length≤64) (h2:l.all vT=true):peL l=(smT l.length fun i=>Xm (l.getD i Tp.z))∧peH l=(smT l.length fun i=>WA (l.getD i Tp.z))∧peE l=0:=by
 unfold peL peH peE;rw [if_pos ⟨h,h2⟩,if_pos ⟨h,h2⟩,if_pos h,if_pos h2];exact ⟨rfl,rfl,rfl⟩
theorem Zfs:at_ Try.f60 [1,0]=.region 1 (Zae (at_ Try.f60 [1,0])) false:=by kernel_rfl
noncomputable def R60p : List RO := [⟨(some 3), none, (.addo (.tmp 1) 0)⟩, ⟨(some 4), none, (.ld (.tmp 3) 1)⟩, ⟨(some 5), none, (.ari .sub (.tmp 4) (.const (.int .i64 1)))⟩, ⟨(some 6), none, (.ari .mul (.tmp 5) (.const (.int .i64 1000)))⟩, ⟨(some 7), none, (.addo (.tmp 1) 1)⟩, ⟨(some 8), none, (.addo (.tmp 7) 1)⟩, ⟨(some 9), none, (.ld (.tmp 8) 1)⟩, ⟨(some 10), none, (.pur ⟨(some 10), (.binOp .quo 3 (.tmp 6) (.tmp 9) 3), 3, "", #[], none⟩)⟩, ⟨(some 11), none, (.ari .add (.tmp 10) (.const (.int .i64 1)))⟩, ⟨(some 12), none, (.mm false (.const (.int .i64 0)) (.tmp 11))⟩, ⟨(some 2), none, (.mov (.tmp 12))⟩]
theorem Zfq:VQ Try.prog 13 (Zae (at_ Try.f60 [1,0])).toList [7] (Zae (at_ Try.f60 [1,0])).toList 0=some R60p:=by kernel_rfl
section
variable {kn:Kn} {lo:Nat} {H:Hp}
theorem Zc2 {t:Tp} (hv:vT t=true):∃ H',FnX Try.prog kn lo 60 [.agg (Tp.f t).toArray] H (iv (Xm t)) H'∧Zf H H' []:=by
 have key:=Zdd (kn:=kn) (lo:=lo) (H:=H) (args:=[.agg (Tp.f t).toArray]) (Q:=fun w H'=>w=iv (Xm t)∧Zf H H' []) Try.func60 B60 N60 Z60 V60 (by simp) ?_
 ·obtain ⟨w,H',h,rfl,q⟩:=key;exact ⟨H',h,q⟩
 have hk:=Zf.refl H []
 have hvt:=Zar hv
 have hfe:=jQ hv
 refine Zd<|Yc (v:=.agg (Tp.f t).toArray) rfl ?_
 intro H1 kH1 nH1 c1
 have c1:Cl H1 H.next [iv t.c,iv t.l,iv t.h]:=c1
 have mH1:=kH1.1
 have hk:=hk.trans kH1
 refine Za rfl<|Zb ?_
 refine Zcc ?_
 refine Zac Zfs Zfq ?_
 refine Zq (b:=H.next) (o:=0) rfl<|ZG (b:=H.next) (o:=0) (v:=iv t.c) rfl c1.rd rfl<|K9 (a:=t.c) (b:=1) rfl rfl ⟨by omega,by omega⟩<|yJ (a:=t.c - 1) (b:=1000) rfl rfl ⟨by omega,by omega⟩<|Zq (b:=H.next) (o:=0) rfl<|Zq (b:=H.next) (o:=1) rfl<|ZG (b:=H.next) (o:=2) (v:=iv t.h) rfl c1.rd rfl<|Zg (v:=iv (((t.c - 1) * 1000).tdiv t.h)) rfl (ZaM rfl rfl (by omega) ⟨by omega,by omega⟩)<|YK (a:=((t.c - 1) * 1000).tdiv t.h) (b:=1) rfl rfl ⟨by omega,by omega⟩<|Zcl (a:=0) (b:=((t.c - 1) * 1000).tdiv t.h+1) rfl rfl<|Za rfl<|Zb ?_
 exact And.intro trivial (Exists.intro _ (And.intro rfl ⟨congrArg iv hfe.2.2,hk⟩))
theorem Zc5 {t:Tp} (hv:vT t=true):∃ H',FnX Try.prog kn lo 61 [.agg (Tp.f t).toArray] H (iv (WA t)) H'∧Zf H H' []:=by
 have key:=Zs (kn:=kn) (lo:=lo) (H:=H) (args:=[.agg (Tp.f t).toArray]) (Q:=fun w H'=>w=iv (WA t)∧Zf H H' []) Try.func61 B61 N61 Z61 L61 (by simp) ?_
 ·obtain ⟨w,H',h,rfl,q⟩:=key;exact ⟨H',h,q⟩
 have hk:=Zf.refl H []
 have hvt:=Zar hv
 refine Zd<|Yc (v:=.agg (Tp.f t).toArray) rfl ?_
 intro H1 kH1 nH1 c1
 have c1:Cl H1 H.next [iv t.c,iv t.l,iv t.h]:=c1
 have mH1:=kH1.1
 have hk:=hk.trans kH1
 refine Za rfl<|Zb<|Zd<|Zq (b:=H.next) (o:=0) rfl<|ZG (b:=H.next) (o:=0) (v:=iv t.c) rfl c1.rd rfl<|YK (a:=t.c) (b:=1) rfl rfl ⟨by omega,by omega⟩<|yJ (a:=t.c+1) (b:=1000) rfl rfl ⟨by omega,by omega⟩<|K9 (a:=(t.c+1) * 1000) (b:=1) rfl rfl ⟨by omega,by omega⟩<|Zq (b:=H.next) (o:=0) rfl<|Zq (b:=H.next) (o:=1) rfl<|ZG (b:=H.next) (o:=1) (v:=iv t.l) rfl c1.rd rfl<|Zdt (a:=((t.c+1) * 1000) - 1) (b:=t.l) rfl rfl (by omega) (by omega) ⟨by omega,by omega⟩<|Za rfl<|Zb ?_
 exact And.intro trivial (Exists.intro _ (And.intro rfl ⟨rfl,hk⟩))
theorem j6 {l:List Tp} {sa:Option Addr} {n cap:Nat} (hs:Sl H sa n cap (tpc l)) (hl:l.length=n) (hn:n≤1000) (hlo:lo≤H.next) {F:FuncId} {g:Nat→Int} (hg:∀ i,i < n→0≤g i∧g i≤2199023255552)
  (hc:∀ i,i < n→∀ H1,Zf H H1 []→∃ H2,ZL Try.prog kn lo (.fn (.func F) #[]) [.agg (Tp.f (l.getD i Tp.z)).toArray] H1 (iv (g i)) H2∧Zf H1 H2 []):∃ H',FnX Try.prog kn lo 59 [.slice sa n cap,.func (.func F) #[] #[]] H (iv (smT n g)) H'∧Zf H H' []:=by
 have key:=Zs (kn:=kn) (lo:=lo) (H:=H) (args:=[.slice sa n cap,.func (.func F) #[] #[]]) (Q:=fun w H'=>w=iv (smT n g)∧Zf H H' []) Try.func59 B59 N59 Z59 L59 (by simp) ?_
 ·obtain ⟨w,H',h,rfl,q⟩:=key;exact ⟨H',h,q⟩
 have hk:=Zf.refl H []
 refine Zd<|Za rfl<|Zb<|Zd<|Za rfl<|Zb<|Zd<|Za rfl<|YI (m:=n) rfl<|Za rfl<|Zb ?_
 refine YO (fn:=Try.f59) Zdx N59 ZdP (fun i:Nat=>[(1,.func (.func F) #[] #[]),(5,iv (smT i g)),(8,.slice sa n cap),(9,iv (n:Int)),(10,iv (i:Int))])
  (fun k i H'=>i+k=n∧Zf H H' []) n 0 ⟨by omega,hk⟩ ⟨rfl,rfl,rfl,rfl,rfl,trivial⟩ ?_
 rintro k i L1 ⟨hik,hk⟩
 have mk:=hk.1
 refine Zd<|YY (a:=(i:Int)) (b:=(n:Int)) rfl rfl<|Zb ?_
 refine And.intro (fun q1=>?_) (fun q1=>?_)
 ·have q1:(i:Int) < (n:Int):=of_decide_eq_true q1
  have hi:i < n:=by omega
  have ss0:=hk.sl0 hs
  rcases id ss0 with ⟨_,h0s,_⟩ | ⟨sb,es,rs,_⟩
  ·omega
  have ls:=rs.1
  have fs:=hs.old
  have hsm:=yR (n:=i) (g:=g) fun j hj=>hg j (by omega)
  have hgi:=hg i hi
  first | refine ZE ?_ | skip
  refine Zd<|Xz (b:=sb) (o:=0) (k:=i) (j:=(i:Int)) (by rw [← es];rfl) rfl rfl hi<|Yo (b:=sb) (o:=0+i * 3) rfl rs (Uk (by omega))<|Y8 ?_
  intro H1 kH1 nH1 c1
  have c1:Cl H1 L1.next [iv 0,iv 0,iv 0]:=c1
  have mH1:=kH1.1
  have hk:=hk.trans kH1
  have rs:=kH1.rd rs (by simp)
  refine YS (b:=L1.next) (o:=0) rfl rfl c1 (by omega) rfl rfl (by simp) ?_
  intro H2 kH2 nH2 sH2
  have mH2:=kH2.1
  have hk:=hk.new kH2 (fun b hb=>by simp at hb ⊢;omega)
  have rs:=kH2.rd rs (by first | (simp;done) | (simp;omega))
  have c1:Cl H2 L1.next [iv ((l.getD i Tp.z).c),iv ((l.getD i Tp.z).l),iv ((l.getD i Tp.z).h)]:=sH2
  refine Zb ?_
  show Zw _ _ _ _ _ _ _ _
  refine Za rfl<|Za rfl<|Yo (b:=L1.next) (o:=0) rfl c1.rd (show row 3 _ _=some [iv ((l.getD i Tp.z).c),iv ((l.getD i Tp.z).l),iv ((l.getD i Tp.z).h)] from rfl) ?_
  obtain ⟨H3,fH3,kH3⟩:=hc i hi H2 hk
  refine Zr (v:=iv (g i)) (vs:=[.agg (Tp.f (l.getD i Tp.z)).toArray]) rfl fH3 ?_
  have mH3:=kH3.1
  have hk:=hk.trans kH3
  have rs:=kH3.rd rs (by simp)
  have c1:=kH3.cl c1 (by simp)
  refine YK (a:=(smT i g)) (b:=(g i)) rfl rfl ⟨by omega,by omega⟩<|Za rfl<|Zb ?_
  show Zw _ _ _ _ _ _ _ _
  refine YK (a:=(i:Int)) (b:=1) rfl rfl ⟨by omega,by omega⟩<|Za rfl<|Zb ?_
  exact ⟨k - 1,i+1,by omega,⟨by omega,hk⟩,rfl,rfl,rfl,rfl,rfl,trivial⟩
 ·have q1:¬ ((i:Int) < (n:Int)):=of_decide_eq_false q1
  first | (refine Ve ?_;show wC _ _ _ _ _ _ _ _ _) | skip
  refine Zd<|Za rfl<|Za rfl<|Zb ?_
  have ein:i=n:=by omega
  exact And.intro trivial (Exists.intro _ (And.intro rfl ⟨by rw [ein];rfl,hk⟩))
theorem Q7 {l:List Tp} {sa:Option Addr} {n cap:Nat} (hs:Sl H sa n cap (tpc l)) (hl:l.length=n) (hn:n≤1000) (hlo:lo≤H.next):∃ H',FnX Try.prog kn lo 29 [.slice sa n cap] H (.tuple #[.agg #[iv (peL l),iv (peH l)],iv (peE l)]) H'∧Zf H H' []:=by
 have key:=Zs (kn:=kn) (lo:=lo) (H:=H) (args:=[.slice sa n cap]) (Q:=fun w H'=>w=(.tuple #[.agg #[iv (peL l),iv (peH l)],iv (peE l)])∧Zf H H' []) Try.func29 B29 N29 Z29 L29 (by simp) ?_
 ·obtain ⟨w,H',h,rfl,q⟩:=key;exact ⟨H',h,q⟩
 have hk:=Zf.refl H []
 refine Zd<|Y8 ?_
 intro H1 kH1 nH1 c1
 have c1:Cl H1 H.next [iv 0,iv 0]:=c1
 have mH1:=kH1.1
 have hk:=hk.trans kH1
 refine Za rfl<|Zb<|Zd<|Za rfl<|YI (m:=n) rfl<|Ul (a:=(n:Int)) (b:=64) rfl rfl<|Zb ?_
 refine And.intro (fun q1=>?_) (fun q1=>?_)
 ·have q1:(n:Int) > 64:=of_decide_eq_true q1
  refine Zd<|Zg (v:=.agg #[iv 0,iv 0]) rfl (by kernel_rfl)<|YS (b:=H.next) (o:=0) rfl rfl c1 (by omega) rfl rfl (by simp) ?_
  intro H2 kH2 nH2 sH2
  have mH2:=kH2.1
  have hk:=hk.new kH2 (fun b hb=>by simp at hb ⊢;omega)
  have c1:Cl H2 H.next [iv 0,iv 0]:=sH2
  refine Za rfl<|Zb ?_
  have hpe:=qD (l:=l) (by omega)
  exact And.intro trivial (Exists.intro _ (And.intro (Qb rfl a46 ju rfl c1 rfl) ⟨by rw [hpe.1,hpe.2.1,hpe.2.2];rfl,hk⟩))
 ·have q1:¬ ((n:Int) > 64):=of_decide_eq_false q1
  first | refine ZE ?_ | skip
  refine Zd<|Za rfl ?_
  obtain ⟨H3,fH3,kH3⟩:=Zb3 (kn:=kn) (lo:=lo) (H:=H1) (hk.sl0 hs) hl (by omega) (by omega) (F:=58) (gc:=#[]) (ok:=fun i=>vT (l.getD i Tp.z)) (fun i hi H9 k9=>by
   obtain ⟨H8,f8,k8⟩:=Zew (kn:=kn) (lo:=lo) (H:=H9) (t:=l.getD i Tp.z)
   exact ⟨H8,ZW rfl (by simpa using f8),k8⟩)
  rw [← hl,XC (p:=vT),hl] at fH3
  have mH3:=kH3.1
  have hk:=hk.trans kH3
  have c1:=kH3.cl c1 (by simp)
  cases hal:l.all vT
  ·rw [hal] at fH3
   refine Zr (v:=.bool false) (vs:=[.slice sa n cap,.func (.func 58) #[] #[]]) rfl (Zk fH3)<|Zg (v:=.bool true) rfl rfl<|Zb<|YC<|Zd<|Zg (v:=.agg #[iv 0,iv 0]) rfl (by kernel_rfl)<|YS (b:=H.next) (o:=0) rfl rfl c1 (by omega) rfl rfl (by simp) ?_
   intro H4 kH4 nH4 sH4
   have mH4:=kH4.1
   have hk:=hk.new kH4 (fun b hb=>by simp at hb ⊢;omega)
   have c1:Cl H4 H.next [iv 0,iv 0]:=sH4
   refine Za rfl<|Zb ?_
   have hpe:=j9 (l:=l) (by omega) hal
   exact And.intro trivial (Exists.intro _ (And.intro (Qb rfl a46 ju rfl c1 rfl) ⟨by rw [hpe.1,hpe.2.1,hpe.2.2];rfl,hk⟩))
  ·rw [hal] at fH3
   refine Zr (v:=.bool true) (vs:=[.slice sa n cap,.func (.func 58) #[] #[]]) rfl (Zk fH3)<|Zg (v:=.bool false) rfl rfl<|Zb<|YE ?_
   first | refine ZE ?_ | skip
   refine Zd<|Za rfl ?_
   obtain ⟨H5,fH5,kH5⟩:=j6 (kn:=kn) (lo:=lo) (H:=H3) (hk.sl0 hs) hl hn (by omega) (F:=60) (g:=fun i=>Xm (l.getD i Tp.z)) (fun i hi=>yO (WL hal (by omega))) (fun i hi H9 k9=>by
    obtain ⟨H8,f8,k8⟩:=Zc2 (kn:=kn) (lo:=lo) (H:=H9) (WL (z:=Tp.z) hal (show i < l.length by omega))
    exact ⟨H8,ZW rfl (by simpa using f8),k8⟩)
   refine Zr (v:=iv (smT n fun i=>Xm (l.getD i Tp.z))) (vs:=[.slice sa n cap,.func (.func 60) #[] #[]]) rfl (Zk fH5) ?_
   have mH5:=kH5.1
   have hk:=hk.trans kH5
   have c1:=kH5.cl c1 (by simp)
   refine Za rfl ?_
   obtain ⟨H6,fH6,kH6⟩:=j6 (kn:=kn) (lo:=lo) (H:=H5) (hk.sl0 hs) hl hn (by omega) (F:=61) (g:=fun i=>WA (l.getD i Tp.z)) (fun i hi=>yX (WL hal (by omega))) (fun i hi H9 k9=>by
    obtain ⟨H8,f8,k8⟩:=Zc5 (kn:=kn) (lo:=lo) (H:=H9) (WL (z:=Tp.z) hal (show i < l.length by omega))
    exact ⟨H8,ZW rfl (by simpa using f8),k8⟩)
   refine Zr (v:=iv (smT n fun i=>WA (l.getD i Tp.z))) (vs:=[.slice sa n cap,.func (.func 61) #[] #[]]) rfl (Zk fH6) ?_
   have mH6:=kH6.1
   have hk:=hk.trans kH6
   have c1:=kH6.cl c1 (by simp)
   refine Zg (v:=.agg #[iv (smT n fun i=>Xm (l.getD i Tp.z)),iv (smT n fun i=>WA (l.getD i Tp.z))]) rfl (by kernel_rfl)<|YS (b:=H.next) (o:=0) rfl rfl c1 (by omega) rfl rfl (by simp) ?_
   intro H7 kH7 nH7 sH7
   have mH7:=kH7.1
   have hk:=hk.new kH7 (fun b hb=>by simp at hb ⊢;omega)
   have c1:Cl H7 H.next [iv (smT n fun i=>Xm (l.getD i Tp.z)),iv (smT n fun i=>WA (l.getD i Tp.z))]:=sH7
   refine Za rfl<|Zb ?_
   have hpe:=Zck (l:=l) (by omega) hal
   exact And.intro trivial (Exists.intro _ (And.intro (Qb rfl a46 ju rfl c1 rfl) ⟨by rw [hpe.1,hpe.2.1,hpe.2.2];rw [hl];rfl,hk⟩))
set_option maxHeartbeats 1000000 in
theorem Qs {l:List Tp} {sa:Option Addr} {n cap:Nat} (hs:Sl H sa n cap (tpc l)) (hl:l.length=n) (hn:n≤1000) (hlo:lo≤H.next):∃ H',FnX Try.prog kn lo 30 [.slice sa n cap] H (.tuple #[.agg #[iv (peL l),iv (peH l)],iv (peE l)]) H'∧Zf H H' []:=by
 have key:=Zs (kn:=kn) (lo:=lo) (H:=H) (args:=[.slice sa n cap]) (Q:=fun w H'=>w=(.tuple #[.agg #[iv (peL l),iv (peH l)],iv (peE l)])∧Zf H H' []) Try.func30 B30 N30 Z30 L30 (by simp) ?_
 ·obtain ⟨w,H',h,rfl,q⟩:=key;exact ⟨H',h,q⟩
 have hk:=Zf.refl H []
 refine Zd<|Y8 ?_
 intro H1 kH1 nH1 c1
 have c1:Cl H1 H.next [iv 0,iv 0]:=c1
 have mH1:=kH1.1
 have hk:=hk.trans kH1
 refine Za rfl<|Zb<|Zd<|Za rfl<|YI (m:=n) rfl<|Ul (a:=(n:Int)) (b:=64) rfl rfl<|Zb ?_
 refine And.intro (fun q1=>?_) (fun q1=>?_)
 ·have q1:(n:Int) > 64:=of_decide_eq_true q1
  refine Zd<|Zg (v:=.agg #[iv 0,iv 0]) rfl (by kernel_rfl)<|YS (b:=H.next) (o:=0) rfl rfl c1 (by omega) rfl rfl (by simp) ?_
  intro H2 kH2 nH2 sH2
  have mH2:=kH2.1
  have hk:=hk.new kH2 (fun b hb=>by simp at hb ⊢;omega)
  have c1:Cl H2 H.next [iv 0,iv 0]:=sH2
  refine Za rfl<|Zb ?_
  have hpe:=qD (l:=l) (by omega)
  exact And.intro trivial (Exists.intro _ (And.intro (Qb rfl a46 ju rfl c1 rfl) ⟨by rw [hpe.1,hpe.2.1,hpe.2.2];rfl,hk⟩))
 ·have q1:¬ ((n:Int) > 64):=of_decide_eq_false q1
  first | refine ZE ?_ | skip
  refine Zd<|Y8 ?_
  intro H3 kH3 nH3 c3
  have c3:Cl H3 H1.next [iv 0,iv 0]:=c3
  have mH3:=kH3.1
  have hk:=hk.trans kH3
  have c1:=kH3.cl c1 (by simp)
  refine Zb<|Zd<|Za rfl<|Zb ?_
  refine YO (fn:=Try.f30) ZeF N30 Zec (fun i:Nat=>[(0,.slice sa n cap),(2,pt H.next),(4,pt H1.next),(5,iv (i:Int))])
   (fun k i H'=>i+k=n∧Zf H H' []∧(∀ j,j < i→vT (l.getD j Tp.z)=true)∧Cl H' (H.next) [iv 0,iv 0]∧Cl H' (H1.next) [iv (smT i fun i=>Xm (l.getD i Tp.z)),iv (smT i fun i=>WA (l.getD i Tp.z))]) n 0 ⟨by omega,hk,fun j h=>absurd h (by omega),c1,c3⟩ ⟨rfl,rfl,rfl,rfl,trivial⟩ ?_
  rintro k i L1 ⟨hik,hk,hall,d2,d4⟩
  have mk:=hk.1
  refine Zd<|Za rfl<|Za rfl<|YI (m:=n) rfl<|YY (a:=(i:Int)) (b:=(n:Int)) rfl rfl<|Zb ?_
  refine And.intro (fun q2=>?_) (fun q2=>?_)
  ·have q2:(i:Int) < (n:Int):=of_decide_eq_true q2
   have hi:i < n:=by omega
   have ss0:=hk.sl0 hs
   rcases id ss0 with ⟨_,h0s,_⟩ | ⟨sb,es,rs,_⟩
   ·omega
   have ls:=rs.1
   have lsb:=hs.old sb es
   have hs1:=yR (n:=i) (g:=fun i=>Xm (l.getD i Tp.z)) fun j hj=>yO (hall j hj)
   have hs2:=yR (n:=i) (g:=fun i=>WA (l.getD i Tp.z)) fun j hj=>yX (hall j hj)
   first | refine ZE ?_ | skip
   refine Zd<|Za rfl<|Za rfl<|Xz (b:=sb) (o:=0) (k:=i) (j:=(i:Int)) (by rw [← es];rfl) rfl rfl hi<|Yo (b:=sb) (o:=0+i * 3) rfl rs (Uk (by omega))<|ZM rfl (ZbF (t:=l.getD i Tp.z)) ?_
   intro tH4 H4 hH4 kH4
   have mH4:=kH4.1
   have hk:=hk.trans kH4
   have d2:=kH4.cl d2 (by simp)
   have d4:=kH4.cl d4 (by simp)
   have rs:=kH4.rd rs (by simp)
   cases tH4
   ·have hbad:=hH4
    refine Zg (v:=.bool true) rfl rfl<|Zb<|YC<|Zd<|Zg (v:=.agg #[iv 0,iv 0]) rfl (by kernel_rfl)<|YS (b:=H.next) (o:=0) rfl rfl d2 (by omega) rfl rfl (by simp) ?_
    intro H5 kH5 nH5 sH5
    have mH5:=kH5.1
    have hk:=hk.new kH5 (fun b hb=>by simp at hb ⊢;omega)
    have d4:=kH5.cl d4 (by first | (simp;done) | (simp;omega))
    have rs:=kH5.rd rs (by first | (simp;done) | (simp;omega))
    have d2:Cl H5 H.next [iv 0,iv 0]:=sH5
    refine Za rfl<|Zb ?_
    have hal:l.all vT=false:=Zab (z:=Tp.z) (i:=i) (by omega) hbad
    have hpe:=j9 (l:=l) (by omega) hal
    exact And.intro trivial (Exists.intro _ (And.intro (Qb rfl a46 ju rfl d2 rfl) ⟨by rw [hpe.1,hpe.2.1,hpe.2.2];rfl,hk⟩))
   ·have hgood:vT (l.getD i Tp.z)=true:=hH4
    have hvt:=Zar hgood
    have hm1:=yX hgood
    have hm2:=yO hgood
    unfold WA at hm1
    refine Zg (v:=.bool false) rfl rfl<|Zb<|YE ?_
    first | refine ZE ?_ | skip
    refine Wf<|Zz (b:=H1.next) (o:=0) rfl<|Z8 (b:=H1.next) (o:=1) (v:=iv (smT i fun i=>WA (l.getD i Tp.z))) rfl d4.rd rfl<|ZJ rfl<|ZJ rfl<|XR (b:=sb) (o:=0) (k:=i) (j:=(i:Int)) (by rw [← es];rfl) rfl rfl hi<|Zz (b:=sb) (o:=0+i * 3) rfl<|Z8 (b:=sb) (o:=0+i * 3) (v:=iv ((l.getD i Tp.z).c)) rfl rs (UD (l:=l) (i:=i) (j:=0) (by omega) rfl)<|Q3 (a:=(l.getD i Tp.z).c) (b:=1) rfl rfl ⟨by omega,by omega⟩<|Zaj (a:=((l.getD i Tp.z).c)+1) (b:=1000) rfl rfl ⟨by omega,by omega⟩<|Q2 (a:=(((l.getD i Tp.z).c)+1) * 1000) (b:=1) rfl rfl ⟨by omega,by omega⟩<|ZJ rfl<|ZJ rfl<|XR (b:=sb) (o:=0) (k:=i) (j:=(i:Int)) (by rw [← es];rfl) rfl rfl hi<|Zz (b:=sb) (o:=0+i * 3) rfl<|Zz (b:=sb) (o:=0+i * 3+1) rfl<|Z8 (b:=sb) (o:=0+i * 3+1) (v:=iv ((l.getD i Tp.z).l)) rfl rs (UD (l:=l) (i:=i) (j:=1) (by omega) rfl)<|Zay (a:=((((l.getD i Tp.z).c)+1) * 1000) - 1) (b:=(l.getD i Tp.z).l) rfl rfl (by omega) (by omega) ⟨by omega,by omega⟩<|Q3 (a:=(smT i fun i=>WA (l.getD i Tp.z))) (b:=(((((l.getD i Tp.z).c)+1) * 1000) - 1) / ((l.getD i Tp.z).l)) rfl rfl ⟨by omega,by omega⟩<|Zz (b:=H1.next) (o:=0) rfl<|qC (b:=H1.next) (o:=1) rfl rfl d4 (by omega) rfl rfl (by simp) ?_
    intro H6 kH6 nH6 sH6
    have mH6:=kH6.1
    have hk:=hk.new kH6 (fun b hb=>by simp at hb ⊢;omega)
    have d2:=kH6.cl d2 (by first | (simp;done) | (simp;omega))
    have rs:=kH6.rd rs (by first | (simp;done) | (simp;omega))
    have d4:Cl H6 H1.next [iv (smT i fun i=>Xm (l.getD i Tp.z)),iv ((smT i fun i=>WA (l.getD i Tp.z))+((((((l.getD i Tp.z).c)+1) * 1000) - 1) / ((l.getD i Tp.z).l)))]:=sH6
    refine Y7 (by repeat' first | exact True.intro | exact (fun h=>h) | refine And.intro ?_ ?_ | (intro h;have h:(_:Nat)=_:=h;omega)) ?_
    refine Zd<|Za rfl<|Za rfl<|Xz (b:=sb) (o:=0) (k:=i) (j:=(i:Int)) (by rw [← es];rfl) rfl rfl hi<|Zq (b:=sb) (o:=0+i * 3) rfl<|ZG (b:=sb) (o:=0+i * 3) (v:=iv ((l.getD i Tp.z).c)) rfl rs (UD (l:=l) (i:=i) (j:=0) (by omega) rfl)<|Ul (a:=(l.getD i Tp.z).c) (b:=0) rfl rfl<|Zb ?_
    refine And.intro (fun q3=>?_) (fun q3=>?_)
    ·have q3:((l.getD i Tp.z).c) > 0:=of_decide_eq_true q3
     have hfe:Xm (l.getD i Tp.z)=((l.getD i Tp.z).c - 1) * 1000 / (l.getD i Tp.z).h+1:=by unfold Xm;rw [if_neg (by omega)]
     rw [hfe] at hm2
     first | refine QK ?_ | refine qx ?_ | refine j5 ?_ | (refine zu ?_;refine QK ?_)
     refine Zz (b:=H1.next) (o:=0) rfl<|Z8 (b:=H1.next) (o:=0) (v:=iv (smT i fun i=>Xm (l.getD i Tp.z))) rfl d4.rd rfl<|ZJ rfl<|ZJ rfl<|XR (b:=sb) (o:=0) (k:=i) (j:=(i:Int)) (by rw [← es];rfl) rfl rfl hi<|Zz (b:=sb) (o:=0+i * 3) rfl<|Z8 (b:=sb) (o:=0+i * 3) (v:=iv ((l.getD i Tp.z).c)) rfl rs (UD (l:=l) (i:=i) (j:=0) (by omega) rfl)<|Q2 (a:=(l.getD i Tp.z).c) (b:=1) rfl rfl ⟨by omega,by omega⟩<|Zaj (a:=((l.getD i Tp.z).c) - 1) (b:=1000) rfl rfl ⟨by omega,by omega⟩<|ZJ rfl<|ZJ rfl<|XR (b:=sb) (o:=0) (k:=i) (j:=(i:Int)) (by rw [← es];rfl) rfl rfl hi<|Zz (b:=sb) (o:=0+i * 3) rfl<|Zz (b:=sb) (o:=0+i * 3+1) rfl<|Z8 (b:=sb) (o:=0+i * 3+2) (v:=iv ((l.getD i Tp.z).h)) rfl rs (UD (l:=l) (i:=i) (j:=2) (by omega) rfl)<|Zay (a:=(((l.getD i Tp.z).c) - 1) * 1000) (b:=(l.getD i Tp.z).h) rfl rfl (by omega) (by omega) ⟨by omega,by omega⟩<|Q3 (a:=(smT i fun i=>Xm (l.getD i Tp.z))) (b:=((((l.getD i Tp.z).c) - 1) * 1000) / ((l.getD i Tp.z).h)) rfl rfl ⟨by omega,by omega⟩<|Q3 (a:=(smT i fun i=>Xm (l.getD i Tp.z))+(((((l.getD i Tp.z).c) - 1) * 1000) / ((l.getD i Tp.z).h))) (b:=1) rfl rfl ⟨by omega,by omega⟩<|Zz (b:=H1.next) (o:=0) rfl<|qC (b:=H1.next) (o:=0) rfl rfl d4 (by omega) rfl rfl (by simp) ?_
     intro H7 kH7 nH7 sH7
     have mH7:=kH7.1
     have hk:=hk.new kH7 (fun b hb=>by simp at hb ⊢;omega)
     have d2:=kH7.cl d2 (by first | (simp;done) | (simp;omega))
     have rs:=kH7.rd rs (by first | (simp;done) | (simp;omega))
     have d4:Cl H7 H1.next [iv (((smT i fun i=>Xm (l.getD i Tp.z))+(((((l.getD i Tp.z).c) - 1) * 1000) / ((l.getD i Tp.z).h)))+1),iv ((smT i fun i=>WA (l.getD i Tp.z))+((((((l.getD i Tp.z).c)+1) * 1000) - 1) / ((l.getD i Tp.z).l)))]:=sH7
     refine Y7 (by repeat' first | exact True.intro | exact (fun h=>h) | refine And.intro ?_ ?_ | (intro h;have h:(_:Nat)=_:=h;omega)) ?_
     show Zw _ _ _ _ _ _ _ _
     refine Za rfl<|YK (a:=(i:Int)) (b:=1) rfl rfl ⟨by omega,by omega⟩<|Za rfl<|Zb ?_
     have hd4:Cl H7 H1.next [iv (smT (i+1) fun i=>Xm (l.getD i Tp.z)),iv (smT (i+1) fun i=>WA (l.getD i Tp.z))]:=by
      have e1:smT (i+1) (fun i=>Xm (l.getD i Tp.z))=((smT i fun i=>Xm (l.getD i Tp.z))+(((((l.getD i Tp.z).c) - 1) * 1000) / ((l.getD i Tp.z).h)))+1:=by show smT i _+Xm (l.getD i Tp.z)=_;rw [hfe];omega
      rw [e1];exact d4
     exact ⟨k - 1,i+1,by omega,⟨by omega,hk,fun j hj=>by rcases Nat.lt_or_ge j i with c | c;exact hall j c;rw [show j=i by omega];exact hgood,d2,hd4⟩,rfl,rfl,rfl,rfl,trivial⟩
    ·have q3:¬ (((l.getD i Tp.z).c) > 0):=of_decide_eq_false q3
     have hfe:Xm (l.getD i Tp.z)=0:=by unfold Xm;rw [if_pos (by omega)]
     first | refine ZE ?_ | skip
     show Zw _ _ _ _ _ _ _ _
     refine Za rfl<|YK (a:=(i:Int)) (b:=1) rfl rfl ⟨by omega,by omega⟩<|Za rfl<|Zb ?_
     have hd4:Cl H6 H1.next [iv (smT (i+1) fun i=>Xm (l.getD i Tp.z)),iv (smT (i+1) fun i=>WA (l.getD i Tp.z))]:=by
      have e1:smT (i+1) (fun i=>Xm (l.getD i Tp.z))=(smT i fun i=>Xm (l.getD i Tp.z)):=by show smT i _+Xm (l.getD i Tp.z)=_;rw [hfe];omega
      rw [e1];exact d4
     exact ⟨k - 1,i+1,by omega,⟨by omega,hk,fun j hj=>by rcases Nat.lt_or_ge j i with c | c;exact hall j c;rw [show j=i by omega];exact hgood,d2,hd4⟩,rfl,rfl,rfl,rfl,trivial⟩
  ·have q2:¬ ((i:Int) < (n:Int)):=of_decide_eq_false q2
   first | (refine Ve ?_;show wC _ _ _ _ _ _ _ _ _) | skip
   refine Zd<|Yo (b:=H1.next) (o:=0) rfl d4.rd (show row 2 _ _=some [iv (smT i fun i=>Xm (l.getD i Tp.z)),iv (smT i fun i=>WA (l.getD i Tp.z))] from rfl)<|YS (b:=H.next) (o:=0) rfl rfl d2 (by omega) rfl rfl (by simp) ?_
   intro H8 kH8 nH8 sH8
   have mH8:=kH8.1
   have hk:=hk.new kH8 (fun b hb=>by simp at hb ⊢;omega)
   have d4:=kH8.cl d4 (by first | (simp;done) | (simp;omega))
   have d2:Cl H8 H.next [iv (smT i fun i=>Xm (l.getD i Tp.z)),iv (smT i fun i=>WA (l.getD i Tp.z))]:=sH8
   refine Za rfl<|Zb ?_
   have hal:l.all vT=true:=qr (z:=Tp.z) fun j hj=>hall j (by omega)
   have ein:i=l.length:=by omega
   have hpe:=Zck (l:=l) (by omega) hal
   exact And.intro trivial (Exists.intro _ (And.intro (Qb rfl a46 ju rfl d2 rfl) ⟨by rw [hpe.1,hpe.2.1,hpe.2.2];rw [← ein];rfl,hk⟩))
end
end
end Go.Ax

/-! Drawn regions whose values are told by the run: calls that come to one of several ends. Pieces of code over the machine. -/
namespace Go.Ax
open Go Go.RowKit
section
variable {P:Program} {kn:Kn} {lo n:Nat} {rd:Bool}
end
end Go.Ax

/-! Sets of jobs as_ bits (no program in it). -/
namespace Go.Ax
def pc8 (s:Nat):Nat:=((List.range 8).filter fun k=>s.testBit k).length
theorem jo {p:Nat→Int} {d:Int} {j:Nat}:∀ {m:Nat},j≤m→((List.range m).filter fun k=>decide (k < j) && decide (p k=d)).length=cnQ j p d:=by
 intro m h
 induction h with
 | refl=>
  unfold cnQ
  congr 1
  apply List.filter_congr
  intro k hk
  have:=List.mem_range.1 hk
  simp [this]
 | step h ih=>
  rename_i m
  rw [List.range_succ,List.filter_append,List.length_append,ih]
  have:¬ m < j:=by have:j≤m:=h;omega
  simp [this]
theorem Zca {s j:Nat} {p:Nat→Int} {d:Int} (h:∀ b,s.testBit b=true↔b < j∧p b=d) (hj:j≤8):pc8 s=cnQ j p d:=by
 rw [← jo hj]
 unfold pc8
 congr 1
 apply List.filter_congr
 intro k _
 rw [Bool.eq_iff_iff,h k]
 simp
def JR (j:Nat) (B p:Nat→Int) (cr bed d:Int) (s:Nat):Prop:=
 (∃ k,k < j∧B k=bed∧p k=d∧s=2 ^ k)∨
  ((∀ k,k < j→B k=bed→p k≠d)∧∃ t,(∀ b,t.testBit b=true↔b < j∧p b=d)∧t < 256∧s=if (cnQ j p d:Int) < cr then 0 else t)
section
variable {n j:Nat} {D:Nat→List Int} {B p q:Nat→Int} {cr lim d:Int} {s:Nat}
theorem JR.lt (h:JR j B p cr (B j) d s) (hj:j≤8):s < 256:=by
 rcases h with ⟨k,hk,_,_,rfl⟩ | ⟨_,t,_,h2,rfl⟩
 ·exact Nat.lt_of_lt_of_le (Nat.pow_lt_pow_right (by omega) (by omega:k < 8)) (by decide)
 ·split<;>omega
theorem JR.low (h:JR j B p cr (B j) d s):∀ b,s.testBit b=true→b < j:=by
 intro b hb
 rcases h with ⟨k,hk,_,_,rfl⟩ | ⟨_,t,h1,_,rfl⟩
 ·rw [Nat.testBit_two_pow] at hb;have:=of_decide_eq_true hb;omega
 ·split at hb
  ·rw [Nat.zero_testBit] at hb;cases hb
  ·exact ((h1 b).1 hb).1
theorem JR.no (h:JR j B p cr (B j) d s) (hj:j < n) (hs:s≠0) (hq:OkQ n D B cr lim q) (ha:∀ b,s.testBit b=true→q b=p b):q j≠d:=by
 rcases h with ⟨k,hk,h1,h2,rfl⟩ | ⟨_,t,h1,_,rfl⟩
 ·exact jG hk hj h1 h2 hq (ha k (by rw [Nat.testBit_two_pow];simp))
 ·by_cases c:(cnQ j p d:Int) < cr
  ·rw [if_pos c] at hs;exact absurd rfl hs
  ·rw [if_neg c] at ha
   exact qf hj (by omega) hq fun b hb hp=>ha b ((h1 b).2 ⟨hb,hp⟩)
theorem JR.yes (h:JR j B p cr (B j) d 0) (hcr:1≤cr):(∀ k,k < j→B k=B j→p k≠d)∧(cnQ j p d:Int) < cr:=by
 rcases h with ⟨k,hk,h1,h2,e⟩ | ⟨h0,t,h1,_,e⟩
 ·have:=Nat.pow_pos (n:=k) (show 0 < 2 by omega);omega
 ·refine ⟨h0,?_⟩
  by_cases c:(cnQ j p d:Int) < cr
  ·exact c
  ·exfalso
   rw [if_neg c] at e
   have hz:∀ b,b < j→p b≠d:=fun b hb hp=>by
    have:=(h1 b).2 ⟨hb,hp⟩
    rw [← e,Nat.zero_testBit] at this;cases this
   have:cnQ j p d=0:=by
    unfold cnQ
    rw [List.length_eq_zero_iff,List.filter_eq_nil_iff]
    intro k hk
    have:=hz k (List.mem_range.1 hk)
    simp [this]
   omega
theorem XG.riv {i s2:Nat} (h:XG n D B cr lim j p (fun b=>s.testBit b) i) (hi:i < (D j).length) (hj:j < n) (hr:JR j B p cr (B j) ((D j).getD i 0) s2) (h0:s2≠0):XG n D B cr lim j p (fun b=>(s ||| s2).testBit b) (i+1):=by
 refine h.next hi (fun b hb=>?_) (fun b hb=>?_) fun q hq ha=>hr.no hj h0 hq fun b hb=>ha b ?_
 ·show (s ||| s2).testBit b=true
  rw [Nat.testBit_or,show s.testBit b=true from hb];rfl
 ·have hb:(s ||| s2).testBit b=true:=hb
  rw [Nat.testBit_or,Bool.or_eq_true] at hb
  rcases hb with hb | hb
  ·exact h.1 b hb
  ·exact hr.low b hb
 ·show (s ||| s2).testBit b=true
  rw [Nat.testBit_or,hb,Bool.or_true]
end
end Go.Ax

/-
 Pool: maps whose keys are two numbers;drawn regions (written by program).
-/
namespace Go.Ax
open Go Go.RowKit Go.Proofs

noncomputable section
section
variable {P:Program} {kn:Kn} {lo n:Nat} {α:Type} [DecidableEq α] {enc:α→Value} {masks:List Nat} {ks:List Kd} {r:List RO} {S:Rg} {H:Hp} {K:Rg→Hp→Prop} {d:Option Nat}
theorem Zbf {o:Oper} {H':Hp} {b:Nat} (hd:Wd S o.op.operands.toList=true) (hp:Zn P (frS n S) o=none) (hh:Zt P lo (frS n S) H o=some (.skip H',.store b))
  (h:Zu P kn lo n masks r (.store b :: ks) (Zv S d undef) H' K):Zu P kn lo n masks (⟨d,none,.mst o⟩ :: r) ks S H K:=⟨hd,hp,H',.store b,hh,h⟩
theorem jp {tm tk te:TypeId} (k:Xb P tk enc) (hu:P.underlying tm=some (.map tk te)) {b c:Nat} {L:ML α} {a:α} {v:Value} (hm:Mpa enc H b L c) (hl:lo≤b) (hf:flat v=true) :
  ∃ H',(∀ (S:Rg) (n:Nat) x y w dd ty p,evS S x=some (.map (some b))→evS S y=some (enc a)→evS S w=some v→Zt P lo (frS n S) H ⟨dd,.mapUpdate tm x y w,ty,p,#[],none⟩=some (.skip H',.store b))∧Zf H H' [b]∧H'.next=H.next∧Mpa enc H' b (Y1 a v c L) (YV a c L):=by
 obtain ⟨k1,k2⟩:=Vk (H:=H) (b:=b) (o:=.mp (mEs enc (Y1 a v c L)) (YV a c L)) (fun cs e=>by cases e)
 exact ⟨_,fun S n x y w dd ty p hx hy hw=>ZaJ k hu hx hy hw hm hl hf,k1,rfl,hm.1,k2⟩
end
theorem Qi {P:Program} {d:Nat} {t:TypeId} {xs ys:Array Value} {fs:Array Field} (hu:Zy P (underlying t)=some (.struct fs)) (hp:P.stoodInHeld t=false) (g:Field→Bool)
  (hf : ∀ f ∈ fs.toList, f.name ≠ "_" ∧ ∃ u v, Zy P (part f.type xs f.offset) = some u ∧ Zy P (part f.type ys f.offset) = some v ∧ Zy P (Op.equalIn d f.type u v) = some (g f)) :
  Zy P (Op.equalIn (d+1) t (.agg xs) (.agg ys))=some (fs.toList.all g):=by
 simp only [Op.equalIn,YF,hu,Option.bind_some,show Zy P program=some P from rfl,hp,Bool.false_eq_true,if_false]
 rw [← Array.forIn_toList]
 generalize fs.toList=l at hf
 induction l with
 | nil=>rfl
 | cons f l ih=>
  obtain ⟨hn,u,v,h1,h2,h3⟩:=hf f (by simp)
  have ih:=ih (fun g hg=>hf g (by simp [hg]))
  simp only [List.forIn_cons,YF,ZcU]
  rw [if_pos hn]
  cases hg:g f with
  | true=>
   simp only [h1,h2,h3,hg,Option.bind_some,Bool.not_true,Bool.false_eq_true,if_false,Xu,List.all_cons,Bool.true_and]
   exact ih
  | false=>
   simp only [h1,h2,h3,hg,Option.bind_some,Bool.not_false,if_true,Xu,List.all_cons,Bool.false_and]
theorem JF {d:Nat} {x y:Int}:Zy Try.prog (Op.equalIn (d+1) 3 (iv x) (iv y))=some (decide (x=y)):=by
 have h:Zy Try.prog (Op.equalIn (d+1) 3 (iv x) (iv y))=some (x == y):=by kernel_rfl
 rw [h]
 by_cases e:x=y<;>simp [e]
def VF (P:Program) (t:TypeId):Array Field:=
 match P.underlying t with
 | some (.struct fs)=>fs
 | _=>#[]
theorem all_map {β γ:Type} (l:List β) (f:β→γ) (g:γ→Bool):l.all (fun x=>g (f x))=(l.map f).all g:=by
 induction l with
 | nil=>rfl
 | cons a l ih=>simp [ih]
theorem KQ:Try.prog.underlying 121=some (.map 123 3):=by kernel_rfl
theorem ZcX:Try.prog.underlying 125=some (.map 130 3):=by kernel_rfl
theorem zM:Zy Try.prog (zeroValue 3)=some (iv 0):=by kernel_rfl
abbrev Se:=Int × Int
def seV (p:Se):Value:=.agg #[iv p.1,iv p.2]
theorem Zcm (l:List Int):Instr.sameBits 10000 (.agg (l.map iv).toArray) (.agg (l.map iv).toArray)=true:=by
 show ((l.map iv).toArray.size == (l.map iv).toArray.size && ((l.map iv).toArray.toList.zip (l.map iv).toArray.toList).all fun (x:Value × Value)=>Instr.sameBits 9999 x.1 x.2)=true
 rw [beq_self_eq_true,Bool.true_and]
 simp only []
 induction l with
 | nil=>rfl
 | cons a l ih=>
  simp only [List.map_cons,List.zip_cons_cons,List.all_cons]
  rw [ih,Bool.and_true]
  show (IntKind.i64 == IntKind.i64 && a == a)=true
  simp
theorem Zap:Try.prog.underlying 123=some (.struct (VF Try.prog 123)):=by kernel_rfl
theorem Zch : (VF Try.prog 123).toList.map (fun f => (f.type, f.offset, f.name == "_")) = [(3, 0, false), (3, 1, false)] := by kernel_rfl
theorem ZdV:Program.stoodInHeld Try.prog 123=false:=by kernel_rfl
set_option maxRecDepth 100000 in
theorem ZeA {d:Nat} (a b:Se):Zy Try.prog (Op.equalIn (d+2) 123 (seV a) (seV b))=some (decide (a=b)):=by
 have h:=Qi (d:=d+1) (xs:=#[iv a.1,iv a.2]) (ys:=#[iv b.1,iv b.2]) (X2 Zap) ZdV
  (fun f => (fun q : TypeId × Nat × Bool => if q.2.1 = 0 then decide (a.1 = b.1) else decide (a.2 = b.2)) (f.type, f.offset, f.name == "_")) (by
   intro f hf
   have h : (f.type, f.offset, f.name == "_") ∈ [(3, 0, false), (3, 1, false)] := by rw [← Zch]; exact List.mem_map.mpr ⟨f, hf, rfl⟩
   simp only [List.mem_cons,List.not_mem_nil,or_false,Prod.mk.injEq] at h
   rcases h with ⟨h1,h2,h3⟩ | ⟨h1,h2,h3⟩<;>(refine ⟨by intro e;rw [e] at h3;simp at h3,?_⟩;rw [h1,h2])
   ·exact ⟨iv a.1,iv b.1,by kernel_rfl,by kernel_rfl,JF⟩
   ·exact ⟨iv a.2,iv b.2,by kernel_rfl,by kernel_rfl,JF⟩)
 rw [all_map (VF Try.prog 123).toList (fun f => (f.type, f.offset, f.name == "_")) (fun q : TypeId × Nat × Bool => if q.2.1 = 0 then decide (a.1 = b.1) else decide (a.2 = b.2)), Zch] at h
 unfold seV
 rw [show d+2=d+1+1 from rfl,h]
 congr 1
 obtain ⟨a1,a2⟩:=a
 obtain ⟨b1,b2⟩:=b
 by_cases e1:a1=b1<;>by_cases e2:a2=b2<;>simp [e1,e2]
theorem zg:Xb Try.prog 123 seV where
 fl:=fun _=>rfl
 chk:=fun a e=>by
  have:∀ x y:Int,Zy Try.prog (Instr.checkKey e 10000 123 (.agg #[iv x,iv y]))=some ():=fun x y=>by kernel_rfl
  exact this _ _
 now:=⟨_,Zap,.inr ⟨fun _ _=>rfl,fun a b=>ZeA (d:=9998) a b⟩⟩
 bits:=fun a=>Zcm [a.1,a.2]
theorem jO:Try.prog.underlying 130=some (.struct (VF Try.prog 130)):=by kernel_rfl
theorem Zcj : (VF Try.prog 130).toList.map (fun f => (f.type, f.offset, f.name == "_")) = [(3, 0, false), (3, 1, false)] := by kernel_rfl
theorem Zd1:Program.stoodInHeld Try.prog 130=false:=by kernel_rfl
set_option maxRecDepth 100000 in
theorem Zeg {d:Nat} (a b:Se):Zy Try.prog (Op.equalIn (d+2) 130 (seV a) (seV b))=some (decide (a=b)):=by
 have h:=Qi (d:=d+1) (xs:=#[iv a.1,iv a.2]) (ys:=#[iv b.1,iv b.2]) (X2 jO) Zd1
  (fun f => (fun q : TypeId × Nat × Bool => if q.2.1 = 0 then decide (a.1 = b.1) else decide (a.2 = b.2)) (f.type, f.offset, f.name == "_")) (by
   intro f hf
   have h : (f.type, f.offset, f.name == "_") ∈ [(3, 0, false), (3, 1, false)] := by rw [← Zcj]; exact List.mem_map.mpr ⟨f, hf, rfl⟩
   simp only [List.mem_cons,List.not_mem_nil,or_false,Prod.mk.injEq] at h
   rcases h with ⟨h1,h2,h3⟩ | ⟨h1,h2,h3⟩<;>(refine ⟨by intro e;rw [e] at h3;simp at h3,?_⟩;rw [h1,h2])
   ·exact ⟨iv a.1,iv b.1,by kernel_rfl,by kernel_rfl,JF⟩
   ·exact ⟨iv a.2,iv b.2,by kernel_rfl,by kernel_rfl,JF⟩)
 rw [all_map (VF Try.prog 130).toList (fun f => (f.type, f.offset, f.name == "_")) (fun q : TypeId × Nat × Bool => if q.2.1 = 0 then decide (a.1 = b.1) else decide (a.2 = b.2)), Zcj] at h
 unfold seV
 rw [show d+2=d+1+1 from rfl,h]
 congr 1
 obtain ⟨a1,a2⟩:=a
 obtain ⟨b1,b2⟩:=b
 by_cases e1:a1=b1<;>by_cases e2:a2=b2<;>simp [e1,e2]
theorem Je:Xb Try.prog 130 seV where
 fl:=fun _=>rfl
 chk:=fun a e=>by
  have:∀ x y:Int,Zy Try.prog (Instr.checkKey e 10000 130 (.agg #[iv x,iv y]))=some ():=fun x y=>by kernel_rfl
  exact this _ _
 now:=⟨_,jO,.inr ⟨fun _ _=>rfl,fun a b=>Zeg (d:=9998) a b⟩⟩
 bits:=fun a=>Zcm [a.1,a.2]
section
variable {P:Program} {kn:Kn} {lo n:Nat}
theorem zc {rd:Bool} {x y:RC} {S:Rg} {H:Hp} {K:Exit→Rg→Hp→Prop} (h:wCM P kn lo n rd x S H fun e S' H'=>match e with | .normal=>wCM P kn lo n rd y S' H' K | e=>K e S' H'):wCM P kn lo n rd (.seq x y) S H K:=h
theorem Zaq {rd:Bool} {id:Nat} {b:RC} {S:Rg} {H:Hp} {K:Exit→Rg→Hp→Prop} (h:wCM P kn lo n rd b S H fun e S' H'=>match e with | .exit j=>(bif Nat.beq j id then K .normal S' H' else K (.exit j) S' H') | e=>K e S' H'):wCM P kn lo n rd (.block id b) S H K:=h
theorem WF {o:RO} {S:Rg} {H:Hp} {K:Rg→Hp→Prop} (h:Zo P kn lo n [o] S H K):XF P kn lo n S H o K:=h
theorem Za9 {rd:Bool} {ops:List RO} {ms:List Nat} {S:Rg} {H:Hp} {K:Exit→Rg→Hp→Prop} (h:wDI P kn lo n ms ops S H fun S' H'=>K .normal S' H'):wCM P kn lo n rd (.dreg ops ms) S H K:=.inr (.inr h)
theorem KD.own {ops:List RO} {V:Nat→Value} {done:Nat→Bool} {S S':Rg} (h:KD ops V done S S') (i:Nat) {d:Nat} {v:Value} (hi:(ops[i]?).map (·.dst)=some (some d)) (hd:done i=true) (hv:V i=v):lk S' d=some v:=by
 cases ho:ops[i]? with
 | none=>rw [ho] at hi;cases hi
 | some o=>rw [ho] at hi;rw [← hv];exact h.1 i o d ho (by simpa using hi) hd
theorem KD.old {ops:List RO} {V:Nat→Value} {done:Nat→Bool} {S S':Rg} (h:KD ops V done S S') {j:Nat} {v:Value} (hv:lk S j=some v) (hj:(ops.all fun o=>!(o.dst == some j))=true):lk S' j=some v:=
 h.2 j v hv fun o ho e=>by have:=List.all_eq_true.1 hj o ho;rw [e] at this;simp at this
end
section
variable {P:Program} {kn:Kn} {lo n:Nat} {r:List RO} {S:Rg} {H:Hp} {K:Rg→Hp→Prop} {d:Option Nat} {rd:Bool} {masks:List Nat}
theorem qH {ops:List RO} {c:RC} {K:Exit→Rg→Hp→Prop} (h:Zu P kn lo n masks ops [] S H fun S' H'=>wCM P kn lo n rd c S' H' K):wCM P kn lo n rd (.seq (.dreg ops masks) c) S H K:=.inl h
theorem zB (s:Snd P kn) {c:Call} {f:FuncId} {v:Value} {args:List Value} {t0:Bool} (ht:Xt S c=some (.fn (.func f) #[],v :: args)) (h:∃ H',FnX P kn lo f (v :: args) H (.bool t0) H'∧Zf H H' [])
  (hk:∀ t H',t0=t→Zf H H' []→Zo P kn lo n r (Zv S d (.bool t)) H' K) (hs:XQ f=false:=by rfl):Zo P kn lo n (⟨d,none,.call c true⟩ :: r) S H K:=by
 obtain ⟨H',hf,k⟩:=h
 exact Z1 s ht (Zk hf hs) (hk t0 H' rfl k)
end
theorem Kz {done:Nat→Bool} {i j:Nat} (h:done j=true):Qd done i j=true:=by
 unfold Qd;rw [h];cases Nat.beq j i<;>rfl
theorem Kh {done:Nat→Bool} {i:Nat}:Qd done i i=true:=by
 unfold Qd;rw [Nat.beq_refl];rfl
theorem Wu {done:Nat→Bool} {i n:Nat} (hi:Nat.beq n i=false) (h:done n=true→∀ j,j < n→done j=true):Qd done i n=true→∀ j,j < n→Qd done i j=true:=by
 intro q j hj
 unfold Qd at q
 rw [hi] at q
 exact Kz (h q j hj)
theorem qK {done:Nat→Bool} {st:Nat} (hall:done st=true→∀ j,j < st→done j=true) (i:Nat) (hi:i < st) (h:done i=false):done st=false:=by
 cases q:done st with
 | false=>rfl
 | true=>rw [hall q i hi] at h;cases h
theorem ZdQ {S:Rg} {x:Operand} {a:Value} (hx:evS S x=some a):Wd S [x]=true:=by simp [Wd,hx]
def Rm (L:ML Se) (R:Se→Int):Prop:=∀ x,(ZQ x L).getD (iv 0)=iv (R x)
def ZbJ (R:Se→Int) (x:Se) (v:Int):Se→Int:=fun y=>if y=x then v else R y
theorem Rm.put {L:ML Se} {R:Se→Int} (h:Rm L R) (x:Se) (v:Int) (c:Nat):Rm (Y1 x (iv v) c L) (ZbJ R x v):=by
 intro y
 rw [QM]
 unfold ZbJ
 split
 ·rfl
 ·exact h y
theorem Rm.congr {L:ML Se} {R R2:Se→Int} (h:Rm L R) (e:∀ x,R x=R2 x):Rm L R2:=fun x=>by rw [h x,e x]
end
end Go.Ax

/-
 Pool: no bed gets a product too often;a yard is valid (74,40) (written by program).
-/
namespace Go.Ax
open Go Go.RowKit Go.Proofs

noncomputable section
def cnU (l:List Jb) (b p:Int):Nat:=(l.filter fun k=>decide (k.b=b) && decide (k.p=p)).length
theorem ZcM {l:List Jb} {j:Jb}:usN l j=cnU l j.b j.p:=rfl
theorem y7 {l:List Jb} {i:Nat} (h:i < l.length):l.take (i+1)=l.take i ++ [l.getD i Jb.z]:=by
 rw [List.take_add_one,List.getElem?_eq_getElem h,List.getD_eq_getElem?_getD,List.getElem?_eq_getElem h];rfl
theorem Zaw {l:List Jb} {i:Nat} {b p:Int} (h:i < l.length):cnU (l.take (i+1)) b p=cnU (l.take i) b p+(if (l.getD i Jb.z).b=b∧(l.getD i Jb.z).p=p then 1 else 0):=by
 unfold cnU
 rw [y7 h,List.filter_append,List.length_append]
 congr 1
 by_cases q:(l.getD i Jb.z).b=b∧(l.getD i Jb.z).p=p
 ·rw [if_pos q,List.filter_cons,if_pos (by simp only [Bool.and_eq_true,decide_eq_true_eq];exact q)];rfl
 ·rw [if_neg q,List.filter_cons,if_neg (by simp only [Bool.and_eq_true,decide_eq_true_eq];exact q)];rfl
theorem Zam {l:List Jb} {i:Nat} {b p:Int}:cnU (l.take i) b p≤cnU l b p:=by
 unfold cnU
 conv=>rhs;rw [← List.take_append_drop i l,List.filter_append,List.length_append]
 omega
theorem ZbV {l:List Jb} {b p:Int}:cnU l b p≤l.length:=List.length_filter_le _ _
def cnR (l:List Jb) (i:Nat) (x:Se):Int:=(cnU (l.take i) x.1 x.2:Nat)
theorem ZdC {l:List Jb} {i:Nat} (h:i < l.length) (x:Se):ZbJ (cnR l i) ((l.getD i Jb.z).b,(l.getD i Jb.z).p) (cnR l i ((l.getD i Jb.z).b,(l.getD i Jb.z).p)+1) x=cnR l (i+1) x:=by
 obtain ⟨b,p⟩:=x
 unfold ZbJ cnR
 rw [Zaw h]
 by_cases q:(l.getD i Jb.z).b=b∧(l.getD i Jb.z).p=p
 ·rw [if_pos q,if_pos (by rw [q.1,q.2]),q.1,q.2];simp
 ·rw [if_neg q,if_neg (fun e=>q ⟨by rw [Prod.mk.injEq] at e;exact e.1.symm,by rw [Prod.mk.injEq] at e;exact e.2.symm⟩)];simp
theorem Zde {l:List Jb} {i:Nat} {x:Se}:0≤cnR l i x∧cnR l i x≤l.length:=by
 unfold cnR
 have:=Zam (l:=l) (i:=i) (b:=x.1) (p:=x.2)
 have:=ZbV (l:=l) (b:=x.1) (p:=x.2)
 omega
def usI (y:Yd) (i:Nat):Prop:=∀ k,k < i→(cnU (y.js.take i) (y.js.getD k Jb.z).b (y.js.getD k Jb.z).p:Int)≤(jP y (y.js.getD k Jb.z)).us
theorem ZeH {y:Yd} {i:Nat} (h:usI y i) (hi:i < y.js.length) (hc:cnR y.js (i+1) ((y.js.getD i Jb.z).b,(y.js.getD i Jb.z).p)≤(jP y (y.js.getD i Jb.z)).us):usI y (i+1):=by
 intro k hk
 rw [Zaw hi]
 by_cases q:(y.js.getD i Jb.z).b=(y.js.getD k Jb.z).b∧(y.js.getD i Jb.z).p=(y.js.getD k Jb.z).p
 ·have e:jP y (y.js.getD k Jb.z)=jP y (y.js.getD i Jb.z):=by unfold jP;rw [q.2]
  rw [e]
  unfold cnR at hc
  rw [Zaw hi] at hc
  simp only [q.1,q.2] at hc ⊢
  exact hc
 ·rw [if_neg q]
  by_cases e:k=i
  ·subst e;exact absurd ⟨rfl,rfl⟩ q
  ·have:=h k (by omega);simpa using this
theorem Zdi {y:Yd} (h:usI y y.js.length):vU y=true:=by
 unfold vU
 refine qr (z:=Jb.z) fun i hi=>?_
 have:=h i hi
 rw [List.take_length] at this
 exact decide_eq_true this
theorem ZeI {y:Yd} {i:Nat} (hi:i < y.js.length) (h:¬ cnR y.js (i+1) ((y.js.getD i Jb.z).b,(y.js.getD i Jb.z).p)≤(jP y (y.js.getD i Jb.z)).us):vU y=false:=by
 unfold vU
 refine Zab (z:=Jb.z) (i:=i) hi (decide_eq_false fun q=>h ?_)
 rw [ZcM] at q
 have:=Zam (l:=y.js) (i:=i+1) (b:=(y.js.getD i Jb.z).b) (p:=(y.js.getD i Jb.z).p)
 have e:cnR y.js (i+1) ((y.js.getD i Jb.z).b,(y.js.getD i Jb.z).p)=(cnU (y.js.take (i+1)) (y.js.getD i Jb.z).b (y.js.getD i Jb.z).p:Nat):=rfl
 rw [e]
 omega
section
variable {kn:Kn} {lo:Nat} {H:Hp}
set_option maxRecDepth 100000 in
set_option maxHeartbeats 1000000 in
theorem Zd4 (s:Snd Try.prog kn) {a:Ya} {y:Yd} (hy:YaH H a y) (hB:YaB y) (hJ:∀ i,i < y.js.length→0≤(y.js.getD i Jb.z).p∧(y.js.getD i Jb.z).p < y.ps.length) (hlo:lo≤H.next) :
  FnM Try.prog lo 74 [.agg (Ya.f a y).toArray] H fun v H'=>v=.bool (vU y)∧Zf H H' []:=by
 refine WG s Try.func74 B74 N74 Z74 L74 (by simp) ?_
 have hk:=Zf.refl H []
 have hB1:=hB.1;have hB4:=hB.2.2.2.1
 refine Zm<|Vl (v:=.agg (Ya.f a y).toArray) rfl ?_
 intro H1 kH1 nH1 c1
 have c1:Cl H1 H.next [.slice a.pa y.ps.length a.pc,.slice a.ba y.bs.length a.bc,.slice a.sa y.ss.length a.sc,.slice a.ja y.js.length a.jc]:=c1
 have mH1:=kH1.1
 have hk:=hk.trans kH1
 refine Ze rfl<|Zi<|Zm<|qs (enc:=seV) ?_
 intro H2 kH2 nH2 mp
 have mH2:=kH2.1
 have hk:=hk.trans kH2
 have c1:=kH2.cl c1 (by simp)
 refine Ze rfl<|Zi<|Zm<|YB (b:=H.next) (o:=0) rfl<|YH (b:=H.next) (o:=3) (v:=.slice a.ja y.js.length a.jc) rfl c1.rd rfl<|Va (m:=y.js.length) rfl<|Ze rfl<|Zi ?_
 have hmb:H1.next < H2.next:=mp.1
 refine VL s (fn:=Try.f74) ZdN N74 ZeG (fun i:Nat=>[(1,pt H.next),(3,.map (some H1.next)),(9,.slice a.ja y.js.length a.jc),(10,iv (y.js.length:Int)),(11,iv (i:Int))])
  (fun k i H'=>i+k=y.js.length∧Zf H H' []∧Cl H' H.next (Ya.f a y)∧(∃ L c,Mpa seV H' (H1.next) L c∧WfA L c∧Rm L (cnR y.js i))∧usI y i) y.js.length 0 ⟨by omega,hk,c1,⟨[],0,mp,WfA.nil,fun x=>rfl⟩,fun k h=>absurd h (by omega)⟩ ⟨rfl,rfl,rfl,rfl,rfl,trivial⟩ ?_
 rintro k i L1 ⟨hik,hk,c1,⟨L,c,mp,hwf,hR⟩,hus⟩
 have mk:=hk.1
 have mc:=c1.1
 have mq:=mp.1
 refine Zm<|Q1 (a:=(i:Int)) (b:=(y.js.length:Int)) rfl rfl<|Zi ?_
 refine And.intro (fun q1=>?_) (fun q1=>?_)
 ·have q1:(i:Int) < (y.js.length:Int):=of_decide_eq_true q1
  have hi:i < y.js.length:=by omega
  have sj0:=(hy.keep hk).j
  rcases id sj0 with ⟨_,h0j,_⟩ | ⟨jb,ej,rj,_⟩
  ·omega
  have lj:=rj.1
  have oj:=hy.j.old jb ej
  have hji:=hJ i hi
  have hcn:=Zde (l:=y.js) (i:=i) (x:=((y.js.getD i Jb.z).b,(y.js.getD i Jb.z).p))
  first | refine Yl ?_ | skip
  refine Zm<|zr (b:=jb) (o:=0) (k:=i) (j:=(i:Int)) (by rw [← ej];rfl) rfl rfl hi<|XL (b:=jb) (o:=0+i * 4) rfl rj (VD (by omega))<|W4 ?_
  intro H3 kH3 nH3 c3
  have c3:Cl H3 L1.next [iv 0,iv 0,iv 0,iv 0]:=c3
  have mH3:=kH3.1
  have hk:=hk.trans kH3
  have c1:=kH3.cl c1 (by simp)
  have mp:=kH3.mpa0 mp
  have rj:=kH3.rd rj (by simp)
  refine Qe (b:=L1.next) (o:=0) rfl rfl c3 (by omega) rfl rfl (by simp) ?_
  intro H4 kH4 nH4 sH4
  have mH4:=kH4.1
  have hk:=hk.new kH4 (fun b hb=>by simp at hb ⊢;omega)
  have c1:=kH4.cl c1 (by first | (simp;done) | (simp;omega))
  have mp:=kH4.mpa mp (by simp;omega)
  have rj:=kH4.rd rj (by first | (simp;done) | (simp;omega))
  have c3:Cl H4 L1.next [iv ((y.js.getD i Jb.z).b),iv ((y.js.getD i Jb.z).p),iv ((y.js.getD i Jb.z).u),iv ((y.js.getD i Jb.z).t)]:=sH4
  refine Zi<|Zm<|YB (b:=L1.next) (o:=0) rfl<|YH (b:=L1.next) (o:=0) (v:=iv ((y.js.getD i Jb.z).b)) rfl c3.rd rfl<|YB (b:=L1.next) (o:=0) rfl<|YH (b:=L1.next) (o:=1) (v:=iv ((y.js.getD i Jb.z).p)) rfl c3.rd rfl<|Zl (v:=seV ((y.js.getD i Jb.z).b,(y.js.getD i Jb.z).p)) rfl (by kernel_rfl)<|W4 ?_
  intro H5 kH5 nH5 c5
  have c5:Cl H5 H4.next [iv 0,iv 0]:=c5
  have mH5:=kH5.1
  have hk:=hk.trans kH5
  have c1:=kH5.cl c1 (by simp)
  have mp:=kH5.mpa0 mp
  have rj:=kH5.rd rj (by simp)
  have c3:=kH5.cl c3 (by simp)
  refine Qe (b:=H4.next) (o:=0) rfl rfl c5 (by omega) rfl rfl (by simp) ?_
  intro H6 kH6 nH6 sH6
  have mH6:=kH6.1
  have hk:=hk.new kH6 (fun b hb=>by simp at hb ⊢;omega)
  have c1:=kH6.cl c1 (by first | (simp;done) | (simp;omega))
  have mp:=kH6.mpa mp (by simp;omega)
  have rj:=kH6.rd rj (by first | (simp;done) | (simp;omega))
  have c3:=kH6.cl c3 (by first | (simp;done) | (simp;omega))
  have c5:Cl H6 H4.next [iv ((y.js.getD i Jb.z).b),iv ((y.js.getD i Jb.z).p)]:=sH6
  refine Zi ?_
  have hne:H4.next≠H1.next:=by omega
  have hzl:(ZQ ((y.js.getD i Jb.z).b,(y.js.getD i Jb.z).p) L).getD (iv 0)=iv (cnR y.js i ((y.js.getD i Jb.z).b,(y.js.getD i Jb.z).p)):=hR ((y.js.getD i Jb.z).b,(y.js.getD i Jb.z).p)
  refine zc (Za9 ⟨fun q=>match q with | 0=>.map (some H1.next) | 1=>seV ((y.js.getD i Jb.z).b,(y.js.getD i Jb.z).p) | 2=>iv (cnR y.js i ((y.js.getD i Jb.z).b,(y.js.getD i Jb.z).p)) | 3=>iv ((cnR y.js i ((y.js.getD i Jb.z).b,(y.js.getD i Jb.z).p))+1) | 4=>.tuple #[(ZQ ((y.js.getD i Jb.z).b,(y.js.getD i Jb.z).p) L).getD (iv 0),goInt (Yu ((y.js.getD i Jb.z).b,(y.js.getD i Jb.z).p) c L)] | 5=>goInt (Yu ((y.js.getD i Jb.z).b,(y.js.getD i Jb.z).p) c L) | _=>undef,
   fun done H'=>(done 6=true→∀ j,j < 6→done j=true)∧Zf H6 H' [H1.next]∧(if done 6=true then Mpa seV H' H1.next (Y1 ((y.js.getD i Jb.z).b,(y.js.getD i Jb.z).p) (iv ((cnR y.js i ((y.js.getD i Jb.z).b,(y.js.getD i Jb.z).p))+1)) c L) (YV ((y.js.getD i Jb.z).b,(y.js.getD i Jb.z).p) c L) else if done 4=true then Mpa seV H' H1.next (Wc ((y.js.getD i Jb.z).b,(y.js.getD i Jb.z).p) (iv 0) c L) (YV ((y.js.getD i Jb.z).b,(y.js.getD i Jb.z).p) c L) else Mpa seV H' H1.next L c),by decide,⟨(fun h=>by cases h),Zf.refl _ _,mp⟩,⟨?_,?_,?_,?_,?_,?_,?_,True.intro⟩,fun done H9 hd hH=>?_⟩)
  all_goals try (intro done S' H' hi hmk ⟨hall,hk,hH⟩ kd)
  ·exact WF (Ze (kd.old rfl rfl) (Zi ⟨rfl,Wu rfl hall,hk,hH⟩))
  ·exact WF (XL (q:=[iv (y.js.getD i Jb.z).b,iv (y.js.getD i Jb.z).p]) (kd.old rfl rfl) (hk.rd c5.rd (by simpa using hne)) rfl (Zi ⟨rfl,Wu rfl hall,hk,hH⟩))
  ·have a1:evS S' (.tmp 20)=some (.map (some H1.next)):=kd.own 0 rfl (hmk 0 (by decide)) rfl
   have a2:evS S' (.tmp 21)=some (seV ((y.js.getD i Jb.z).b,(y.js.getD i Jb.z).p)):=kd.own 1 rfl (hmk 1 (by decide)) rfl
   have h9:=qK hall 2 (by omega) hi
   have hH0:=hH
   rw [h9] at hH
   simp only [Bool.false_eq_true,if_false] at hH
   cases h7:done 4 with
   | true=>
    rw [h7,if_pos rfl] at hH
    refine WF (qq zg KQ zM a1 a2 hH (by rw [qn,hzl];rfl) (Zi ⟨?_,Wu rfl hall,hk,hH0⟩))
    rw [qn,hzl];try rfl
   | false=>
    rw [h7] at hH
    simp only [Bool.false_eq_true,if_false] at hH
    refine WF (qq zg KQ zM a1 a2 hH (by rw [hzl];rfl) (Zi ⟨?_,Wu rfl hall,hk,hH0⟩))
    rw [hzl];try rfl
  ·exact WF (Jm (a:=(cnR y.js i ((y.js.getD i Jb.z).b,(y.js.getD i Jb.z).p))) (b:=1) (kd.own 2 rfl (hmk 2 (by decide)) rfl) rfl ⟨by omega,by omega⟩ (Zi ⟨rfl,Wu rfl hall,hk,hH⟩))
  ·have a1:evS S' (.tmp 20)=some (.map (some H1.next)):=kd.own 0 rfl (hmk 0 (by decide)) rfl
   have a2:evS S' (.tmp 21)=some (seV ((y.js.getD i Jb.z).b,(y.js.getD i Jb.z).p)):=kd.own 1 rfl (hmk 1 (by decide)) rfl
   have h9:=qK hall 4 (by omega) hi
   rw [h9,hi] at hH
   simp only [Bool.false_eq_true,if_false] at hH
   refine WF (ZaC zg KQ zM a1 a2 hH (by omega) (by rw [hzl];rfl) fun H1 k1 n1 m1=>Zi ⟨rfl,Wu rfl hall,hk.trans k1,?_⟩)
   show (if done 6=true then _ else if Qd done 4 4=true then _ else _)
   rw [h9,Kh];exact m1
  ·have a3:lk S' 24=some (.tuple #[(ZQ ((y.js.getD i Jb.z).b,(y.js.getD i Jb.z).p) L).getD (iv 0),goInt (Yu ((y.js.getD i Jb.z).b,(y.js.getD i Jb.z).p) c L)]):=kd.own 4 rfl (hmk 4 (by decide)) rfl
   refine WF (Zl (v:=goInt (Yu ((y.js.getD i Jb.z).b,(y.js.getD i Jb.z).p) c L)) (ZdQ a3) ?_ (Zi ⟨rfl,Wu rfl hall,hk,hH⟩))
   unfold Zn
   simp only [Yx,show evS S' (.tmp 24)=_ from a3]
   rfl
  ·have h7:done 4=true:=hmk 4 (by decide)
   have a1:evS S' (.tmp 20)=some (.map (some H1.next)):=kd.own 0 rfl (hmk 0 (by decide)) rfl
   have a4:evS S' (.tmp 25)=some (goInt (Yu ((y.js.getD i Jb.z).b,(y.js.getD i Jb.z).p) c L)):=kd.own 5 rfl (hmk 5 (by decide)) rfl
   have a5:evS S' (.tmp 23)=some (iv ((cnR y.js i ((y.js.getD i Jb.z).b,(y.js.getD i Jb.z).p))+1)):=kd.own 3 rfl (hmk 3 (by decide)) rfl
   rw [hi,h7] at hH
   simp only [Bool.false_eq_true,if_false,if_true] at hH
   refine WF (Zdu a1 a4 a5 hH (by omega) rfl Zbe fun H1 k1 n1 m1=>Zi ⟨rfl,fun _ j hj=>Kz (hmk j ?_),hk.trans k1,?_⟩)
   ·have:∀ j,j < 6→Nat.testBit 63 j=true:=by decide
    exact this j hj
   ·show (if Qd done 6 6=true then _ else _)
    rw [Kh,if_pos rfl,← ZbT hwf]
    exact m1
  obtain ⟨_,k9,mp2⟩:=hH
  rw [hd 6 (by decide),if_pos rfl] at mp2
  have hR2:Rm (Y1 ((y.js.getD i Jb.z).b,(y.js.getD i Jb.z).p) (iv ((cnR y.js i ((y.js.getD i Jb.z).b,(y.js.getD i Jb.z).p))+1)) c L) (cnR y.js (i+1)):=(hR.put _ _ _).congr (ZdC hi)
  have m9:=k9.1
  have hk:=hk.new k9 (fun b hb=>by simp at hb ⊢;omega)
  have c1:=k9.cl c1 (by first | (simp;done) | (simp;omega))
  have rj:=k9.rd rj (by first | (simp;done) | (simp;omega))
  have c3:=k9.cl c3 (by first | (simp;done) | (simp;omega))
  have c5:=k9.cl c5 (by first | (simp;done) | (simp;omega))
  show wCM _ _ _ _ _ _ _ _ _
  have sjj0:=(hy.keep hk).j
  rcases id sjj0 with ⟨_,h0jj,_⟩ | ⟨jjb,ejj,rjj,_⟩
  ·omega
  have ljj:=rjj.1
  have ojj:=hy.j.old jjb ejj
  have sp0:=(hy.keep hk).p
  rcases id sp0 with ⟨_,h0p,_⟩ | ⟨pb,ep,rp,_⟩
  ·omega
  have lp:=rp.1
  have op:=hy.p.old pb ep
  have hjp:(y.js.getD i Jb.z).p.toNat < y.ps.length:=by omega
  refine qH<|ZJ rfl<|Uf (b:=H4.next) (o:=0) rfl c5.rd (show row 2 _ _=some [iv ((y.js.getD i Jb.z).b),iv ((y.js.getD i Jb.z).p)] from rfl) ?_
  have hz2:=hR2 ((y.js.getD i Jb.z).b,(y.js.getD i Jb.z).p)
  refine KI (k:=.read (H1.next)) rfl rfl (by rw [U9 zg KQ zM rfl rfl mp2 false (by rw [hz2];rfl),hz2];try rfl) (fun b e=>by cases e;exact mp2.1)<|Zz (b:=H.next) (o:=0) rfl<|Z8 (b:=H.next) (o:=0) (v:=.slice a.pa y.ps.length a.pc) rfl c1.rd rfl<|Zz (b:=L1.next) (o:=0) rfl<|Z8 (b:=L1.next) (o:=1) (v:=iv ((y.js.getD i Jb.z).p)) rfl c3.rd rfl<|XR (b:=pb) (o:=0) (k:=(y.js.getD i Jb.z).p.toNat) (j:=(y.js.getD i Jb.z).p) (by rw [← ep];rfl) rfl (by omega) (by omega)<|Zz (b:=pb) (o:=0+((y.js.getD i Jb.z).p.toNat) * 4) rfl<|Z8 (b:=pb) (o:=0+((y.js.getD i Jb.z).p.toNat) * 4+3) (v:=iv ((y.ps.getD (y.js.getD i Jb.z).p.toNat Pd.z).us)) rfl rp (zq (i:=(y.js.getD i Jb.z).p.toNat) (j:=3) (by omega) rfl)<|Zan (a:=(cnR y.js (i+1) ((y.js.getD i Jb.z).b,(y.js.getD i Jb.z).p))) (b:=(y.ps.getD (y.js.getD i Jb.z).p.toNat Pd.z).us) rfl rfl ?_
  refine Y7 (by repeat' first | exact True.intro | exact (fun h=>h) | refine And.intro ?_ ?_ | (intro h;have h:(_:Nat)=_:=h;omega)) ?_
  refine And.intro (fun q2=>?_) (fun q2=>?_)
  ·have q2:(cnR y.js (i+1) ((y.js.getD i Jb.z).b,(y.js.getD i Jb.z).p)) > ((y.ps.getD (y.js.getD i Jb.z).p.toNat Pd.z).us):=of_decide_eq_true q2
   refine Zm<|Ze rfl<|Zi ?_
   exact And.intro trivial (Exists.intro _ (And.intro rfl ⟨congrArg Value.bool (ZeI hi (by show ¬ _≤(y.ps.getD (y.js.getD i Jb.z).p.toNat Pd.z).us;omega)).symm,hk⟩))
  ·have q2:¬ ((cnR y.js (i+1) ((y.js.getD i Jb.z).b,(y.js.getD i Jb.z).p)) > ((y.ps.getD (y.js.getD i Jb.z).p.toNat Pd.z).us)):=of_decide_eq_false q2
   first | refine Yl ?_ | skip
   show Zo _ _ _ _ _ _ _ _
   refine Jm (a:=(i:Int)) (b:=1) rfl rfl ⟨by omega,by omega⟩<|Ze rfl<|Zi ?_
   exact ⟨k - 1,i+1,by omega,⟨by omega,hk,c1,⟨_,_,mp2,hwf.put _ _,hR2⟩,ZeH hus hi (show cnR y.js (i+1) _≤(y.ps.getD (y.js.getD i Jb.z).p.toNat Pd.z).us by omega)⟩,rfl,rfl,rfl,rfl,rfl,trivial⟩
 ·have q1:¬ ((i:Int) < (y.js.length:Int)):=of_decide_eq_false q1
  first | (refine W8 ?_;show wCM _ _ _ _ _ _ _ _ _) | skip
  refine Zm<|Ze rfl<|Zi ?_
  have ein:i=y.js.length:=by omega
  rw [ein] at hus
  exact And.intro trivial (Exists.intro _ (And.intro rfl ⟨congrArg Value.bool (Zdi hus).symm,hk⟩))
theorem Zej {y:Yd} {j:Jb} (h:vJ y j=true):0≤j.b∧j.b < y.bs.length∧0≤j.p∧j.p < y.ps.length∧0≤j.u∧j.u≤16384∧0≤j.t∧j.t≤16384∧0≤j.t - j.u∧j.t - j.u≤40∧0≤(jB y j).m∧(jB y j).m < (jP y j).wt.length:=by
 simp only [vJ,inB,Bool.and_eq_true,decide_eq_true_eq] at h;omega
set_option maxRecDepth 100000 in
set_option maxHeartbeats 1000000 in
theorem Zcr (s:Snd Try.prog kn) {a:Ya} {y:Yd} (hy:YaH H a y) (hB:YaB y) (hlo:lo≤H.next) :
  FnM Try.prog lo 40 [.agg (Ya.f a y).toArray] H fun v H'=>v=.bool (vY y)∧Zf H H' []:=by
 refine WG s Try.func40 B40 N40 Z40 L40 (by simp) ?_
 have hk:=Zf.refl H []
 have hB1:=hB.1;have hB2:=hB.2.1;have hB3:=hB.2.2.1;have hB4:=hB.2.2.2.1
 refine Zm<|Vl (v:=.agg (Ya.f a y).toArray) rfl ?_
 intro H1 kH1 nH1 c1
 have c1:Cl H1 H.next [.slice a.pa y.ps.length a.pc,.slice a.ba y.bs.length a.bc,.slice a.sa y.ss.length a.sc,.slice a.ja y.js.length a.jc]:=c1
 have mH1:=kH1.1
 have hk:=hk.trans kH1
 refine Ze rfl<|Zi<|Zm<|YB (b:=H.next) (o:=0) rfl<|YH (b:=H.next) (o:=0) (v:=.slice a.pa y.ps.length a.pc) rfl c1.rd rfl<|Va (m:=y.ps.length) rfl<|Ur (a:=(y.ps.length:Int)) (b:=8) rfl rfl ?_
 intro t1 g1;cases t1
 ·have g1:¬ ((y.ps.length:Int) > 8):=of_decide_eq_false g1
  refine Ze rfl ?_
  refine YX rfl (YB (b:=H.next) (o:=0) rfl ?_)
  refine YX rfl (YH (b:=H.next) (o:=1) (v:=.slice a.ba y.bs.length a.bc) rfl c1.rd rfl ?_)
  refine YX rfl (Va (m:=y.bs.length) rfl ?_)
  refine YX rfl (Ur (a:=(y.bs.length:Int)) (b:=16) rfl rfl ?_)
  intro t2 g2;cases t2
  ·have g2:¬ ((y.bs.length:Int) > 16):=of_decide_eq_false g2
   refine Zl (v:=.bool false) rfl rfl<|Ze rfl ?_
   refine YX rfl (YB (b:=H.next) (o:=0) rfl ?_)
   refine YX rfl (YH (b:=H.next) (o:=2) (v:=.slice a.sa y.ss.length a.sc) rfl c1.rd rfl ?_)
   refine YX rfl (Va (m:=y.ss.length) rfl ?_)
   refine YX rfl (Ur (a:=(y.ss.length:Int)) (b:=16) rfl rfl ?_)
   intro t3 g3;cases t3
   ·have g3:¬ ((y.ss.length:Int) > 16):=of_decide_eq_false g3
    refine Zl (v:=.bool false) rfl rfl<|Ze rfl ?_
    refine YX rfl (YB (b:=H.next) (o:=0) rfl ?_)
    refine YX rfl (YH (b:=H.next) (o:=3) (v:=.slice a.ja y.js.length a.jc) rfl c1.rd rfl ?_)
    refine YX rfl (Va (m:=y.js.length) rfl ?_)
    refine YX rfl (Ur (a:=(y.js.length:Int)) (b:=8) rfl rfl ?_)
    intro t4 g4;cases t4
    ·have g4:¬ ((y.js.length:Int) > 8):=of_decide_eq_false g4
     refine Zl (v:=.bool false) rfl rfl<|Zi<|YE ?_
     first | refine Yl ?_ | skip
     refine Zm<|YB (b:=H.next) (o:=0) rfl<|YH (b:=H.next) (o:=0) (v:=.slice a.pa y.ps.length a.pc) rfl c1.rd rfl ?_
     obtain ⟨H2,fH2,kH2⟩:=ZbS (kn:=kn) (lo:=lo) (H:=H1) (ws:=a.ws) (ps:=y.ps) ((hy.keep hk).p) rfl (by omega) (by omega) (F:=66) (gc:=#[]) (ok:=fun i=>vP (y.ps.getD i Pd.z)) (fun i hi H9 k9=>by
      obtain ⟨H8,f8,k8⟩:=ZdE (kn:=kn) (lo:=lo) (H:=H9) (p:=y.ps.getD i Pd.z) (w:=a.ws i) ((hy.keep (hk.trans k9)).w i hi) (by have:=k9.1;omega)
      exact ⟨H8,ZW rfl (by simpa using f8),k8⟩)
     rw [XC (l:=y.ps) (p:=vP)] at fH2
     have mH2:=kH2.1
     have hk:=hk.trans kH2
     have c1:=kH2.cl c1 (by simp)
     cases hpl:y.ps.all vP
     ·rw [hpl] at fH2
      refine Z1 s (v:=.bool false) (vs:=[.slice a.pa y.ps.length a.pc,.func (.func 66) #[] #[]]) rfl (Zk fH2)<|Zl (v:=.bool true) rfl rfl<|Ze rfl<|Yb rfl<|Yb rfl<|Yb rfl<|Yb rfl<|Zl (v:=.bool true) rfl rfl<|Ze rfl<|Yb rfl<|Yb rfl<|Yb rfl<|Yb rfl<|Zl (v:=.bool true) rfl rfl<|Zi<|YC<|Zm<|Ze rfl<|Zi ?_
      exact And.intro trivial (Exists.intro _ (And.intro rfl ⟨congrArg Value.bool (show false=vY y from by symm;rw [← Bool.not_eq_true];simp only [vY,Bool.and_eq_true,decide_eq_true_eq];intro q;obtain ⟨⟨⟨⟨⟨⟨⟨⟨q0,q1⟩,q2⟩,q3⟩,q4⟩,q5⟩,q6⟩,q7⟩,q8⟩:=q;first | omega | (simp_all;done)),hk⟩))
     ·rw [hpl] at fH2
      refine Z1 s (v:=.bool true) (vs:=[.slice a.pa y.ps.length a.pc,.func (.func 66) #[] #[]]) rfl (Zk fH2)<|Zl (v:=.bool false) rfl rfl<|Ze rfl ?_
      refine YX rfl (YB (b:=H.next) (o:=0) rfl ?_)
      refine YX rfl (YH (b:=H.next) (o:=1) (v:=.slice a.ba y.bs.length a.bc) rfl c1.rd rfl ?_)
      obtain ⟨H3,fH3,kH3⟩:=Zb8 (kn:=kn) (lo:=lo) (H:=H2)  ((hy.keep hk).b) rfl (by omega) (by omega) (F:=68) (gc:=#[]) (ok:=fun i=>vB (y.bs.getD i Bd.z)) (fun i hi H9 k9=>by
       obtain ⟨H8,f8,k8⟩:=Zd2 (kn:=kn) (lo:=lo) (H:=H9) (b:=y.bs.getD i Bd.z)
       exact ⟨H8,ZW rfl (by simpa using f8),k8⟩)
      rw [XC (l:=y.bs) (p:=vB)] at fH3
      have mH3:=kH3.1
      have hk:=hk.trans kH3
      have c1:=kH3.cl c1 (by simp)
      cases hbl:y.bs.all vB
      ·rw [hbl] at fH3
       refine YX rfl (Z1 s (v:=.bool false) (vs:=[.slice a.ba y.bs.length a.bc,.func (.func 68) #[] #[]]) rfl (Zk fH3) ?_)
       refine YX rfl (Zl (v:=.bool true) rfl rfl ?_)
       refine Zl (v:=.bool true) rfl rfl<|Ze rfl<|Yb rfl<|Yb rfl<|Yb rfl<|Yb rfl<|Zl (v:=.bool true) rfl rfl<|Zi<|YC<|Zm<|Ze rfl<|Zi ?_
       exact And.intro trivial (Exists.intro _ (And.intro rfl ⟨congrArg Value.bool (show false=vY y from by symm;rw [← Bool.not_eq_true];simp only [vY,Bool.and_eq_true,decide_eq_true_eq];intro q;obtain ⟨⟨⟨⟨⟨⟨⟨⟨q0,q1⟩,q2⟩,q3⟩,q4⟩,q5⟩,q6⟩,q7⟩,q8⟩:=q;first | omega | (simp_all;done)),hk⟩))
      ·rw [hbl] at fH3
       refine YX rfl (Z1 s (v:=.bool true) (vs:=[.slice a.ba y.bs.length a.bc,.func (.func 68) #[] #[]]) rfl (Zk fH3) ?_)
       refine YX rfl (Zl (v:=.bool false) rfl rfl ?_)
       refine Zl (v:=.bool false) rfl rfl<|Ze rfl ?_
       refine YX rfl (YB (b:=H.next) (o:=0) rfl ?_)
       refine YX rfl (YH (b:=H.next) (o:=2) (v:=.slice a.sa y.ss.length a.sc) rfl c1.rd rfl ?_)
       obtain ⟨H4,fH4,kH4⟩:=ZbU (kn:=kn) (lo:=lo) (H:=H3)  ((hy.keep hk).s) rfl (by omega) (by omega) (F:=70) (gc:=#[]) (ok:=fun i=>vS (y.ss.getD i Sd.z)) (fun i hi H9 k9=>by
        obtain ⟨H8,f8,k8⟩:=ZeE (kn:=kn) (lo:=lo) (H:=H9) (s:=y.ss.getD i Sd.z)
        exact ⟨H8,ZW rfl (by simpa using f8),k8⟩)
       rw [XC (l:=y.ss) (p:=vS)] at fH4
       have mH4:=kH4.1
       have hk:=hk.trans kH4
       have c1:=kH4.cl c1 (by simp)
       cases hsl:y.ss.all vS
       ·rw [hsl] at fH4
        refine YX rfl (Z1 s (v:=.bool false) (vs:=[.slice a.sa y.ss.length a.sc,.func (.func 70) #[] #[]]) rfl (Zk fH4) ?_)
        refine YX rfl (Zl (v:=.bool true) rfl rfl ?_)
        refine Zl (v:=.bool true) rfl rfl<|Zi<|YC<|Zm<|Ze rfl<|Zi ?_
        exact And.intro trivial (Exists.intro _ (And.intro rfl ⟨congrArg Value.bool (show false=vY y from by symm;rw [← Bool.not_eq_true];simp only [vY,Bool.and_eq_true,decide_eq_true_eq];intro q;obtain ⟨⟨⟨⟨⟨⟨⟨⟨q0,q1⟩,q2⟩,q3⟩,q4⟩,q5⟩,q6⟩,q7⟩,q8⟩:=q;first | omega | (simp_all;done)),hk⟩))
       ·rw [hsl] at fH4
        refine YX rfl (Z1 s (v:=.bool true) (vs:=[.slice a.sa y.ss.length a.sc,.func (.func 70) #[] #[]]) rfl (Zk fH4) ?_)
        refine YX rfl (Zl (v:=.bool false) rfl rfl ?_)
        refine Zl (v:=.bool false) rfl rfl<|Zi<|YE ?_
        first | refine Yl ?_ | skip
        refine Zm<|YB (b:=H.next) (o:=0) rfl<|YH (b:=H.next) (o:=3) (v:=.slice a.ja y.js.length a.jc) rfl c1.rd rfl<|Zl (v:=.func (.func 72) #[] #[pt H.next]) rfl (by kernel_rfl) ?_
        obtain ⟨H5,fH5,kH5⟩:=ZbY (kn:=kn) (lo:=lo) (H:=H4)  ((hy.keep hk).j) rfl (by omega) (by omega) (F:=72) (gc:=#[.pointer (some ⟨H.next,0,none⟩)]) (ok:=fun i=>(vJ y) (y.js.getD i Jb.z)) (fun i hi H9 k9=>by
         obtain ⟨H8,f8,k8⟩:=ZcL (kn:=kn) (lo:=lo) (H:=H9) (j:=y.js.getD i Jb.z) (k9.rd c1.rd (by simp)) (hy.keep (hk.trans k9)) hB
         exact ⟨H8,ZW rfl (by simpa using f8),k8⟩)
        rw [XC (l:=y.js) (p:=(vJ y))] at fH5
        have mH5:=kH5.1
        have hk:=hk.trans kH5
        have c1:=kH5.cl c1 (by simp)
        cases hjl:y.js.all (vJ y)
        ·rw [hjl] at fH5
         refine Z1 s (v:=.bool false) (vs:=[.slice a.ja y.js.length a.jc,.func (.func 72) #[] #[pt H.next]]) rfl (Zk fH5)<|Ze rfl<|Yb rfl<|Yb rfl<|Zl (v:=.bool false) rfl rfl<|Ze rfl<|Zi ?_
         exact And.intro trivial (Exists.intro _ (And.intro rfl ⟨congrArg Value.bool (show false=vY y from by symm;rw [← Bool.not_eq_true];simp only [vY,Bool.and_eq_true,decide_eq_true_eq];intro q;obtain ⟨⟨⟨⟨⟨⟨⟨⟨q0,q1⟩,q2⟩,q3⟩,q4⟩,q5⟩,q6⟩,q7⟩,q8⟩:=q;first | omega | (simp_all;done)),hk⟩))
        ·rw [hjl] at fH5
         refine Z1 s (v:=.bool true) (vs:=[.slice a.ja y.js.length a.jc,.func (.func 72) #[] #[pt H.next]]) rfl (Zk fH5)<|Ze rfl ?_
         refine YX rfl (XL (b:=H.next) (o:=0) rfl c1.rd (show row 4 _ _=some [.slice a.pa y.ps.length a.pc,.slice a.ba y.bs.length a.bc,.slice a.sa y.ss.length a.sc,.slice a.ja y.js.length a.jc] from rfl) ?_)
         refine YX rfl (XM (t:=.fn (.func 74) #[]) (vs:=[.agg (Ya.f a y).toArray]) rfl (Xc s.hN (Zd4 (H:=H5) s (hy.keep hk) hB (fun i hi=>by have q:=Zej (WL (z:=Jb.z) hjl hi);omega) (by omega))) ?_)
         rintro _ H6 ⟨rfl,kH6⟩
         have mH6:=kH6.1
         have hk:=hk.trans kH6
         have c1:=kH6.cl c1 (by simp)
         cases hul:vU y
         ·refine Zl (v:=.bool false) rfl rfl<|Ze rfl<|Zi ?_
          exact And.intro trivial (Exists.intro _ (And.intro rfl ⟨congrArg Value.bool (show false=vY y from by symm;rw [← Bool.not_eq_true];simp only [vY,Bool.and_eq_true,decide_eq_true_eq];intro q;obtain ⟨⟨⟨⟨⟨⟨⟨⟨q0,q1⟩,q2⟩,q3⟩,q4⟩,q5⟩,q6⟩,q7⟩,q8⟩:=q;first | omega | (simp_all;done)),hk⟩))
         ·refine Zl (v:=.bool true) rfl rfl<|Ze rfl<|Zi ?_
          exact And.intro trivial (Exists.intro _ (And.intro rfl ⟨congrArg Value.bool (show true=vY y from by symm;simp only [vY,Bool.and_eq_true,decide_eq_true_eq];refine ⟨⟨⟨⟨⟨⟨⟨⟨?_,?_⟩,?_⟩,?_⟩,?_⟩,?_⟩,?_⟩,?_⟩,?_⟩<;>first | assumption | omega),hk⟩))
    ·have g4:(y.js.length:Int) > 8:=of_decide_eq_true g4
     refine Zl (v:=.bool true) rfl rfl<|Zi<|YC<|Zm<|Ze rfl<|Zi ?_
     exact And.intro trivial (Exists.intro _ (And.intro rfl ⟨congrArg Value.bool (show false=vY y from by symm;rw [← Bool.not_eq_true];simp only [vY,Bool.and_eq_true,decide_eq_true_eq];intro q;obtain ⟨⟨⟨⟨⟨⟨⟨⟨q0,q1⟩,q2⟩,q3⟩,q4⟩,q5⟩,q6⟩,q7⟩,q8⟩:=q;first | omega | (simp_all;done)),hk⟩))
   ·have g3:(y.ss.length:Int) > 16:=of_decide_eq_true g3
    refine Zl (v:=.bool true) rfl rfl<|Ze rfl<|Yb rfl<|Yb rfl<|Yb rfl<|Yb rfl<|Zl (v:=.bool true) rfl rfl<|Zi<|YC<|Zm<|Ze rfl<|Zi ?_
    exact And.intro trivial (Exists.intro _ (And.intro rfl ⟨congrArg Value.bool (show false=vY y from by symm;rw [← Bool.not_eq_true];simp only [vY,Bool.and_eq_true,decide_eq_true_eq];intro q;obtain ⟨⟨⟨⟨⟨⟨⟨⟨q0,q1⟩,q2⟩,q3⟩,q4⟩,q5⟩,q6⟩,q7⟩,q8⟩:=q;first | omega | (simp_all;done)),hk⟩))
  ·have g2:(y.bs.length:Int) > 16:=of_decide_eq_true g2
   refine Zl (v:=.bool true) rfl rfl<|Ze rfl<|Yb rfl<|Yb rfl<|Yb rfl<|Yb rfl<|Zl (v:=.bool true) rfl rfl<|Ze rfl<|Yb rfl<|Yb rfl<|Yb rfl<|Yb rfl<|Zl (v:=.bool true) rfl rfl<|Zi<|YC<|Zm<|Ze rfl<|Zi ?_
   exact And.intro trivial (Exists.intro _ (And.intro rfl ⟨congrArg Value.bool (show false=vY y from by symm;rw [← Bool.not_eq_true];simp only [vY,Bool.and_eq_true,decide_eq_true_eq];intro q;obtain ⟨⟨⟨⟨⟨⟨⟨⟨q0,q1⟩,q2⟩,q3⟩,q4⟩,q5⟩,q6⟩,q7⟩,q8⟩:=q;first | omega | (simp_all;done)),hk⟩))
 ·have g1:(y.ps.length:Int) > 8:=of_decide_eq_true g1
  refine Ze rfl<|Yb rfl<|Yb rfl<|Yb rfl<|Yb rfl<|Zl (v:=.bool true) rfl rfl<|Ze rfl<|Yb rfl<|Yb rfl<|Yb rfl<|Yb rfl<|Zl (v:=.bool true) rfl rfl<|Ze rfl<|Yb rfl<|Yb rfl<|Yb rfl<|Yb rfl<|Zl (v:=.bool true) rfl rfl<|Zi<|YC<|Zm<|Ze rfl<|Zi ?_
  exact And.intro trivial (Exists.intro _ (And.intro rfl ⟨congrArg Value.bool (show false=vY y from by symm;rw [← Bool.not_eq_true];simp only [vY,Bool.and_eq_true,decide_eq_true_eq];intro q;obtain ⟨⟨⟨⟨⟨⟨⟨⟨q0,q1⟩,q2⟩,q3⟩,q4⟩,q5⟩,q6⟩,q7⟩,q8⟩:=q;first | omega | (simp_all;done)),hk⟩))
end
end
end Go.Ax

/-
 Pool: which stands are reached;until when (82,78,52) (written by program).
-/
namespace Go.Ax
open Go Go.RowKit Go.Proofs

noncomputable section
theorem ZbN {y:Yd} (h:vY y=true):y.ps.length≤8∧y.bs.length≤16∧y.ss.length≤16∧y.js.length≤8∧y.ps.all vP=true∧y.bs.all vB=true∧y.ss.all vS=true∧y.js.all (vJ y)=true∧vU y=true:=by
 simp only [vY,Bool.and_eq_true,decide_eq_true_eq] at h
 obtain ⟨⟨⟨⟨⟨⟨⟨⟨a,b⟩,c⟩,d⟩,e⟩,f⟩,g⟩,i⟩,j⟩:=h
 exact ⟨a,b,c,d,e,f,g,i,j⟩
theorem Zfw {b:Bd} (h:vB b=true):0≤b.x∧b.x≤65536∧0≤b.y∧b.y≤65536∧0≤b.h∧b.h≤16384∧0≤b.m∧b.m≤7:=by
 simp only [vB,inB,Bool.and_eq_true,decide_eq_true_eq] at h;omega
theorem Ze3 {s:Sd} (h:vS s=true):0≤s.x∧s.x≤65536∧0≤s.y∧s.y≤65536∧0≤s.u∧s.u≤16384∧0≤s.t∧s.t≤16384∧s.u≤s.t:=by
 simp only [vS,inB,Bool.and_eq_true,decide_eq_true_eq] at h;omega
theorem Zfh {p:Pd} (h:vP p=true):0≤p.re∧p.re≤65536∧0≤p.st∧p.st≤30∧1≤p.us∧p.us≤16∧p.wt.length≤8∧∀ k,k < p.wt.length→0≤p.wt.getD k 0∧p.wt.getD k 0≤365:=by
 simp only [vP,Bool.and_eq_true,decide_eq_true_eq] at h
 obtain ⟨⟨⟨⟨a,b⟩,c⟩,d⟩,e⟩:=h
 have a:=Yr a
 have b:=Yr b
 have c:=Yr c
 exact ⟨a.1,a.2,b.1,b.2,c.1,c.2,d,fun k hk=>Yr (WL (z:=(0:Int)) e hk)⟩
structure JbT (y:Yd) (j:Jb):Prop where
 jj:0≤j.b∧j.b < y.bs.length∧0≤j.p∧j.p < y.ps.length∧0≤j.u∧j.u≤16384∧0≤j.t∧j.t≤16384∧0≤j.t - j.u∧j.t - j.u≤40∧0≤(jB y j).m∧(jB y j).m < (jP y j).wt.length
 bb:0≤(jB y j).x∧(jB y j).x≤65536∧0≤(jB y j).y∧(jB y j).y≤65536∧0≤(jB y j).h∧(jB y j).h≤16384∧0≤(jB y j).m∧(jB y j).m≤7
 pp:0≤(jP y j).re∧(jP y j).re≤65536∧0≤(jP y j).st∧(jP y j).st≤30∧1≤(jP y j).us∧(jP y j).us≤16∧(jP y j).wt.length≤8∧∀ k,k < (jP y j).wt.length→0≤(jP y j).wt.getD k 0∧(jP y j).wt.getD k 0≤365
theorem z9 {y:Yd} (hv:vY y=true) {i:Nat} (hi:i < y.js.length):JbT y (y.js.getD i Jb.z):=by
 obtain ⟨_,_,_,_,hp,hb,_,hj,_⟩:=ZbN hv
 have h:=Zej (WL (z:=Jb.z) hj hi)
 exact ⟨h,Zfw (WL (z:=Bd.z) hb (i:=(y.js.getD i Jb.z).b.toNat) (by omega)),Zfh (WL (z:=Pd.z) hp (i:=(y.js.getD i Jb.z).p.toNat) (by omega))⟩
def dl (y:Yd) (j:Jb):Int:=(jB y j).h - (jP y j).wt.getD (jB y j).m.toNat 0
def rcB (y:Yd) (j:Jb) (d:Int) (s:Sd):Bool:=decide ((s.x - (jB y j).x) * (s.x - (jB y j).x)+(s.y - (jB y j).y) * (s.y - (jB y j).y)≤(jP y j).re * (jP y j).re) && decide (d≤s.t) && decide (s.u≤d+(jP y j).st)
def rcT (y:Yd) (j:Jb) (d:Int):Nat→List Int
 | 0=>[]
 | n+1=>rcT y j d n ++ (if rcB y j d (y.ss.getD n Sd.z)=true then [(n:Int)] else [])
def rcL (y:Yd) (j:Jb) (d:Int):List Int:=rcT y j d y.ss.length
theorem qp {y:Yd} {j:Jb} {d:Int}:∀ n,(rcT y j d n).length≤n
 | 0=>Nat.le_refl _
 | n+1=>by
  have:=qp (y:=y) (j:=j) (d:=d) n
  unfold rcT
  rw [List.length_append]
  split<;>simp<;>omega
theorem Zed {y:Yd} {j:Jb} {d:Int} {n:Nat} (h:rcB y j d (y.ss.getD n Sd.z)=true):rcT y j d (n+1)=rcT y j d n ++ [(n:Int)]:=by
 show _ ++ (if _ then _ else _)=_;rw [if_pos h]
theorem ZaK {y:Yd} {j:Jb} {d:Int} {n:Nat} (h:rcB y j d (y.ss.getD n Sd.z)=false):rcT y j d (n+1)=rcT y j d n:=by
 show _ ++ (if _ then _ else _)=_;rw [if_neg (by rw [h];simp),List.append_nil]
theorem qQ {n:Int} (h:-65536≤n∧n≤65536):0≤n * n∧n * n≤4294967296:=by
 rcases Int.le_total 0 n with q | q
 ·exact ⟨Int.mul_nonneg q q,by have:=Int.mul_le_mul h.2 h.2 q (by decide);simpa using this⟩
 ·have e:n * n=(-n) * (-n):=by rw [Int.neg_mul_neg]
  rw [e]
  exact ⟨Int.mul_nonneg (by omega) (by omega),by have:=Int.mul_le_mul (show -n≤65536 by omega) (show -n≤65536 by omega) (by omega) (by decide);simpa using this⟩
theorem Acc.low {lo f f':Nat} {e:TypeId} {H:Hp} {v:Value} {n:Nat} {cs:List Value} (h:Acc lo f e H v n cs) (hf:f'≤f):Acc lo f' e H v n cs:=
 h.imp id fun ⟨b,a1,a2,a3,a4,a5,a6⟩=>⟨b,a1,a2,by omega,a4,a5,a6⟩
theorem yu:Z7 Try.prog 28=some (3,1):=by kernel_rfl
theorem Zc0:Try.prog.underlying 28=some (.slice 3):=by kernel_rfl
theorem zo3:Ym Try.prog 3=some (iv 0):=by kernel_rfl
section
variable {kn:Kn} {lo:Nat} {H:Hp}
theorem Za5 {n:Int} (h:-65536≤n∧n≤65536):∃ H',FnX Try.prog kn lo 82 [iv n] H (iv (n * n)) H'∧Zf H H' []:=by
 have key:=Zs (kn:=kn) (lo:=lo) (H:=H) (args:=[iv n]) (Q:=fun w H'=>w=iv (n * n)∧Zf H H' []) Try.func82 B82 N82 Z82 L82 (by simp) ?_
 ·obtain ⟨w,H',h,rfl,q⟩:=key;exact ⟨H',h,q⟩
 have hk:=Zf.refl H []
 have hsq:=qQ h
 refine Zd<|Za rfl<|Zb<|Zd<|Za rfl<|Za rfl<|yJ (a:=n) (b:=n) rfl rfl ⟨by omega,by omega⟩<|Za rfl<|Zb ?_
 exact And.intro trivial (Exists.intro _ (And.intro rfl ⟨rfl,hk⟩))
theorem ZeB {a:Ya} {y:Yd} (hy:YaH H a y) (hB:YaB y) {j:Jb} (hjt:JbT y j) (hlo:lo≤H.next):∃ H',FnX Try.prog kn lo 78 [.agg (Ya.f a y).toArray,.agg (Jb.f j).toArray] H (iv (dl y j)) H'∧Zf H H' []:=by
 have key:=Zs (kn:=kn) (lo:=lo) (H:=H) (args:=[.agg (Ya.f a y).toArray,.agg (Jb.f j).toArray]) (Q:=fun w H'=>w=iv (dl y j)∧Zf H H' []) Try.func78 B78 N78 Z78 L78 (by simp) ?_
 ·obtain ⟨w,H',h,rfl,q⟩:=key;exact ⟨H',h,q⟩
 have hk:=Zf.refl H []
 have hj:=hjt.jj
 have hjb:=hjt.bb
 have hwl:(jP y j).wt.length≤8:=hjt.pp.2.2.2.2.2.2.1
 have hB1:=hB.1
 have hB2:=hB.2.1
 have hB3:=hB.2.2.1
 refine Zd<|Yc (v:=.agg (Ya.f a y).toArray) rfl ?_
 intro H1 kH1 nH1 c1
 have c1:Cl H1 H.next [.slice a.pa y.ps.length a.pc,.slice a.ba y.bs.length a.bc,.slice a.sa y.ss.length a.sc,.slice a.ja y.js.length a.jc]:=c1
 have mH1:=kH1.1
 have hk:=hk.trans kH1
 refine Yc (v:=.agg (Jb.f j).toArray) rfl ?_
 intro H2 kH2 nH2 c2
 have c2:Cl H2 H1.next [iv j.b,iv j.p,iv j.u,iv j.t]:=c2
 have mH2:=kH2.1
 have hk:=hk.trans kH2
 have c1:=kH2.cl c1 (by simp)
 refine Za rfl<|Zb<|Zd ?_
 have sb0:=(hy.keep hk).b
 rcases id sb0 with ⟨_,h0b,_⟩ | ⟨bb,eb,rb,_⟩
 ·omega
 have lb:=rb.1
 have ob:=hy.b.old bb eb
 have sp0:=(hy.keep hk).p
 rcases id sp0 with ⟨_,h0p,_⟩ | ⟨pb,ep,rp,_⟩
 ·omega
 have lp:=rp.1
 have op:=hy.p.old pb ep
 have sw0:Sl H2 (a.ws j.p.toNat).1 (jP y j).wt.length (a.ws j.p.toNat).2 (cI (jP y j).wt):=(hy.keep hk).w j.p.toNat (by omega)
 rcases id sw0 with ⟨_,h0w,_⟩ | ⟨wb,ew,rw,_⟩
 ·omega
 have lw:=rw.1
 have hwt:=hjt.pp.2.2.2.2.2.2.2 (jB y j).m.toNat (by omega)
 refine Zq (b:=H.next) (o:=0) rfl<|Zq (b:=H.next) (o:=0) rfl<|ZG (b:=H.next) (o:=1) (v:=.slice a.ba y.bs.length a.bc) rfl c1.rd rfl<|Zq (b:=H1.next) (o:=0) rfl<|ZG (b:=H1.next) (o:=0) (v:=iv j.b) rfl c2.rd rfl<|Xz (b:=bb) (o:=0) (k:=j.b.toNat) (j:=j.b) (by rw [← eb];rfl) rfl (by omega) (by omega)<|Yo (b:=bb) (o:=0+j.b.toNat * 4) rfl rb (Uq (l:=y.bs) (by omega))<|Y8 ?_
 intro H3 kH3 nH3 c3
 have c3:Cl H3 H2.next [iv 0,iv 0,iv 0,iv 0]:=c3
 have mH3:=kH3.1
 have hk:=hk.trans kH3
 have c1:=kH3.cl c1 (by simp)
 have c2:=kH3.cl c2 (by simp)
 have rb:=kH3.rd rb (by simp)
 have rp:=kH3.rd rp (by simp)
 have rw:=kH3.rd rw (by simp)
 refine YS (b:=H2.next) (o:=0) rfl rfl c3 (by omega) rfl rfl (by simp) ?_
 intro H4 kH4 nH4 sH4
 have mH4:=kH4.1
 have hk:=hk.new kH4 (fun b hb=>by simp at hb ⊢;omega)
 have c1:=kH4.cl c1 (by first | (simp;done) | (simp;omega))
 have c2:=kH4.cl c2 (by first | (simp;done) | (simp;omega))
 have rb:=kH4.rd rb (by first | (simp;done) | (simp;omega))
 have rp:=kH4.rd rp (by first | (simp;done) | (simp;omega))
 have rw:=kH4.rd rw (by first | (simp;done) | (simp;omega))
 have c3:Cl H4 H2.next [iv ((jB y j).x),iv ((jB y j).y),iv ((jB y j).h),iv ((jB y j).m)]:=sH4
 refine Zb<|Wf<|Zz (b:=H2.next) (o:=0) rfl<|Z8 (b:=H2.next) (o:=2) (v:=iv ((jB y j).h)) rfl c3.rd rfl<|Zz (b:=H.next) (o:=0) rfl<|Zz (b:=H.next) (o:=0) rfl<|Z8 (b:=H.next) (o:=0) (v:=.slice a.pa y.ps.length a.pc) rfl c1.rd rfl<|Zz (b:=H1.next) (o:=0) rfl<|Z8 (b:=H1.next) (o:=1) (v:=iv j.p) rfl c2.rd rfl<|XR (b:=pb) (o:=0) (k:=j.p.toNat) (j:=j.p) (by rw [← ep];rfl) rfl (by omega) (by omega)<|Zz (b:=pb) (o:=0+j.p.toNat * 4) rfl<|Z8 (b:=pb) (o:=0+j.p.toNat * 4+2) (v:=.slice ((a.ws j.p.toNat).1) ((jP y j).wt.length) ((a.ws j.p.toNat).2)) rfl rp (zq (i:=j.p.toNat) (j:=2) (by omega) rfl)<|Zz (b:=H2.next) (o:=0) rfl<|Z8 (b:=H2.next) (o:=3) (v:=iv ((jB y j).m)) rfl c3.rd rfl<|XR (b:=wb) (o:=0) (k:=(jB y j).m.toNat) (j:=(jB y j).m) (by rw [← ew];rfl) rfl (by omega) (by omega)<|Z8 (b:=wb) (o:=0+((jB y j).m.toNat) * 1) (v:=iv ((jP y j).wt.getD (jB y j).m.toNat 0)) rfl rw (Jq (by omega))<|Q2 (a:=(jB y j).h) (b:=((jP y j).wt.getD (jB y j).m.toNat 0)) rfl rfl ⟨by omega,by omega⟩<|ZJ rfl ?_
 refine Y7 (by repeat' first | exact True.intro | exact (fun h=>h) | refine And.intro ?_ ?_ | (intro h;have h:(_:Nat)=_:=h;omega)) ?_
 exact And.intro trivial (Exists.intro _ (And.intro rfl ⟨rfl,hk⟩))
set_option maxRecDepth 100000 in
set_option maxHeartbeats 2000000 in
theorem yV {a:Ya} {y:Yd} (hy:YaH H a y) (hB:YaB y) (hv:vY y=true) {i:Nat} (hi:i < y.js.length) {d:Int} (hd:-100000≤d∧d≤100000) (hlo:lo≤H.next):∃ v H',FnX Try.prog kn lo 52 [.agg (Ya.f a y).toArray,iv (i:Int),iv d] H v H'∧Acc lo H.next 3 H' v (rcL y (y.js.getD i Jb.z) d).length (cI (rcL y (y.js.getD i Jb.z) d))∧Zf H H' []:=by
 have key:=Zs (kn:=kn) (lo:=lo) (H:=H) (args:=[.agg (Ya.f a y).toArray,iv (i:Int),iv d]) (Q:=fun w H'=>Acc lo H.next 3 H' w (rcL y (y.js.getD i Jb.z) d).length (cI (rcL y (y.js.getD i Jb.z) d))∧Zf H H' []) Try.func52 B52 N52 Z52 L52 (by simp) ?_
 ·exact key
 have hk:=Zf.refl H []
 have hjt:=z9 hv hi
 have hjp:=hjt.pp
 have hvS:=(ZbN hv).2.2.2.2.2.2.1
 have hj:=hjt.jj
 have hjb:=hjt.bb
 have hwl:(jP y (y.js.getD i Jb.z)).wt.length≤8:=hjt.pp.2.2.2.2.2.2.1
 have hB1:=hB.1
 have hB2:=hB.2.1
 have hB3:=hB.2.2.1
 refine Zd<|Yc (v:=.agg (Ya.f a y).toArray) rfl ?_
 intro H1 kH1 nH1 c1
 have c1:Cl H1 H.next [.slice a.pa y.ps.length a.pc,.slice a.ba y.bs.length a.bc,.slice a.sa y.ss.length a.sc,.slice a.ja y.js.length a.jc]:=c1
 have mH1:=kH1.1
 have hk:=hk.trans kH1
 refine Za rfl<|Zb<|Zd ?_
 have sj0:=(hy.keep hk).j
 rcases id sj0 with ⟨_,h0j,_⟩ | ⟨jb,ej,rj,_⟩
 ·omega
 have lj:=rj.1
 have oj:=hy.j.old jb ej
 refine Zq (b:=H.next) (o:=0) rfl<|Zq (b:=H.next) (o:=0) rfl<|ZG (b:=H.next) (o:=3) (v:=.slice a.ja y.js.length a.jc) rfl c1.rd rfl<|Za rfl<|Xz (b:=jb) (o:=0) (k:=i) (j:=(i:Int)) (by rw [← ej];rfl) rfl rfl hi<|Yo (b:=jb) (o:=0+i * 4) rfl rj (VD (by omega))<|Y8 ?_
 intro H2 kH2 nH2 c2
 have c2:Cl H2 H1.next [iv 0,iv 0,iv 0,iv 0]:=c2
 have mH2:=kH2.1
 have hk:=hk.trans kH2
 have c1:=kH2.cl c1 (by simp)
 have rj:=kH2.rd rj (by simp)
 refine YS (b:=H1.next) (o:=0) rfl rfl c2 (by omega) rfl rfl (by simp) ?_
 intro H3 kH3 nH3 sH3
 have mH3:=kH3.1
 have hk:=hk.new kH3 (fun b hb=>by simp at hb ⊢;omega)
 have c1:=kH3.cl c1 (by first | (simp;done) | (simp;omega))
 have rj:=kH3.rd rj (by first | (simp;done) | (simp;omega))
 have c2:Cl H3 H1.next [iv ((y.js.getD i Jb.z).b),iv ((y.js.getD i Jb.z).p),iv ((y.js.getD i Jb.z).u),iv ((y.js.getD i Jb.z).t)]:=sH3
 refine Zb<|Wf ?_
 have sb0:=(hy.keep hk).b
 rcases id sb0 with ⟨_,h0b,_⟩ | ⟨bb,eb,rb,_⟩
 ·omega
 have lb:=rb.1
 have ob:=hy.b.old bb eb
 have sp0:=(hy.keep hk).p
 rcases id sp0 with ⟨_,h0p,_⟩ | ⟨pb,ep,rp,_⟩
 ·omega
 have lp:=rp.1
 have op:=hy.p.old pb ep
 refine Zz (b:=H.next) (o:=0) rfl<|Zz (b:=H.next) (o:=0) rfl<|Z8 (b:=H.next) (o:=1) (v:=.slice a.ba y.bs.length a.bc) rfl c1.rd rfl<|Zz (b:=H1.next) (o:=0) rfl<|Z8 (b:=H1.next) (o:=0) (v:=iv ((y.js.getD i Jb.z).b)) rfl c2.rd rfl<|XR (b:=bb) (o:=0) (k:=(y.js.getD i Jb.z).b.toNat) (j:=(y.js.getD i Jb.z).b) (by rw [← eb];rfl) rfl (by omega) (by omega)<|Uf (b:=bb) (o:=0+((y.js.getD i Jb.z).b.toNat) * 4) rfl rb (Uq (l:=y.bs) (by omega))<|Zz (b:=H.next) (o:=0) rfl<|Zz (b:=H.next) (o:=0) rfl<|Z8 (b:=H.next) (o:=0) (v:=.slice a.pa y.ps.length a.pc) rfl c1.rd rfl<|Zz (b:=H1.next) (o:=0) rfl<|Z8 (b:=H1.next) (o:=1) (v:=iv ((y.js.getD i Jb.z).p)) rfl c2.rd rfl<|XR (b:=pb) (o:=0) (k:=(y.js.getD i Jb.z).p.toNat) (j:=(y.js.getD i Jb.z).p) (by rw [← ep];rfl) rfl (by omega) (by omega)<|Uf (b:=pb) (o:=0+((y.js.getD i Jb.z).p.toNat) * 4) rfl rp (Jk (by omega))<|j1 ?_
 intro H4 kH4 nH4 c4
 have c4:Cl H4 H3.next [iv 0,iv 0,iv 0,iv 0]:=c4
 have mH4:=kH4.1
 have hk:=hk.trans kH4
 have c1:=kH4.cl c1 (by simp)
 have rj:=kH4.rd rj (by simp)
 have c2:=kH4.cl c2 (by simp)
 have rb:=kH4.rd rb (by simp)
 have rp:=kH4.rd rp (by simp)
 refine j1 ?_
 intro H5 kH5 nH5 c5
 have c5:Cl H5 H4.next [iv 0,iv 0,.slice none 0 0,iv 0]:=c5
 have mH5:=kH5.1
 have hk:=hk.trans kH5
 have c1:=kH5.cl c1 (by simp)
 have rj:=kH5.rd rj (by simp)
 have c2:=kH5.cl c2 (by simp)
 have rb:=kH5.rd rb (by simp)
 have rp:=kH5.rd rp (by simp)
 have c4:=kH5.cl c4 (by simp)
 refine Zag (b:=H3.next) (o:=0) rfl rfl c4 (by omega) rfl rfl (by simp) ?_
 intro H6 kH6 nH6 sH6
 have mH6:=kH6.1
 have hk:=hk.new kH6 (fun b hb=>by simp at hb ⊢;omega)
 have c1:=kH6.cl c1 (by first | (simp;done) | (simp;omega))
 have rj:=kH6.rd rj (by first | (simp;done) | (simp;omega))
 have c2:=kH6.cl c2 (by first | (simp;done) | (simp;omega))
 have rb:=kH6.rd rb (by first | (simp;done) | (simp;omega))
 have rp:=kH6.rd rp (by first | (simp;done) | (simp;omega))
 have c5:=kH6.cl c5 (by first | (simp;done) | (simp;omega))
 have c4:Cl H6 H3.next [iv ((jB y (y.js.getD i Jb.z)).x),iv ((jB y (y.js.getD i Jb.z)).y),iv ((jB y (y.js.getD i Jb.z)).h),iv ((jB y (y.js.getD i Jb.z)).m)]:=sH6
 refine Zag (b:=H4.next) (o:=0) rfl rfl c5 (by omega) rfl rfl (by simp) ?_
 intro H7 kH7 nH7 sH7
 have mH7:=kH7.1
 have hk:=hk.new kH7 (fun b hb=>by simp at hb ⊢;omega)
 have c1:=kH7.cl c1 (by first | (simp;done) | (simp;omega))
 have rj:=kH7.rd rj (by first | (simp;done) | (simp;omega))
 have c2:=kH7.cl c2 (by first | (simp;done) | (simp;omega))
 have rb:=kH7.rd rb (by first | (simp;done) | (simp;omega))
 have rp:=kH7.rd rp (by first | (simp;done) | (simp;omega))
 have c4:=kH7.cl c4 (by first | (simp;done) | (simp;omega))
 have c5:Cl H7 H4.next [iv ((jP y (y.js.getD i Jb.z)).re),iv ((jP y (y.js.getD i Jb.z)).st),.slice ((a.ws ((y.js.getD i Jb.z).p.toNat)).1) ((jP y (y.js.getD i Jb.z)).wt.length) ((a.ws ((y.js.getD i Jb.z).p.toNat)).2),iv ((jP y (y.js.getD i Jb.z)).us)]:=sH7
 refine Y7 (by repeat' first | exact True.intro | exact (fun h=>h) | refine And.intro ?_ ?_ | (intro h;have h:(_:Nat)=_:=h;omega)) ?_
 refine Zd<|Za rfl<|Zb<|Zd<|Zq (b:=H.next) (o:=0) rfl<|Zq (b:=H.next) (o:=0) rfl<|ZG (b:=H.next) (o:=2) (v:=.slice a.sa y.ss.length a.sc) rfl c1.rd rfl<|YI (m:=y.ss.length) rfl<|Za rfl<|Zb ?_
 have d8:Cl H7 (H3.next) [iv ((jB y (y.js.getD i Jb.z)).x),iv ((jB y (y.js.getD i Jb.z)).y),iv ((jB y (y.js.getD i Jb.z)).h),iv ((jB y (y.js.getD i Jb.z)).m)]:=c4
 have d9:Cl H7 (H4.next) [iv ((jP y (y.js.getD i Jb.z)).re),iv ((jP y (y.js.getD i Jb.z)).st),.slice ((a.ws (y.js.getD i Jb.z).p.toNat).1) ((jP y (y.js.getD i Jb.z)).wt.length) ((a.ws (y.js.getD i Jb.z).p.toNat).2),iv ((jP y (y.js.getD i Jb.z)).us)]:=c5
 have l8:=d8.1
 have l9:=d9.1
 refine YO (fn:=Try.f52) Zet N52 ZdG (fun z:Nat × Value=>[(2,iv d),(8,pt H3.next),(9,pt H4.next),(10,z.2),(36,.slice a.sa y.ss.length a.sc),(37,iv (y.ss.length:Int)),(38,iv (z.1:Int))])
  (fun k z H'=>z.1+k=y.ss.length∧Zf H H' []∧H7.next≤H'.next∧Cl H' (H3.next) [iv ((jB y (y.js.getD i Jb.z)).x),iv ((jB y (y.js.getD i Jb.z)).y),iv ((jB y (y.js.getD i Jb.z)).h),iv ((jB y (y.js.getD i Jb.z)).m)]∧Cl H' (H4.next) [iv ((jP y (y.js.getD i Jb.z)).re),iv ((jP y (y.js.getD i Jb.z)).st),.slice ((a.ws (y.js.getD i Jb.z).p.toNat).1) ((jP y (y.js.getD i Jb.z)).wt.length) ((a.ws (y.js.getD i Jb.z).p.toNat).2),iv ((jP y (y.js.getD i Jb.z)).us)]∧Acc lo H7.next 3 H' z.2 (rcT y (y.js.getD i Jb.z) d z.1).length (cI (rcT y (y.js.getD i Jb.z) d z.1))) y.ss.length (0,.slice none 0 0) ⟨by simp,hk,by omega,d8,d9,.inl ⟨rfl,rfl,rfl⟩⟩ ⟨rfl,rfl,rfl,rfl,rfl,rfl,rfl,trivial⟩ ?_
 rintro q ⟨k,wv⟩ L1 ⟨hik,hk,hnx,d8,d9,hacc⟩
 simp only [] at hik hacc
 have mk:=hk.1
 have kacc:=Zf.refl L1 []
 have hrl:=qp (y:=y) (j:=(y.js.getD i Jb.z)) (d:=d) k
 refine Zd<|YY (a:=(k:Int)) (b:=(y.ss.length:Int)) rfl rfl<|Zb ?_
 refine And.intro (fun q1=>?_) (fun q1=>?_)
 ·have q1:(k:Int) < (y.ss.length:Int):=of_decide_eq_true q1
  have hkl:k < y.ss.length:=by omega
  have ss0:=(hy.keep hk).s
  rcases id ss0 with ⟨_,h0s,_⟩ | ⟨sb,es,rs,_⟩
  ·omega
  have ls:=rs.1
  have os:=hy.s.old sb es
  have hsk:=Ze3 (WL (z:=Sd.z) hvS hkl)
  first | refine ZE ?_ | skip
  refine Zd<|Za rfl<|Xz (b:=sb) (o:=0) (k:=k) (j:=(k:Int)) (by rw [← es];rfl) rfl rfl hkl<|Yo (b:=sb) (o:=0+k * 4) rfl rs (zV (by omega))<|Y8 ?_
  intro H8 kH8 nH8 c8
  have c8:Cl H8 L1.next [iv 0,iv 0,iv 0,iv 0]:=c8
  have mH8:=kH8.1
  have hk:=hk.trans kH8
  have d8:=kH8.cl d8 (by simp)
  have d9:=kH8.cl d9 (by simp)
  have kacc:=kacc.trans kH8
  have rs:=kH8.rd rs (by simp)
  refine Za rfl<|YS (b:=L1.next) (o:=0) rfl rfl c8 (by omega) rfl rfl (by simp) ?_
  intro H9 kH9 nH9 sH9
  have mH9:=kH9.1
  have hk:=hk.new kH9 (fun b hb=>by simp at hb ⊢;omega)
  have d8:=kH9.cl d8 (by first | (simp;done) | (simp;omega))
  have d9:=kH9.cl d9 (by first | (simp;done) | (simp;omega))
  have kacc:=kacc.new kH9 (fun b hb=>by simp at hb ⊢;omega)
  have rs:=kH9.rd rs (by first | (simp;done) | (simp;omega))
  have c8:Cl H9 L1.next [iv ((y.ss.getD k Sd.z).x),iv ((y.ss.getD k Sd.z).y),iv ((y.ss.getD k Sd.z).u),iv ((y.ss.getD k Sd.z).t)]:=sH9
  refine Zb<|Wf<|Zz (b:=L1.next) (o:=0) rfl<|Z8 (b:=L1.next) (o:=0) (v:=iv ((y.ss.getD k Sd.z).x)) rfl c8.rd rfl<|Zz (b:=H3.next) (o:=0) rfl<|Z8 (b:=H3.next) (o:=0) (v:=iv ((jB y (y.js.getD i Jb.z)).x)) rfl d8.rd rfl<|Q2 (a:=(y.ss.getD k Sd.z).x) (b:=(jB y (y.js.getD i Jb.z)).x) rfl rfl ⟨by omega,by omega⟩ ?_
  obtain ⟨H10,fH10,kH10⟩:=Za5 (kn:=kn) (lo:=H9.next) (H:=H9) (n:=((y.ss.getD k Sd.z).x) - ((jB y (y.js.getD i Jb.z)).x)) ⟨by omega,by omega⟩
  have bH10:=qQ (n:=((y.ss.getD k Sd.z).x) - ((jB y (y.js.getD i Jb.z)).x)) ⟨by omega,by omega⟩
  refine UB (vs:=[iv (((y.ss.getD k Sd.z).x) - ((jB y (y.js.getD i Jb.z)).x))]) rfl rfl (Zk fH10) ?_
  have mH10:=kH10.1
  have hk:=hk.trans kH10
  have d8:=kH10.cl d8 (by simp)
  have d9:=kH10.cl d9 (by simp)
  have kacc:=kacc.trans kH10
  have rs:=kH10.rd rs (by simp)
  have c8:=kH10.cl c8 (by simp)
  refine Zz (b:=L1.next) (o:=0) rfl<|Z8 (b:=L1.next) (o:=1) (v:=iv ((y.ss.getD k Sd.z).y)) rfl c8.rd rfl<|Zz (b:=H3.next) (o:=0) rfl<|Z8 (b:=H3.next) (o:=1) (v:=iv ((jB y (y.js.getD i Jb.z)).y)) rfl d8.rd rfl<|Q2 (a:=(y.ss.getD k Sd.z).y) (b:=(jB y (y.js.getD i Jb.z)).y) rfl rfl ⟨by omega,by omega⟩ ?_
  obtain ⟨H11,fH11,kH11⟩:=Za5 (kn:=kn) (lo:=H10.next) (H:=H10) (n:=((y.ss.getD k Sd.z).y) - ((jB y (y.js.getD i Jb.z)).y)) ⟨by omega,by omega⟩
  have bH11:=qQ (n:=((y.ss.getD k Sd.z).y) - ((jB y (y.js.getD i Jb.z)).y)) ⟨by omega,by omega⟩
  refine UB (vs:=[iv (((y.ss.getD k Sd.z).y) - ((jB y (y.js.getD i Jb.z)).y))]) rfl rfl (Zk fH11) ?_
  have mH11:=kH11.1
  have hk:=hk.trans kH11
  have d8:=kH11.cl d8 (by simp)
  have d9:=kH11.cl d9 (by simp)
  have kacc:=kacc.trans kH11
  have rs:=kH11.rd rs (by simp)
  have c8:=kH11.cl c8 (by simp)
  refine Q3 (a:=((((y.ss.getD k Sd.z).x) - ((jB y (y.js.getD i Jb.z)).x)) * (((y.ss.getD k Sd.z).x) - ((jB y (y.js.getD i Jb.z)).x)))) (b:=((((y.ss.getD k Sd.z).y) - ((jB y (y.js.getD i Jb.z)).y)) * (((y.ss.getD k Sd.z).y) - ((jB y (y.js.getD i Jb.z)).y)))) rfl rfl ⟨by omega,by omega⟩<|Zz (b:=H4.next) (o:=0) rfl<|Z8 (b:=H4.next) (o:=0) (v:=iv ((jP y (y.js.getD i Jb.z)).re)) rfl d9.rd rfl ?_
  obtain ⟨H12,fH12,kH12⟩:=Za5 (kn:=kn) (lo:=lo) (H:=H11) (n:=(jP y (y.js.getD i Jb.z)).re) ⟨by omega,by omega⟩
  have bH12:=qQ (n:=(jP y (y.js.getD i Jb.z)).re) ⟨by omega,by omega⟩
  refine Zai (vs:=[iv ((jP y (y.js.getD i Jb.z)).re)]) rfl (Zk fH12) ?_
  have mH12:=kH12.1
  have hk:=hk.trans kH12
  have d8:=kH12.cl d8 (by simp)
  have d9:=kH12.cl d9 (by simp)
  have kacc:=kacc.trans kH12
  have rs:=kH12.rd rs (by simp)
  have c8:=kH12.cl c8 (by simp)
  have hnear:((((((y.ss.getD k Sd.z).x) - ((jB y (y.js.getD i Jb.z)).x)) * (((y.ss.getD k Sd.z).x) - ((jB y (y.js.getD i Jb.z)).x)))+((((y.ss.getD k Sd.z).y) - ((jB y (y.js.getD i Jb.z)).y)) * (((y.ss.getD k Sd.z).y) - ((jB y (y.js.getD i Jb.z)).y))))≤(((jP y (y.js.getD i Jb.z)).re) * ((jP y (y.js.getD i Jb.z)).re)))↔((y.ss.getD k Sd.z).x - (jB y (y.js.getD i Jb.z)).x) * ((y.ss.getD k Sd.z).x - (jB y (y.js.getD i Jb.z)).x)+((y.ss.getD k Sd.z).y - (jB y (y.js.getD i Jb.z)).y) * ((y.ss.getD k Sd.z).y - (jB y (y.js.getD i Jb.z)).y)≤(jP y (y.js.getD i Jb.z)).re * (jP y (y.js.getD i Jb.z)).re:=Iff.rfl
  obtain ⟨nr,hnr⟩:∃ nr:Bool,decide ((((((y.ss.getD k Sd.z).x) - ((jB y (y.js.getD i Jb.z)).x)) * (((y.ss.getD k Sd.z).x) - ((jB y (y.js.getD i Jb.z)).x)))+((((y.ss.getD k Sd.z).y) - ((jB y (y.js.getD i Jb.z)).y)) * (((y.ss.getD k Sd.z).y) - ((jB y (y.js.getD i Jb.z)).y))))≤(((jP y (y.js.getD i Jb.z)).re) * ((jP y (y.js.getD i Jb.z)).re)))=nr:=⟨_,rfl⟩
  have hnp:nr=true↔((y.ss.getD k Sd.z).x - (jB y (y.js.getD i Jb.z)).x) * ((y.ss.getD k Sd.z).x - (jB y (y.js.getD i Jb.z)).x)+((y.ss.getD k Sd.z).y - (jB y (y.js.getD i Jb.z)).y) * ((y.ss.getD k Sd.z).y - (jB y (y.js.getD i Jb.z)).y)≤(jP y (y.js.getD i Jb.z)).re * (jP y (y.js.getD i Jb.z)).re:=by rw [← hnr,decide_eq_true_eq]
  refine yj (a:=((((y.ss.getD k Sd.z).x) - ((jB y (y.js.getD i Jb.z)).x)) * (((y.ss.getD k Sd.z).x) - ((jB y (y.js.getD i Jb.z)).x)))+((((y.ss.getD k Sd.z).y) - ((jB y (y.js.getD i Jb.z)).y)) * (((y.ss.getD k Sd.z).y) - ((jB y (y.js.getD i Jb.z)).y)))) (b:=(((jP y (y.js.getD i Jb.z)).re) * ((jP y (y.js.getD i Jb.z)).re))) rfl rfl ?_
  rw [hnr]
  refine ZJ rfl ?_
  refine Y7 (by repeat' first | exact True.intro | exact (fun h=>h) | refine And.intro ?_ ?_ | (intro h;have h:(_:Nat)=_:=h;omega)) ?_
  refine Zd<|Za rfl<|Za rfl ?_
  cases nr
  ·have hnq:=fun q=>Bool.false_ne_true (hnp.2 q)
   refine Zh rfl<|Zh rfl<|Zh rfl<|Zh rfl<|Zg (v:=.bool false) rfl rfl<|Za rfl<|Zh rfl<|Zh rfl<|Zh rfl<|Zh rfl<|Zh rfl<|Zh rfl<|Zh rfl<|Zg (v:=.bool false) rfl rfl<|Zb<|YE ?_
   have hrc:rcB y (y.js.getD i Jb.z) d (y.ss.getD k Sd.z)=false:=by rw [← Bool.not_eq_true];simp only [rcB,Bool.and_eq_true,decide_eq_true_eq];intro q;first | exact hnq q.1.1 | omega
   first | refine ZE ?_ | skip
   show Zw _ _ _ _ _ _ _ _
   refine YK (a:=(k:Int)) (b:=1) rfl rfl ⟨by omega,by omega⟩<|Za rfl<|Zb ?_
   have hacc2:Acc lo H7.next 3 H12 wv (rcT y (y.js.getD i Jb.z) d (k+1)).length (cI (rcT y (y.js.getD i Jb.z) d (k+1))):=by rw [ZaK hrc];exact hacc.keep kacc
   exact ⟨q - 1,(k+1,_),by omega,⟨by simp only [];omega,hk,by omega,d8,d9,hacc2⟩,rfl,rfl,rfl,rfl,rfl,rfl,rfl,trivial⟩
  ·have hnq:=hnp.1 rfl
   refine ZD rfl (Za rfl ?_)
   refine ZD rfl (Zq (b:=L1.next) (o:=0) rfl ?_)
   refine ZD rfl (ZG (b:=L1.next) (o:=3) (v:=iv ((y.ss.getD k Sd.z).t)) rfl c8.rd rfl ?_)
   refine ZD rfl (Wy (a:=d) (b:=(y.ss.getD k Sd.z).t) rfl rfl ?_)
   intro t2 g2;cases t2
   ·have g2:¬ (d≤((y.ss.getD k Sd.z).t)):=of_decide_eq_false g2
    refine Zg (v:=.bool false) rfl rfl<|Za rfl<|Zh rfl<|Zh rfl<|Zh rfl<|Zh rfl<|Zh rfl<|Zh rfl<|Zh rfl<|Zg (v:=.bool false) rfl rfl<|Zb<|YE ?_
    have hrc:rcB y (y.js.getD i Jb.z) d (y.ss.getD k Sd.z)=false:=by rw [← Bool.not_eq_true];simp only [rcB,Bool.and_eq_true,decide_eq_true_eq];intro q;first | exact hnq q.1.1 | omega
    first | refine ZE ?_ | skip
    show Zw _ _ _ _ _ _ _ _
    refine YK (a:=(k:Int)) (b:=1) rfl rfl ⟨by omega,by omega⟩<|Za rfl<|Zb ?_
    have hacc2:Acc lo H7.next 3 H12 wv (rcT y (y.js.getD i Jb.z) d (k+1)).length (cI (rcT y (y.js.getD i Jb.z) d (k+1))):=by rw [ZaK hrc];exact hacc.keep kacc
    exact ⟨q - 1,(k+1,_),by omega,⟨by simp only [];omega,hk,by omega,d8,d9,hacc2⟩,rfl,rfl,rfl,rfl,rfl,rfl,rfl,trivial⟩
   ·have g2:d≤((y.ss.getD k Sd.z).t):=of_decide_eq_true g2
    refine Zg (v:=.bool true) rfl rfl<|Za rfl ?_
    refine ZD rfl (Zq (b:=L1.next) (o:=0) rfl ?_)
    refine ZD rfl (ZG (b:=L1.next) (o:=2) (v:=iv ((y.ss.getD k Sd.z).u)) rfl c8.rd rfl ?_)
    refine ZD rfl (Za rfl ?_)
    refine ZD rfl (Zq (b:=H4.next) (o:=0) rfl ?_)
    refine ZD rfl (ZG (b:=H4.next) (o:=1) (v:=iv ((jP y (y.js.getD i Jb.z)).st)) rfl d9.rd rfl ?_)
    refine ZD rfl (YK (a:=d) (b:=(jP y (y.js.getD i Jb.z)).st) rfl rfl ⟨by omega,by omega⟩ ?_)
    refine ZD rfl (Wy (a:=(y.ss.getD k Sd.z).u) (b:=d+((jP y (y.js.getD i Jb.z)).st)) rfl rfl ?_)
    intro t3 g3;cases t3
    ·have g3:¬ (((y.ss.getD k Sd.z).u)≤(d+((jP y (y.js.getD i Jb.z)).st))):=of_decide_eq_false g3
     refine Zg (v:=.bool false) rfl rfl<|Zb<|YE ?_
     have hrc:rcB y (y.js.getD i Jb.z) d (y.ss.getD k Sd.z)=false:=by rw [← Bool.not_eq_true];simp only [rcB,Bool.and_eq_true,decide_eq_true_eq];intro q;first | exact hnq q.1.1 | omega
     first | refine ZE ?_ | skip
     show Zw _ _ _ _ _ _ _ _
     refine YK (a:=(k:Int)) (b:=1) rfl rfl ⟨by omega,by omega⟩<|Za rfl<|Zb ?_
     have hacc2:Acc lo H7.next 3 H12 wv (rcT y (y.js.getD i Jb.z) d (k+1)).length (cI (rcT y (y.js.getD i Jb.z) d (k+1))):=by rw [ZaK hrc];exact hacc.keep kacc
     exact ⟨q - 1,(k+1,_),by omega,⟨by simp only [];omega,hk,by omega,d8,d9,hacc2⟩,rfl,rfl,rfl,rfl,rfl,rfl,rfl,trivial⟩
    ·have g3:((y.ss.getD k Sd.z).u)≤(d+((jP y (y.js.getD i Jb.z)).st)):=of_decide_eq_true g3
     refine Zg (v:=.bool true) rfl rfl<|Zb<|YC ?_
     have hrc:rcB y (y.js.getD i Jb.z) d (y.ss.getD k Sd.z)=true:=by simp only [rcB,Bool.and_eq_true,decide_eq_true_eq];exact ⟨⟨hnq,by omega⟩,by omega⟩
     show Zw _ _ _ _ _ _ _ _
     refine Za rfl<|Za rfl ?_
     obtain ⟨H13,hH13⟩:∃ H13,H12.new (.cells [iv (k:Int)] 3 false)=H13:=⟨_,rfl⟩
     refine XJ (H':=H13) (k:=.heavy) rfl (by kernel_rfl) ((WI (v:=iv (k:Int)) yu zo3 rfl rfl rfl (by decide)).trans (by rw [← hH13];rfl)) (fun b e=>by cases e) ?_
     obtain ⟨kH13,nH13,c13⟩:=ZR hH13;clear hH13
     have c13:Cl H13 H12.next [iv (k:Int)]:=c13
     have mH13:=kH13.1
     have hk:=hk.trans kH13
     have d8:=kH13.cl d8 (by simp)
     have d9:=kH13.cl d9 (by simp)
     have kacc:=kacc.trans kH13
     have rs:=kH13.rd rs (by simp)
     have c8:=kH13.cl c8 (by simp)
     obtain ⟨H14,kdH14,eH14,dH14,aH14,kbH14⟩:=UJ (P:=Try.prog) (lo:=lo) (k:=(rcT y (y.js.getD i Jb.z) d k).length) (t1:=28) yu Zc0 (c13.sl (Nat.le_refl 1)) rfl (by decide) rfl (by rw [Za1];omega) (by omega) (hacc.keep kacc) (by omega) (by omega)
     refine XJ (k:=kdH14) rfl (by cases wv<;>kernel_rfl) (eH14 _ _ _ _ _ _ _ rfl rfl) (zk dH14 _) ?_
     have hk:=kbH14.keep hk (by omega)
     have d8:=kbH14.cl d8 (by omega)
     have d9:=kbH14.cl d9 (by omega)
     have mH14:=kbH14.1
     refine Za rfl<|Zb ?_
     show Zw _ _ _ _ _ _ _ _
     refine YK (a:=(k:Int)) (b:=1) rfl rfl ⟨by omega,by omega⟩<|Za rfl<|Zb ?_
     have hacc2:Acc lo H7.next 3 H14 (.slice (some ⟨H13.next,0,none⟩) ((rcT y (y.js.getD i Jb.z) d k).length+1) ((rcT y (y.js.getD i Jb.z) d k).length+1)) (rcT y (y.js.getD i Jb.z) d (k+1)).length (cI (rcT y (y.js.getD i Jb.z) d (k+1))):=by rw [Zed hrc];unfold cI at *;rw [List.map_append,List.length_append];exact aH14
     exact ⟨q - 1,(k+1,_),by omega,⟨by simp only [];omega,hk,by omega,d8,d9,hacc2⟩,rfl,rfl,rfl,rfl,rfl,rfl,rfl,trivial⟩
 ·have q1:¬ ((k:Int) < (y.ss.length:Int)):=of_decide_eq_false q1
  first | (refine Ve ?_;show wC _ _ _ _ _ _ _ _ _) | skip
  refine Zd<|Za rfl<|Za rfl<|Zb ?_
  have ein:k=y.ss.length:=by omega
  rw [ein] at hacc
  exact And.intro trivial (Exists.intro _ (And.intro rfl ⟨(hacc.keep kacc).low (by omega),hk⟩))
end
end
end Go.Ax

/-! Steps of drawn regions where what is only read lies low (written by program,out of the others). -/
namespace Go.Ax
open Go Go.RowKit
section
variable {P:Program} {kn:Kn} {lo n:Nat} {masks:List Nat} {r:List RO} {ks:List Kd} {S:Rg} {H:Hp} {K:Rg→Hp→Prop} {d:Option Nat} {x y:Operand} {rd:Bool} {a b:Int}
end
end Go.Ax

/-! Lists that append makes side by side;blocks that do not move. -/
namespace Go.Ax
open Go Go.RowKit

def bkv:Value→Option Nat
 | .slice (some ⟨b,_,_⟩) _ _=>some b
 | _=>none
def Ap (v w:Value):Prop:=∀ b c,bkv v=some b→bkv w=some c→b≠c
theorem Ap.symm {v w:Value} (h:Ap v w):Ap w v:=fun b c h1 h2 e=>h c b h2 h1 e.symm
theorem Acc.ap {lo f:Nat} {e:TypeId} {H:Hp} {w:Value} {m:Nat} {ds:List Value} (h:Acc lo f e H w m ds) (i j:Nat):Ap (.slice (some ⟨H.next,0,none⟩) i j) w:=by
 intro b c h1 h2 e1
 rcases h with ⟨_,_,rfl⟩ | ⟨b2,rfl,_,_,_,hn,_⟩
 ·simp [bkv] at h2
 ·simp [bkv] at h1 h2;omega
def AcL (lo f:Nat) (e:TypeId) (H:Hp) (l:List (Value × Nat × List Value)):Prop:=(∀ x∈l,Acc lo f e H x.1 x.2.1 x.2.2)∧l.Pairwise fun x y=>Ap x.1 y.1
theorem AcL.keep {lo f:Nat} {e:TypeId} {H H1:Hp} {l:List (Value × Nat × List Value)} (h:AcL lo f e H l) (k:Zf H H1 []):AcL lo f e H1 l:=⟨fun x hx=>(h.1 x hx).keep k,h.2⟩
theorem AcL.keepW {lo f:Nat} {e:TypeId} {H H1:Hp} {l:List (Value × Nat × List Value)} (h:AcL lo f e H l) {x:Nat} (k:Zf H H1 [x]) (hx:x < f):AcL lo f e H1 l:=⟨fun y hy=>(h.1 y hy).keepW k hx,h.2⟩
def Sc (H:Hp) (b:Nat) (cs:List Value):Prop:=b < H.next∧∃ e,H.t.get b=some (.cells cs e false)
theorem Sc.cl {H:Hp} {b:Nat} {cs:List Value} (h:Sc H b cs):Cl H b cs:=by
 obtain ⟨h1,e,h2⟩:=h;exact ⟨h1,e,false,h2⟩
theorem Sc.lt {H:Hp} {b:Nat} {cs:List Value} (h:Sc H b cs):b < H.next:=h.1
theorem Zf.sc {H H1:Hp} {l:List Nat} (k:Zf H H1 l) {b:Nat} {cs:List Value} (h:Sc H b cs) (hl:b ∉ l):Sc H1 b cs:=by
 obtain ⟨h1,e,h2⟩:=h;exact ⟨Nat.lt_of_lt_of_le h1 k.1,e,by rw [k.2 b h1 hl];exact h2⟩
theorem Wq.sc {f:Nat} {H H1:Hp} (k:Wq f H H1) {b:Nat} {cs:List Value} (h:Sc H b cs) (hl:b < f):Sc H1 b cs:=by
 obtain ⟨h1,e,h2⟩:=h;exact ⟨Nat.lt_of_lt_of_le h1 k.1,e,by rw [k.2 b hl];exact h2⟩
def Fx (H:Hp) (b:Nat) (cs:List Value):Prop:=b < H.next∧(H.t.get b=some (.ro cs)∨(∃ e,H.t.get b=some (.cells cs e false))∨H.t.get b=some (.cells cs 3 true))
theorem Fx.rd {H:Hp} {b:Nat} {cs:List Value} (h:Fx H b cs):Rd H b cs:=by
 obtain ⟨h1,h2 | ⟨e,h2⟩ | h2⟩:=h<;>exact ⟨h1,by unfold cellsOf;rw [h2]⟩
theorem Fx.lt {H:Hp} {b:Nat} {cs:List Value} (h:Fx H b cs):b < H.next:=h.1
end Go.Ax

/-
 Pool: the days of a job (48,79,46) (written by program).
-/
namespace Go.Ax
open Go Go.RowKit Go.Proofs

noncomputable section
theorem We {P:Program} {lo:Nat} {H:Hp} {t0 t1 e ep:TypeId} {size k cap2 f:Nat} {a:Option Addr} {v:Value} {cs news:List Value} (he:Z7 P t0=some (e,size)) (ht:P.underlying t1=some (.slice ep))
  (hs:Sl H a 1 cap2 news) (hl:news.length=1 * size) (hz:0 < size) (hone:news.all one=true) (hcl:cs.length=k * size) (hk:k < 1000) (ha:Acc lo f e H v k cs) (hlo:lo≤H.next) (hf:f≤H.next) :
  ∃ H1 kd,(∀ (n:Nat) (S:Rg) (d:Option Tmp) (x y:Operand) (ty:TypeId) (p:String),evS S x=some v→evS S y=some (.slice a 1 cap2)→Zt P lo (frS n S) H ⟨d,.call ⟨.builtin .append,#[x,y],#[t0,t1]⟩,ty,p,#[],none⟩=some (.val (.slice (some ⟨H.next,0,none⟩) (k+1) (k+1)) H1,kd))∧(kd=.heavy∨∃ b,kd=.store b∧f≤b)∧
   Acc lo f e H1 (.slice (some ⟨H.next,0,none⟩) (k+1) (k+1)) (k+1) (cs ++ news)∧Zf H H1 (bkv v).toList:=by
 rcases ha with ⟨rfl,rfl,rfl⟩ | ⟨b,rfl,h0,hb,hlb,hn,hg⟩
 ·refine ⟨H.new (.cells news e true),.heavy,?_,.inl rfl,?_,(ZR rfl).1.mono (by simp)⟩
  ·intro n S d x y ty p hx hy
   unfold Zt
   simp only [evs,Yx,hx,hy,Ys,List.getElem?_toArray,List.getElem?_cons_zero,List.getElem?_cons_succ,he,ht,KS hs hl,Z4]
   rfl
  ·refine .inr ⟨H.next,rfl,by omega,hf,hlo,Nat.lt_succ_self _,?_⟩
   show (H.t.set H.next _).get H.next=_
   rw [Tr.get_set,if_pos rfl];rfl
 ·have h1:Nat.ble (0+(k+1) * size) cs.length=false:=by
   cases h:Nat.ble (0+(k+1) * size) cs.length with
   | false=>rfl
   | true=>have:=Nat.le_of_ble_eq_true h;rw [hcl,Nat.succ_mul] at this;omega
  have h2:Nat.beq (0+k * size) cs.length=true:=by rw [hcl,Nat.zero_add];exact Nat.beq_refl _
  have h3:Nat.ble (k+1) 1048576=true:=Nat.ble_eq_true_of_le (by omega)
  have h4:Nat.beq e e=true:=Nat.beq_refl e
  refine ⟨({ H with t:=H.t.set b .dead }:Hp).new (.cells (cs ++ news) e true),.store b,?_,.inr ⟨b,rfl,hb⟩,?_,?_⟩
  ·intro n S d x y ty p hx hy
   unfold Zt
   simp only [evs,Yx,hx,hy,Ys,List.getElem?_toArray,List.getElem?_cons_zero,List.getElem?_cons_succ,he,ht,KS hs hl,Z4,hg,h1,h2,h3,h4,hone,Nat.ble_eq_true_of_le hlb,Bool.and_self,cond_true,cond_false,List.drop_zero,show Nat.beq 1 0=false from rfl]
  ·refine .inr ⟨H.next,rfl,by omega,hf,hlo,Nat.lt_succ_self _,?_⟩
   show ((H.t.set b .dead).set H.next _).get H.next=_
   rw [Tr.get_set,if_pos rfl]
  ·refine ⟨Nat.le_succ _,fun c hc hn=>?_,fun c xs hc hx=>?_⟩
   ·have hne:c≠b:=by simpa [bkv] using hn
    show ((H.t.set b .dead).set H.next _).get c=_
    rw [Tr.get_set,if_neg (by omega),Tr.get_set,if_neg hne]
   ·have hx:((H.t.set b .dead).set H.next (.cells (cs ++ news) e true)).get c=some (.ro xs):=hx
    have hc:c < H.next+1:=hc
    rw [Tr.get_set] at hx
    split at hx
    ·cases hx
    ·rw [Tr.get_set] at hx
     split at hx
     ·cases hx
     ·exact ⟨by omega,hx⟩
theorem Qf {lo f:Nat} {e:TypeId} {H:Hp} {v:Value} {n:Nat} {cs:List Value} (h:Acc lo f e H v n cs):∀ x∈(bkv v).toList,f≤x∧x < H.next:=by
 intro x hx
 rcases h with ⟨_,_,rfl⟩ | ⟨b,rfl,_,h2,_,h3,_⟩
 ·simp [bkv] at hx
 ·simp [bkv] at hx;subst hx;exact ⟨h2,h3⟩
def nd (y:Yd) (i:Nat):Nat:=(min (y.js.getD i Jb.z).t (dl y (y.js.getD i Jb.z))+1 - (y.js.getD i Jb.z).u).toNat
theorem Zaz {y:Yd} {i:Nat} (h:JbT y (y.js.getD i Jb.z)):nd y i≤41:=by
 have:=h.jj;unfold nd;omega
def dyT (y:Yd) (i:Nat):Nat→List Int
 | 0=>[]
 | n+1=>dyT y i n ++ (if (rcL y (y.js.getD i Jb.z) ((y.js.getD i Jb.z).u+(n:Int))).length=0 then [(y.js.getD i Jb.z).u+(n:Int)] else [])
def dyL (y:Yd) (i:Nat):List Int:=dyT y i (nd y i)
theorem KX {y:Yd} {i:Nat}:∀ n,(dyT y i n).length≤n
 | 0=>Nat.le_refl _
 | n+1=>by
  have:=KX (y:=y) (i:=i) n
  unfold dyT
  rw [List.length_append]
  split<;>simp<;>omega
theorem ZdS {y:Yd} {i n:Nat} (h:(rcL y (y.js.getD i Jb.z) ((y.js.getD i Jb.z).u+(n:Int))).length=0):dyT y i (n+1)=dyT y i n ++ [(y.js.getD i Jb.z).u+(n:Int)]:=by
 show _ ++ (if _ then _ else _)=_;rw [if_pos h]
theorem ZeM {y:Yd} {i n:Nat} (h:¬ (rcL y (y.js.getD i Jb.z) ((y.js.getD i Jb.z).u+(n:Int))).length=0):dyT y i (n+1)=dyT y i n:=by
 show _ ++ (if _ then _ else _)=_;rw [if_neg h,List.append_nil]
section
variable {kn:Kn} {lo:Nat} {H:Hp}
theorem ZcS {a:Ya} {y:Yd} {i:Nat} (hlo:lo≤H.next):∃ H',FnX Try.prog kn lo 48 [.agg (Ya.f a y).toArray,iv (i:Int)] H (.func (.func 79) #[] #[pt H.next,pt (H.next+1)]) H'∧Rd H' H.next (Ya.f a y)∧Rd H' (H.next+1) [iv (i:Int)]∧H'.next=H.next+2∧Zf H H' []:=by
 have key:=Zs (kn:=kn) (lo:=lo) (H:=H) (args:=[.agg (Ya.f a y).toArray,iv (i:Int)]) (Q:=fun w H'=>w=(.func (.func 79) #[] #[pt H.next,pt (H.next+1)])∧Rd H' H.next (Ya.f a y)∧Rd H' (H.next+1) [iv (i:Int)]∧H'.next=H.next+2∧Zf H H' []) Try.func48 B48 N48 Z48 L48 (by simp) ?_
 ·obtain ⟨w,H',h,rfl,q⟩:=key;exact ⟨H',h,q⟩
 have hk:=Zf.refl H []
 refine Zd<|Yc (v:=.agg (Ya.f a y).toArray) rfl ?_
 intro H1 kH1 nH1 c1
 have c1:Cl H1 H.next [.slice a.pa y.ps.length a.pc,.slice a.ba y.bs.length a.bc,.slice a.sa y.ss.length a.sc,.slice a.ja y.js.length a.jc]:=c1
 have mH1:=kH1.1
 have hk:=hk.trans kH1
 refine Yc (v:=iv (i:Int)) rfl ?_
 intro H2 kH2 nH2 c2
 have c2:Cl H2 H1.next [iv (i:Int)]:=c2
 have mH2:=kH2.1
 have hk:=hk.trans kH2
 have c1:=kH2.cl c1 (by simp)
 refine Za rfl<|Zb<|Zd<|Zg (v:=.func (.func 79) #[] #[pt H.next,pt H1.next]) rfl (by kernel_rfl)<|Za rfl<|Zb ?_
 have e2:H1.next=H.next+1:=by omega
 rw [e2] at c2
 exact And.intro trivial (Exists.intro _ (And.intro rfl ⟨by rw [e2];rfl,c1.rd,c2.rd,by omega,hk⟩))
set_option maxRecDepth 100000 in
set_option maxHeartbeats 1000000 in
theorem jA {a:Ya} {y:Yd} (hB:YaB y) (hv:vY y=true) {i:Nat} (hi:i < y.js.length) {J:Nat→Hp→Prop} {l bY bI:Nat} (hlo:lo≤H.next)
  (jm:∀ m H1 H2,J m H1→Zf H1 H2 []→J m H2) (je:∀ m H1,J m H1→Rd H1 bY (Ya.f a y)∧Rd H1 bI [iv (i:Int)]∧YaH H1 a y)
  (step:∀ m H1 v u,u=(y.js.getD i Jb.z).u+((m:Nat):Int)→m < nd y i→J m H1→H.next < H1.next→Acc lo (H.next+1) 3 H1 v (rcL y (y.js.getD i Jb.z) u).length (cI (rcL y (y.js.getD i Jb.z) u))→∃ H2,ZL Try.prog kn lo (.fn (.yield l) #[]) [iv u,v] H1 (.bool true) H2∧J (m+1) H2∧H1.next≤H2.next∧H2.t.get H.next=H1.t.get H.next) (hJ:J 0 H) :
  ∃ H',FnX Try.prog kn lo 79 [.func (.yield l) #[] #[],pt bY,pt bI] H Zd5 H'∧J (nd y i) H':=by
 have key:=Zs (kn:=kn) (lo:=lo) (H:=H) (args:=[.func (.yield l) #[] #[],pt bY,pt bI]) (Q:=fun w H'=>w=Zd5∧J (nd y i) H') Try.func79 B79 N79 Z79 L79 (by simp) ?_
 ·obtain ⟨w,H',h,rfl,q⟩:=key;exact ⟨H',h,q⟩
 have hjt:=z9 hv hi
 have hj:=hjt.jj
 have hjb:=hjt.bb
 have hwl:(jP y (y.js.getD i Jb.z)).wt.length≤8:=hjt.pp.2.2.2.2.2.2.1
 have hB1:=hB.1
 have hB2:=hB.2.1
 have hB3:=hB.2.2.1
 obtain ⟨rY,rI,hy⟩:=je _ _ hJ
 have hk:=Zf.refl H []
 have lY:=rY.lt
 have lI:=rI.lt
 refine Zd ?_
 have sj0:=(hy.keep hk).j
 rcases id sj0 with ⟨_,h0j,_⟩ | ⟨jb,ej,rj,_⟩
 ·omega
 have lj:=rj.1
 have oj:=hy.j.old jb ej
 refine Zq (b:=bY) (o:=0) rfl<|Zq (b:=bY) (o:=0) rfl<|ZG (b:=bY) (o:=3) (v:=.slice a.ja y.js.length a.jc) rfl rY rfl<|ZG (b:=bI) (o:=0) (v:=iv (i:Int)) rfl rI rfl<|Xz (b:=jb) (o:=0) (k:=i) (j:=(i:Int)) (by rw [← ej];rfl) rfl rfl hi<|Yo (b:=jb) (o:=0+i * 4) rfl rj (VD (by omega))<|Y8 ?_
 intro H1 kH1 nH1 c1
 have c1:Cl H1 H.next [iv 0,iv 0,iv 0,iv 0]:=c1
 have mH1:=kH1.1
 have hk:=hk.trans kH1
 have rY:=kH1.rd rY (by simp)
 have rI:=kH1.rd rI (by simp)
 have rj:=kH1.rd rj (by simp)
 refine YS (b:=H.next) (o:=0) rfl rfl c1 (by omega) rfl rfl (by simp) ?_
 intro H2 kH2 nH2 sH2
 have mH2:=kH2.1
 have hk:=hk.new kH2 (fun b hb=>by simp at hb ⊢;omega)
 have rY:=kH2.rd rY (by first | (simp;done) | (simp;omega))
 have rI:=kH2.rd rI (by first | (simp;done) | (simp;omega))
 have rj:=kH2.rd rj (by first | (simp;done) | (simp;omega))
 have c1:Cl H2 H.next [iv ((y.js.getD i Jb.z).b),iv ((y.js.getD i Jb.z).p),iv ((y.js.getD i Jb.z).u),iv ((y.js.getD i Jb.z).t)]:=sH2
 refine Zb<|Zd<|Zq (b:=H.next) (o:=0) rfl<|ZG (b:=H.next) (o:=2) (v:=iv ((y.js.getD i Jb.z).u)) rfl c1.rd rfl<|Za rfl<|Zb ?_
 have d4:Cl H2 H.next [iv (y.js.getD i Jb.z).b,iv (y.js.getD i Jb.z).p,iv (y.js.getD i Jb.z).u,iv (y.js.getD i Jb.z).t]:=c1
 refine YO (fn:=Try.f79) ZdZ N79 ZdJ (fun z:Nat × Int=>[(0,.func (.yield l) #[] #[]),(1,pt bY),(2,pt bI),(4,pt H.next),(5,iv z.2)])
  (fun k z H'=>z.1+k=nd y i∧z.2=(y.js.getD i Jb.z).u+(z.1:Int)∧H.next < H'.next∧Cl H' H.next [iv (y.js.getD i Jb.z).b,iv (y.js.getD i Jb.z).p,iv (y.js.getD i Jb.z).u,iv (y.js.getD i Jb.z).t]∧J z.1 H') (nd y i) (0,(y.js.getD i Jb.z).u) ⟨by simp,by simp,by omega,d4,jm _ _ _ hJ hk⟩ ⟨rfl,rfl,rfl,rfl,rfl,trivial⟩ ?_
 rintro k ⟨m,u⟩ L1 ⟨hik,hday,hnx,d4,hJ⟩
 simp only [] at hik hday hnx d4 hJ
 obtain ⟨rY,rI,hy⟩:=je _ _ hJ
 have hkl:=Zf.refl L1 []
 have lY:=rY.lt
 have lI:=rI.lt
 refine Wf<|ZJ rfl<|Zz (b:=H.next) (o:=0) rfl<|Z8 (b:=H.next) (o:=3) (v:=iv ((y.js.getD i Jb.z).t)) rfl d4.rd rfl<|Uf (b:=bY) (o:=0) rfl rY (show row 4 (Ya.f a y) 0=some (Ya.f a y) from rfl)<|Uf (b:=H.next) (o:=0) rfl d4.rd (show row 4 (Jb.f (y.js.getD i Jb.z)) 0=some (Jb.f (y.js.getD i Jb.z)) from rfl) ?_
 obtain ⟨H3,fH3,kH3⟩:=ZeB (kn:=kn) (lo:=L1.next) (H:=L1) (hy.keep hkl) hB hjt (by omega)
 refine UB (vs:=[.agg (Ya.f a y).toArray,.agg (Jb.f (y.js.getD i Jb.z)).toArray]) rfl rfl (Zk fH3) ?_
 have mH3:=kH3.1
 have hkl:=hkl.trans kH3
 have rY:=kH3.rd rY (by simp)
 have rI:=kH3.rd rI (by simp)
 have d4:=kH3.cl d4 (by simp)
 refine ZdM (a:=(y.js.getD i Jb.z).t) (b:=(dl y (y.js.getD i Jb.z))) rfl rfl<|yj (a:=u) (b:=min ((y.js.getD i Jb.z).t) (dl y (y.js.getD i Jb.z))) rfl rfl ?_
 refine Y7 (by repeat' first | exact True.intro | exact (fun h=>h) | refine And.intro ?_ ?_ | (intro h;have h:(_:Nat)=_:=h;omega)) ?_
 refine And.intro (fun q1=>?_) (fun q1=>?_)
 ·have q1:u≤(min ((y.js.getD i Jb.z).t) (dl y (y.js.getD i Jb.z))):=of_decide_eq_true q1
  have hmn:m < nd y i:=by unfold nd;omega
  first | refine ZE ?_ | skip
  refine Zd<|Za rfl<|Za rfl<|Yo (b:=bY) (o:=0) rfl rY (show row 4 (Ya.f a y) 0=some (Ya.f a y) from rfl)<|ZG (b:=bI) (o:=0) (v:=iv (i:Int)) rfl rI rfl<|Za rfl ?_
  have hnd:=Zaz hjt
  obtain ⟨v,H4,fH4,aH4,kH4⟩:=yV (kn:=kn) (lo:=lo) (H:=H3) (hy.keep hkl) hB hv hi (d:=u) (by omega) (by omega)
  have aH4:Acc lo (H.next+1) 3 H4 v (rcL y (y.js.getD i Jb.z) u).length (cI (rcL y (y.js.getD i Jb.z) u)):=aH4.low (by omega)
  refine Zr (vs:=[.agg (Ya.f a y).toArray,iv (i:Int),iv u]) rfl (Zk fH4) ?_
  have mH4:=kH4.1
  have hkl:=hkl.trans kH4
  have rY:=kH4.rd rY (by simp)
  have rI:=kH4.rd rI (by simp)
  have d4:=kH4.cl d4 (by simp)
  obtain ⟨H5,fH5,hJ2,mH5,gH5⟩:=step m H4 v u hday hmn (jm _ _ _ hJ hkl) (by omega) aH4
  refine Zr (vs:=[iv u,v]) rfl fH5 ?_
  have d4:Cl H5 H.next _:=⟨by omega,by rw [gH5];exact d4.2⟩
  refine Zg (v:=.bool false) rfl rfl<|Zb<|YE ?_
  first | refine ZE ?_ | skip
  show Zw _ _ _ _ _ _ _ _
  refine Za rfl<|YK (a:=u) (b:=1) rfl rfl ⟨by omega,by omega⟩<|Za rfl<|Zb ?_
  exact ⟨k - 1,(m+1,_),by omega,⟨by simp only [];omega,by simp only [];omega,by omega,d4,hJ2⟩,rfl,rfl,rfl,rfl,rfl,trivial⟩
 ·have q1:¬ (u≤(min ((y.js.getD i Jb.z).t) (dl y (y.js.getD i Jb.z)))):=of_decide_eq_false q1
  first | (refine Ve ?_;show wC _ _ _ _ _ _ _ _ _) | skip
  have ein:m=nd y i:=by unfold nd at hik ⊢;omega
  subst ein
  exact And.intro trivial (Exists.intro _ (And.intro rfl ⟨rfl,jm _ _ _ hJ hkl⟩))
noncomputable abbrev zI:Code:=at_ Try.f46 [1,1,0,1,0,0]
noncomputable abbrev Jx:Code:=at_ Try.f46 [1,1,0,1,0,1]
abbrev S46 (h:Nat):Rg:=[(5,pt (h+1))]
structure J46 (lo:Nat) (a:Ya) (y:Yd) (i:Nat) (H0:Hp) (m:Nat) (H':Hp):Prop where
 acc:∃ v,Cl H' (H0.next+1) [v]∧Acc lo (H0.next+7) 3 H' v (dyT y i m).length (cI (dyT y i m))
 rY:Rd H' (H0.next+2) (Ya.f a y)
 rI:Rd H' (H0.next+3) [iv (i:Int)]
 lp:Lp Try.prog H' (H0.next+5) .ready none 21 (S46 H0.next) [11,12] zI Jx (H0.next+4)
 dfr:H'.t.get (H0.next+4)=some (.dfr (some []))
 ll:H0.next+6≤H'.next
 kp:Zf H0 H' []
theorem J46.keep {lo:Nat} {a:Ya} {y:Yd} {i:Nat} {H0:Hp} {m:Nat} {H1 H2:Hp} (j:J46 lo a y i H0 m H1) (k:Zf H1 H2 []):J46 lo a y i H0 m H2:=by
 have ll:=j.ll
 obtain ⟨v,c,q⟩:=j.acc
 exact ⟨⟨v,k.cl c (by simp),q.keep k⟩,k.rd j.rY (by simp),k.rd j.rI (by simp),j.lp.keep k (by omega) (by simp),by rw [k.2 _ (by omega) (by simp)];exact j.dfr,Nat.le_trans j.ll k.1,j.kp.trans k⟩
set_option maxRecDepth 100000 in
theorem ZbE {a:Ya} {y:Yd} {i:Nat} {H0:Hp} {m:Nat} {u:Int} {sa:Option Addr} {ln cap:Nat} (hlo:lo≤H0.next) (hu:u=(y.js.getD i Jb.z).u+(m:Int)) (hln:(rcL y (y.js.getD i Jb.z) u).length=ln) (hm:m < 41) (j:J46 lo a y i H0 m H) (hnx:H0.next+7≤H.next) :
  ∃ H',ZL Try.prog kn lo (.fn (.yield (H0.next+5)) #[]) [iv u,.slice sa ln cap] H (.bool true) H'∧J46 lo a y i H0 (m+1) H'∧H.next≤H'.next∧H'.t.get (H0.next+6)=H.t.get (H0.next+6):=by
 have L1:low Try.prog 21 zI=some R46x1:=N46 ▸ Zd8
 have L2:low Try.prog 21 Jx=some R46x2:=N46 ▸ ZdW
 have key:=ZaN (kn:=kn) (P:=Try.prog) (lo:=lo) (S1:=(12,.slice sa ln cap) :: (11,iv u) :: S46 H0.next) (args:=[iv u,.slice sa ln cap]) (Q:=fun t H'=>t=true∧J46 lo a y i H0 (m+1) H'∧H.next≤H'.next∧H'.t.get (H0.next+6)=H.t.get (H0.next+6)) j.lp (by omega) (by rfl) rfl (Yz true _ L1 ?_)
 ·obtain ⟨t,H',h,rfl,q⟩:=key;exact ⟨H',h,q⟩
 have ll:=j.ll
 refine Zd<|Za rfl<|Zb<|zp<|Za rfl<|Zb ?_
 refine And.intro trivial (And.intro j.lp ?_)
 intro H3 s3
 have k3:=s3.keep
 have hn3:H3.next=H.next:=s3.1
 have lp3:=s3.lp j.lp
 have nl:∀ x,x≠H0.next+5→x ∉ [H0.next+5]:=fun x hx=>by simpa using hx
 obtain ⟨v0,c50,hacc⟩:=j.acc
 have c5:=k3.cl c50 (nl _ (by omega))
 have hacc:=hacc.keepW k3 (by omega)
 have hbk:=Qf hacc
 have hdl:=KX (y:=y) (i:=i) m
 have fin:∀ H4 v4,Zf H3 H4 ((H0.next+1) :: (bkv v0).toList)→Cl H4 (H0.next+1) [v4]→Acc lo (H0.next+7) 3 H4 v4 (dyT y i (m+1)).length (cI (dyT y i (m+1)))→
   Lp Try.prog H4 (H0.next+5) .busy none 21 (S46 H0.next) [11,12] zI Jx (H0.next+4)∧∀ H5,Vg H4 (H0.next+5) .ready none H5→(true=true∧J46 lo a y i H0 (m+1) H5∧H.next≤H5.next∧H5.t.get (H0.next+6)=H.t.get (H0.next+6)):=by
  intro H4 v4 k4 d5 e5
  have m4:=k4.1
  have nn:∀ x,x≠H0.next+1→x < H0.next+7→x ∉ ((H0.next+1) :: (bkv v0).toList):=fun x h1 h2 q=>by
   rcases List.mem_cons.1 q with q | q
   ·exact h1 q
   ·have:=hbk x q;omega
  have lp4:=lp3.keep k4 (by omega) (nn _ (by omega) (by omega))
  refine ⟨lp4,fun H5 s5=>?_⟩
  have k5:=s5.keep
  have hn5:H5.next=H4.next:=s5.1
  have g:∀ x,x≠H0.next+1→x≠H0.next+5→x < H0.next+7→H5.t.get x=H.t.get x:=fun x h1 h2 h3=>by rw [k5.2 _ (by omega) (nl _ h2),k4.2 _ (by omega) (nn _ h1 h3),k3.2 _ (by omega) (nl _ h2)]
  have rd:∀ x cs,x≠H0.next+1→x≠H0.next+5→x < H0.next+7→Rd H x cs→Rd H5 x cs:=fun x cs h1 h2 h3 q=>k5.rd (k4.rd (k3.rd q (nl _ h2)) (nn _ h1 h3)) (nl _ h2)
  have kp3:=j.kp.new k3 (fun b q=>.inr (by simp at q;omega))
  have kp4:Zf H0 H4 []:=kp3.new k4 (fun b q=>.inr (by
   rcases List.mem_cons.1 q with q | q
   ·omega
   ·have:=hbk b q;omega))
  exact ⟨rfl,⟨⟨v4,k5.cl d5 (nl _ (by omega)),e5.keepW k5 (by omega)⟩,rd _ _ (by omega) (by omega) (by omega) j.rY,rd _ _ (by omega) (by omega) (by omega) j.rI,s5.lp lp4,by rw [g _ (by omega) (by omega) (by omega)];exact j.dfr,by omega,kp4.new k5 (fun b q=>.inr (by simp at q;omega))⟩,by omega,g _ (by omega) (by omega) (by omega)⟩
 have hk:=Zf.refl H3 ((H0.next+1) :: (bkv v0).toList)
 have kacc:=Zf.refl H3 []
 refine Yz true _ L2 ?_
 refine Zd<|Za rfl<|YI (m:=ln) rfl<|jN (a:=(ln:Int)) (b:=0) rfl rfl<|Zb ?_
 refine And.intro (fun q1=>?_) (fun q1=>?_)
 ·have q1:(ln:Int)=0:=by simpa using q1
  show Zw _ _ _ _ _ _ _ _
  refine ZG (b:=(H0.next+1)) (o:=0) (v:=v0) rfl c5.rd rfl<|Za rfl ?_
  obtain ⟨H1,hH1⟩:∃ H1,H3.new (.cells [iv u] 3 false)=H1:=⟨_,rfl⟩
  refine XJ (H':=H1) (k:=.heavy) rfl (by kernel_rfl) ((WI (v:=iv u) yu zo3 rfl rfl rfl (by decide)).trans (by rw [← hH1];rfl)) (fun b e=>by cases e) ?_
  obtain ⟨kH1,nH1,c1⟩:=ZR hH1;clear hH1
  have c1:Cl H1 H3.next [iv u]:=c1
  have mH1:=kH1.1
  have hk:=hk.new kH1 (fun b hb=>.inl (by first | exact List.mem_cons_of_mem _ hb | (simp at hb;done) | (simp at hb;simp [hb])))
  have c5:=kH1.cl c5 (by simp)
  have kacc:=kacc.trans kH1
  obtain ⟨H2,kdH2,eH2,dH2,aH2,kbH2⟩:=We (P:=Try.prog) (lo:=lo) (k:=(dyT y i m).length) (t1:=28) yu Zc0 (c1.sl (Nat.le_refl 1)) rfl (by decide) rfl (by rw [Za1];omega) (by omega) (hacc.keep kacc) (by omega) (by omega)
  refine XJ (k:=kdH2) rfl (by cases v0<;>kernel_rfl) (eH2 _ _ _ _ _ _ _ rfl rfl) (zk dH2 _) ?_
  have hk:=hk.new kbH2 (fun b hb=>.inl (by first | exact List.mem_cons_of_mem _ hb | (simp at hb;done) | (simp at hb;simp [hb])))
  have c5:=kbH2.cl c5 (fun hx=>by have:=hbk _ hx;omega)
  have mH2:=kbH2.1
  refine Zcs (b:=(H0.next+1)) (o:=0) rfl rfl c5 (by omega) rfl rfl (by simp) ?_
  intro H3 kH3 nH3 sH3
  have mH3:=kH3.1
  have hk:=hk.new kH3 (fun b hb=>.inl (by first | exact List.mem_cons_of_mem _ hb | (simp at hb;done) | (simp at hb;simp [hb])))
  have c5:Cl H3 (H0.next+1) [.slice (some ⟨H1.next,0,none⟩) ((dyT y i m).length+1) ((dyT y i m).length+1)]:=sH3
  refine Zb ?_
  have ha2:Acc lo (H0.next+7) 3 H3 (.slice (some ⟨H1.next,0,none⟩) ((dyT y i m).length+1) ((dyT y i m).length+1)) (dyT y i (m+1)).length (cI (dyT y i (m+1))):=by
   rw [ZdS (by rw [← hu];omega),← hu];unfold cI at *;rw [List.map_append,List.length_append];exact aH2.keepW kH3 (by omega)
  exact fin _ _ hk c5 ha2
 ·have q1:¬ ((ln:Int)=0):=by simpa using q1
  first | refine ZE ?_ | skip
  have ha2:Acc lo (H0.next+7) 3 H3 v0 (dyT y i (m+1)).length (cI (dyT y i (m+1))):=by
   rw [ZeM (by rw [← hu];omega)];exact hacc
  exact fin _ _ hk c5 ha2
set_option maxRecDepth 100000 in
theorem Ka {a:Ya} {y:Yd} (hy:YaH H a y) (hB:YaB y) (hv:vY y=true) {i:Nat} (hi:i < y.js.length) (hlo:lo≤H.next) :
  ∃ v H',FnX Try.prog kn lo 46 [.agg (Ya.f a y).toArray,iv (i:Int)] H v H'∧Acc lo H.next 3 H' v (dyL y i).length (cI (dyL y i))∧Zf H H' []:=by
 have key:=Zao (kn:=kn) (lo:=lo) (H:=H) (args:=[.agg (Ya.f a y).toArray,iv (i:Int)]) (Q:=fun w H'=>Acc lo H.next 3 H' w (dyL y i).length (cI (dyL y i))∧Zf H H' []) Try.func46 B46 N46 Z46 L46 (by simp) ?_
 ·exact key
 intro y0 hy0
 refine Y5.lowR hy0 ?_
 refine zp<|Yc (v:=.agg (Ya.f a y).toArray) rfl ?_
 intro H1 k1 n1 c1
 have c1:Cl H1 H.next (Ya.f a y):=c1
 refine Za rfl<|Zb ?_
 intro y1 hy1
 refine Y5.lowR hy1 ?_
 refine zp<|Y8 ?_
 intro H2 k2 n2 c2
 have c2:Cl H2 H1.next [.slice none 0 0]:=c2
 refine Zb ?_
 intro y2 hy2
 refine Y5.lowL hy2 ?_
 intro y3 hy3
 refine Y5.lowR hy3 ?_
 refine zp ?_
 have k02:=k1.trans k2
 refine Yo (b:=H.next) (o:=0) rfl (k2.cl c1 (by simp)).rd (show row 4 (Ya.f a y) 0=some (Ya.f a y) from rfl)<|Za rfl ?_
 have e2:H2.next=H.next+2:=by omega
 obtain ⟨H5,f5,g1,g2,n5,k5⟩:=ZcS (kn:=kn) (lo:=lo) (H:=H2) (a:=a) (y:=y) (i:=i) (by omega)
 refine Zr (vs:=[.agg (Ya.f a y).toArray,iv (i:Int)]) rfl (Zk f5)<|Zb ?_
 intro y4 hy4
 refine Y5.lowB hy4 ?_
 rw [ZdB]
 refine Y5.range rfl ?_
 intro H7 k7 n7 hdf hlp
 have e5:H5.next=H.next+4:=by omega
 have hlp:Lp Try.prog H7 (H5.next+1) .ready none 21 [(5,pt H1.next)] [11,12] zI Jx H5.next:=hlp.weak ⟨rfl,trivial⟩
 rw [show H1.next=H.next+1 by omega,e5] at hlp
 rw [e5] at hdf n7
 have k27:Zf H2 H7 []:=k5.trans k7
 have k07:Zf H H7 []:=k02.trans k27
 have d2:=k27.cl c2 (by simp)
 rw [show H1.next=H.next+1 by omega] at d2
 rw [e2] at g1 g2
 have j0:J46 lo a y i H 0 H7:=⟨⟨_,d2,.inl ⟨rfl,rfl,rfl⟩⟩,k7.rd g1 (by simp),k7.rd g2 (by simp),hlp,hdf,by omega,k07⟩
 have hnd:=Zaz (z9 hv hi)
 obtain ⟨H8,f8,j8⟩:=jA (kn:=kn) (lo:=lo) (H:=H7) (a:=a) (y:=y) hB hv hi (J:=J46 lo a y i H) (l:=H.next+5) (bY:=H.next+2) (bI:=H.next+3) (by omega)
  (fun m H1 H2 j k=>j.keep k) (fun m H1 j=>⟨j.rY,j.rI,hy.keep j.kp⟩)
  (fun m H1 v u hu hm j hn ac=>by
   obtain ⟨sa,cap,rfl,-,-⟩:=ac.sl
   obtain ⟨H2,g2,q2,l2,r2⟩:=ZbE (kn:=kn) hlo hu rfl (by omega) j (by omega)
   exact ⟨H2,g2,q2,l2,by rw [n7];exact r2⟩) j0
 refine Exists.intro _ (Exists.intro H8 (And.intro (ZW rfl (by rw [e2,e5];simpa using f8)) ?_))
 have lp8:Lp Try.prog H8 (H5.next+1) .ready none 21 (S46 H.next) [11,12] zI Jx H5.next:=by rw [e5];exact j8.lp
 refine ⟨.ready,none,_,lp8,by simp,?_⟩
 intro H9 s9
 have k9:=s9.keep
 have hn9:H9.next=H8.next:=s9.1
 rw [e5] at k9
 have ll:=j8.ll
 have nl:∀ x,x≠H.next+5→x ∉ [H.next+4+1]:=fun x hx=>by simp;omega
 have d9:H9.t.get H5.next=some (.dfr (some [])):=by rw [e5,k9.2 _ (by omega) (nl _ (by omega))];exact j8.dfr
 obtain ⟨v,fd,fo⟩:=j8.acc
 have fd:=k9.cl fd (nl _ (by omega))
 have fo:=fo.keepW k9 (by omega)
 have kp9:Zf H H9 []:=j8.kp.new k9 (fun b q=>.inr (by simp at q;omega))
 rw [show H.next+1=H1.next by omega] at fd
 refine Zd<|ZG (b:=H1.next) (o:=0) (v:=v) rfl fd.rd rfl<|Za rfl<|Zb ?_
 refine And.intro trivial (Or.inr ⟨H5.next,rfl,by omega,d9,fun H12 hn12 hk12=>?_⟩)
 exact ⟨[v],rfl,(fo.keepW hk12 (by omega)).low (by omega),kp9.new hk12 (fun b q=>.inr (by simp at q;omega))⟩
end
end
end Go.Ax

/-
 Pool: sets of jobs (102,101,109,108) (written by program).
-/
namespace Go.Ax
open Go Go.RowKit Go.Proofs

noncomputable section
theorem QR {x:Int} (h:0≤x∧x < 256):IntKind.u8.wrap x=x:=by
 unfold IntKind.wrap IntKind.bits IntKind.signed
 simp
 omega
theorem UX {d:Nat} (h:d < 8):2 ^ d < 256:=by
 have:=Nat.pow_lt_pow_right (a:=2) (by decide) h
 simpa using this
theorem Zdz {P:Program} {t:TypeId} {x y:Operand} {d:Nat} (h:d < 8):Zy P (do eqGuard .shl t x y (.int .u8 1) (.int .i64 (d:Int));binOp .shl t (.int .u8 1) (.int .i64 (d:Int)))=some (.int .u8 ((2 ^ d:Nat):Int)):=by
 show Zy P (Op.shift .shl .u8 1 .i64 (d:Int))=_
 unfold Op.shift
 rw [if_neg (by omega)]
 show some (Value.int .u8 (IntKind.u8.wrap (1 * 2 ^ min d 8)))=_
 rw [Nat.min_eq_left (by omega)]
 have:=UX h
 have e:(1:Int) * 2 ^ d=((2 ^ d:Nat):Int):=by rw [Int.one_mul,Int.natCast_pow];rfl
 have h2:((2 ^ d:Nat):Int) < 256:=by
  have:=Int.ofNat_lt.2 this
  exact this
 rw [e,QR ⟨Int.natCast_nonneg _,h2⟩]
theorem ZeC {P:Program} {t:TypeId} {x y:Operand} {m n:Nat} (hm:m < 256) (hn:n < 256):Zy P (do eqGuard .and t x y (.int .u8 (m:Int)) (.int .u8 (n:Int));binOp .and t (.int .u8 (m:Int)) (.int .u8 (n:Int)))=some (.int .u8 ((m &&& n:Nat):Int)):=by
 show some (Value.int .u8 (IntKind.u8.wrap ((BitVec.ofInt 8 (m:Int) &&& BitVec.ofInt 8 (n:Int)).toNat:Int)))=_
 have hb:m &&& n < 256:=Nat.lt_of_le_of_lt Nat.and_le_left hm
 have e:(BitVec.ofInt 8 (m:Int) &&& BitVec.ofInt 8 (n:Int)).toNat=m &&& n:=by
  have h1:BitVec.ofInt 8 (m:Int)=BitVec.ofNat 8 m:=by simp
  have h2:BitVec.ofInt 8 (n:Int)=BitVec.ofNat 8 n:=by simp
  rw [h1,h2,BitVec.toNat_and]
  simp only [BitVec.toNat_ofNat]
  rw [Nat.mod_eq_of_lt hm,Nat.mod_eq_of_lt hn]
 rw [e,QR ⟨by omega,by omega⟩]
theorem Zfi {P:Program} {t:TypeId} {x y:Operand} {m n:Nat} (hm:m < 256) (hn:n < 256):Zy P (do eqGuard .or t x y (.int .u8 (m:Int)) (.int .u8 (n:Int));binOp .or t (.int .u8 (m:Int)) (.int .u8 (n:Int)))=some (.int .u8 ((m ||| n:Nat):Int)):=by
 show some (Value.int .u8 (IntKind.u8.wrap ((BitVec.ofInt 8 (m:Int) ||| BitVec.ofInt 8 (n:Int)).toNat:Int)))=_
 have hb:m ||| n < 256:=Nat.or_lt_two_pow (n:=8) hm hn
 have e:(BitVec.ofInt 8 (m:Int) ||| BitVec.ofInt 8 (n:Int)).toNat=m ||| n:=by
  have h1:BitVec.ofInt 8 (m:Int)=BitVec.ofNat 8 m:=by simp
  have h2:BitVec.ofInt 8 (n:Int)=BitVec.ofNat 8 n:=by simp
  rw [h1,h2,BitVec.toNat_or]
  simp only [BitVec.toNat_ofNat]
  rw [Nat.mod_eq_of_lt hm,Nat.mod_eq_of_lt hn]
 rw [e,QR ⟨by omega,by omega⟩]
theorem ZaF {P:Program} {t:TypeId} {x y:Operand} {m n:Nat} (hm:m < 256) (hn:n < 256):Zy P (do eqGuard .andNot t x y (.int .u8 (m:Int)) (.int .u8 (n:Int));binOp .andNot t (.int .u8 (m:Int)) (.int .u8 (n:Int)))=some (.int .u8 ((m &&& (2 ^ 8 - (n+1)):Nat):Int)):=by
 show some (Value.int .u8 (IntKind.u8.wrap ((BitVec.ofInt 8 (m:Int) &&& ~~~ BitVec.ofInt 8 (n:Int)).toNat:Int)))=_
 have hb:m &&& (2 ^ 8 - (n+1)) < 256:=Nat.lt_of_le_of_lt Nat.and_le_left hm
 have e:(BitVec.ofInt 8 (m:Int) &&& ~~~ BitVec.ofInt 8 (n:Int)).toNat=m &&& (2 ^ 8 - (n+1)):=by
  have h1:BitVec.ofInt 8 (m:Int)=BitVec.ofNat 8 m:=by simp
  have h2:BitVec.ofInt 8 (n:Int)=BitVec.ofNat 8 n:=by simp
  rw [h1,h2,BitVec.toNat_and,BitVec.toNat_not]
  simp only [BitVec.toNat_ofNat]
  rw [Nat.mod_eq_of_lt hm,Nat.mod_eq_of_lt hn,Nat.sub_sub,Nat.add_comm 1 n]
 rw [e,QR ⟨by omega,by omega⟩]
theorem ZcZ {P:Program} {t:TypeId} {x y:Operand} {m:Nat}:Zy P (do eqGuard .neq t x y (.int .u8 (m:Int)) (.int .u8 0);binOp .neq t (.int .u8 (m:Int)) (.int .u8 0))=some (.bool (decide (m≠0))):=by
 show some (Value.bool ((m:Int) != 0))=_
 congr 2
 by_cases h:m=0
 ·subst h;rfl
 ·rw [decide_eq_true h]
  have:¬ (m:Int)=0:=by omega
  simpa using this
section
variable {n:Nat} {S:Rg} {x y:Operand} {o:Option Tmp} {t t2 ty:TypeId} {p:String}
theorem Zep {j:Int} {d:Nat} (h:d < 8) (hx:evS S x=some (.int .u8 1)) (hy:evS S y=some (iv j)) (hj:j=(d:Int)):Zn Try.prog (frS n S) ⟨o,.binOp .shl t x y t2,ty,p,#[],none⟩=some (.int .u8 ((2 ^ d:Nat):Int)):=by
 subst hj
 unfold Zn
 simp only [Yx,hx,hy,flat,Yt,Bool.and_self,cond_true,Zdz h]
theorem Zeb {m k:Nat} (hm:m < 256) (hk:k < 256) (hx:evS S x=some (.int .u8 (m:Int))) (hy:evS S y=some (.int .u8 (k:Int))):Zn Try.prog (frS n S) ⟨o,.binOp .and t x y t2,ty,p,#[],none⟩=some (.int .u8 ((m &&& k:Nat):Int)):=by
 unfold Zn
 simp only [Yx,hx,hy,flat,Yt,Bool.and_self,cond_true,ZeC hm hk]
theorem Zdj {m k:Nat} (hm:m < 256) (hk:k < 256) (hx:evS S x=some (.int .u8 (m:Int))) (hy:evS S y=some (.int .u8 (k:Int))):Zn Try.prog (frS n S) ⟨o,.binOp .or t x y t2,ty,p,#[],none⟩=some (.int .u8 ((m ||| k:Nat):Int)):=by
 unfold Zn
 simp only [Yx,hx,hy,flat,Yt,Bool.and_self,cond_true,Zfi hm hk]
theorem jR {m k:Nat} (hm:m < 256) (hk:k < 256) (hx:evS S x=some (.int .u8 (m:Int))) (hy:evS S y=some (.int .u8 (k:Int))):Zn Try.prog (frS n S) ⟨o,.binOp .andNot t x y t2,ty,p,#[],none⟩=some (.int .u8 ((m &&& (2 ^ 8 - (k+1)):Nat):Int)):=by
 unfold Zn
 simp only [Yx,hx,hy,flat,Yt,Bool.and_self,cond_true,ZaF hm hk]
theorem Zdo {m:Nat} (hm:m≤8) (hx:evS S x=some (.int .u8 (m:Int))):Zn Try.prog (frS n S) ⟨o,.convert 5 3 x,ty,p,#[],none⟩=some (iv (m:Int)):=by
 have e:∀ m:Nat,m≤8→Zy Try.prog (convert 5 3 (.int .u8 (m:Int)))=some (iv (m:Int)):=fun m hm=>by
  obtain rfl | rfl | rfl | rfl | rfl | rfl | rfl | rfl | rfl:m=0∨m=1∨m=2∨m=3∨m=4∨m=5∨m=6∨m=7∨m=8:=by omega
  all_goals kernel_rfl
 unfold Zn
 simp only [Yx,hx,flat,Yt,Bool.and_self,cond_true,e m hm]
theorem Zaf {m:Nat} (hx:evS S x=some (.int .u8 (m:Int))):Zn Try.prog (frS n S) ⟨o,.binOp .neq t x (.const (.int .u8 0)) t2,ty,p,#[],none⟩=some (.bool (decide (m≠0))):=by
 have hy:evS S (.const (.int .u8 0))=some (.int .u8 0):=rfl
 unfold Zn
 simp only [Yx,hx,hy,flat,Yt,Bool.and_self,cond_true,ZcZ]
end
theorem ZfE:Try.prog.underlying 9=some .string:=by kernel_rfl
def ZcD (s:Nat):Option Value→Bool
 | some (.int .u8 x)=>x == (pc8 s:Int)
 | _=>false
theorem ZcE {s:Nat} {v:Option Value} (h:ZcD s v=true):v=some (.int .u8 (pc8 s:Nat)):=by
 unfold ZcD at h
 split at h
 ·simp at h;rw [h]
 ·cases h
theorem ZdU {n : Nat} {S : Rg} {y : Operand} {o : Option Tmp} {b : ByteArray} {s : Nat} (hb : ((List.range 256).all fun s : Nat => ZcD s (Zy Try.prog (Instr.index 9 (.string b) (.int .u8 (s : Int))))) = true) (hs : s < 256) (hy : evS S y = some (.int .u8 (s : Int))) : Zn Try.prog (frS n S) ⟨o, .index 9 (.const (.string b)) y, 5, "", #[], none⟩ = some (.int .u8 (pc8 s : Nat)) := by
 have hx:evS S (.const (.string b))=some (.string b):=rfl
 have h:=ZcE (List.all_eq_true.1 hb s (List.mem_range.2 hs))
 unfold Zn
 simp only [Yx,hx,hy,ZfE,flat,Yt,Bool.and_self,cond_true,h]
theorem ZcA {s:Nat}:pc8 s≤8:=by
 unfold pc8
 exact Nat.le_trans (List.length_filter_le _ _) (by simp)
theorem Zcf {s k:Nat}:(s &&& 2 ^ k≠0)↔s.testBit k=true:=by
 constructor
 ·intro h
  cases e:s.testBit k with
  | true=>rfl
  | false=>
   exfalso
   apply h
   apply Nat.eq_of_testBit_eq
   intro i
   rw [Nat.testBit_and,Nat.testBit_two_pow,Nat.zero_testBit]
   by_cases q:k=i
   ·subst q;rw [e];rfl
   ·rw [decide_eq_false q,Bool.and_false]
 ·intro h e
  have:=congrArg (fun z=>z.testBit k) e
  simp only [Nat.testBit_and,Nat.testBit_two_pow,Nat.zero_testBit] at this
  rw [h] at this
  simp at this
theorem Zb4 {s k b:Nat} (hs:s < 256) (hk:k < 8):(s &&& (2 ^ 8 - (2 ^ k+1))).testBit b=(s.testBit b && decide (b≠k)):=by
 have hp:=UX hk
 rw [Nat.testBit_and,Nat.testBit_two_pow_sub_succ (by simpa using hp),Nat.testBit_two_pow]
 by_cases hb:b < 8
 ·rw [decide_eq_true hb,Bool.true_and]
  congr 1
  by_cases e:k=b
  ·subst e;simp
  ·simp [e,Ne.symm e]
 ·have:s.testBit b=false:=Nat.testBit_lt_two_pow (Nat.lt_of_lt_of_le (show s < 2 ^ 8 by simpa using hs) (Nat.pow_le_pow_right (by decide) (by omega)))
  rw [this];rfl
section
variable {kn:Kn} {lo:Nat} {H:Hp}
theorem QT {j:Int} {d:Nat} (hd:d < 8) (hj:j=(d:Int)):∃ H',FnX Try.prog kn lo 102 [iv j] H (.int .u8 ((2 ^ d:Nat):Int)) H'∧Zf H H' []:=by
 have key:=Zs (kn:=kn) (lo:=lo) (H:=H) (args:=[iv j]) (Q:=fun w H'=>w=(.int .u8 ((2 ^ d:Nat):Int))∧Zf H H' []) Try.func102 Ze7 ZfF ZeU Zfo (by simp) ?_
 ·obtain ⟨w,H',h,rfl,q⟩:=key;exact ⟨H',h,q⟩
 have hk:=Zf.refl H []
 refine Zd<|Za rfl<|Zb<|Zd<|Za rfl<|Zg (v:=.int .u8 ((2 ^ d:Nat):Int)) rfl (Zep hd rfl rfl hj)<|Za rfl<|Zb ?_
 exact And.intro trivial (Exists.intro _ (And.intro rfl ⟨rfl,hk⟩))
theorem Zdc {j:Int} {s d:Nat} (hd:d < 8) (hj:j=(d:Int)) (hs:s < 256):∃ H',FnX Try.prog kn lo 101 [.int .u8 (s:Int),iv j] H (.bool (s.testBit d)) H'∧Zf H H' []:=by
 have key:=Zs (kn:=kn) (lo:=lo) (H:=H) (args:=[.int .u8 (s:Int),iv j]) (Q:=fun w H'=>w=(.bool (s.testBit d))∧Zf H H' []) Try.func101 Zfk Zfm Ze8 ZeT (by simp) ?_
 ·obtain ⟨w,H',h,rfl,q⟩:=key;exact ⟨H',h,q⟩
 have hk:=Zf.refl H []
 refine Zd<|Za rfl<|Zb<|Zd<|Za rfl<|Za rfl ?_
 obtain ⟨H1,fH1,kH1⟩:=QT (kn:=kn) (lo:=lo) (H:=H) (j:=j) hd hj
 refine Zr (vs:=[iv (j)]) rfl (Zk fH1) ?_
 have mH1:=kH1.1
 have hk:=hk.trans kH1
 refine Zg (v:=.int .u8 ((s &&& 2 ^ d:Nat):Int)) rfl (Zeb hs (UX hd) rfl rfl)<|Zg (v:=.bool (decide (s &&& 2 ^ d≠0))) rfl (Zaf rfl)<|Za rfl<|Zb ?_
 exact And.intro trivial (Exists.intro _ (And.intro rfl ⟨by show Value.bool (decide (s &&& 2 ^ d≠0))=_;congr 1;rw [Bool.eq_iff_iff,decide_eq_true_eq];exact Zcf,hk⟩))
theorem Zbr {s:Nat} (hs:s < 256):∃ H',FnX Try.prog kn lo 109 [.int .u8 (s:Int)] H (iv (pc8 s:Int)) H'∧Zf H H' []:=by
 have key:=Zs (kn:=kn) (lo:=lo) (H:=H) (args:=[.int .u8 (s:Int)]) (Q:=fun w H'=>w=(iv (pc8 s:Int))∧Zf H H' []) Try.func109 Zfy ZeZ Zff Zfb (by simp) ?_
 ·obtain ⟨w,H',h,rfl,q⟩:=key;exact ⟨H',h,q⟩
 have hk:=Zf.refl H []
 have hpc:=ZcA (s:=s)
 refine Zd<|Za rfl<|Zb<|Zd<|Za rfl<|Zg (v:=.int .u8 ((pc8 s:Nat):Int)) rfl (ZdU (by kernel_rfl) hs rfl)<|Zg (v:=iv (pc8 s:Int)) rfl (Zdo hpc rfl)<|Za rfl<|Zb ?_
 exact And.intro trivial (Exists.intro _ (And.intro rfl ⟨rfl,hk⟩))
theorem ZbM {s:Nat} (hs:s < 256):∃ H',FnX Try.prog kn lo 108 [.int .u8 (s:Int)] H (iv (pc8 s:Int)) H'∧Zf H H' []:=by
 have key:=Zs (kn:=kn) (lo:=lo) (H:=H) (args:=[.int .u8 (s:Int)]) (Q:=fun w H'=>w=(iv (pc8 s:Int))∧Zf H H' []) Try.func108 Zfn Zfz ZfB Zfc (by simp) ?_
 ·obtain ⟨w,H',h,rfl,q⟩:=key;exact ⟨H',h,q⟩
 have hk:=Zf.refl H []
 refine Zd<|Za rfl<|Zb<|Zd<|Za rfl ?_
 obtain ⟨H1,fH1,kH1⟩:=Zbr (kn:=kn) (lo:=lo) (H:=H) hs
 refine Zr (vs:=[.int .u8 (s:Int)]) rfl (Zk fH1) ?_
 have mH1:=kH1.1
 have hk:=hk.trans kH1
 refine Za rfl<|Zb ?_
 exact And.intro trivial (Exists.intro _ (And.intro rfl ⟨rfl,hk⟩))
end
end
end Go.Ax

/-
 Pool: which job is done in each turn (written by program).
-/
namespace Go.Ax
open Go Go.RowKit Go.Proofs

noncomputable section
theorem zo {a:Se}:∀ {L:ML Se},(L.map (·.1)).Nodup→∀ y,y∈Vm a L↔y∈L∧y.1≠a
 | [],_,y=>by simp [Vm]
 | x :: r,h,y=>by
  simp only [List.map_cons,List.nodup_cons] at h
  unfold Vm
  split
  ·rename_i e
   subst e
   constructor
   ·intro hy;exact ⟨List.mem_cons_of_mem _ hy,fun e=>h.1 (by rw [← e];exact List.mem_map.2 ⟨y,hy,rfl⟩)⟩
   ·rintro ⟨hy,hne⟩
    rcases List.mem_cons.1 hy with rfl | hy
    ·exact absurd rfl hne
    ·exact hy
  ·rename_i e
   rw [List.mem_cons,List.mem_cons,zo h.2 y]
   constructor
   ·rintro (rfl | ⟨h1,h2⟩)
    ·exact ⟨.inl rfl,fun q=>e q.symm⟩
    ·exact ⟨.inr h1,h2⟩
   ·rintro ⟨rfl | h1,h2⟩
    ·exact .inl rfl
    ·exact .inr ⟨h1,h2⟩
theorem QL {a:Se}:∀ (L:ML Se),(Vm a L).Sublist L
 | []=>List.Sublist.slnil
 | x :: r=>by
  unfold Vm
  split
  ·exact List.sublist_cons_self _ _
  ·exact (QL r).cons₂ x
theorem WfA.del {a:Se} {L:ML Se} {c:Nat} (h:WfA L c):WfA (Vm a L) c where
 keys:=((QL L).map _).nodup h.keys
 borns:=((QL L).map _).nodup h.borns
 lt x hx:=h.lt x ((QL L).subset hx)
structure DnQ (j:Nat) (B p:Nat→Int) (L:ML Se) (c:Nat):Prop where
 wf:WfA L c
 get:∀ k,k < j→ZQ (B k,p k) L=some (iv (k:Int))
 mem:∀ y∈L,∃ k,k < j∧y.1=(B k,p k)∧y.2.1=iv (k:Int)
section
variable {j:Nat} {B p q:Nat→Int} {L:ML Se} {c:Nat}
theorem DnQ.nil:DnQ 0 B p [] 0:=⟨WfA.nil,fun k h=>by omega,fun y h=>by cases h⟩
theorem DnQ.flat (h:DnQ j B p L c):∀ y∈L,Go.Ax.flat y.2.1=true:=fun y hy=>by
 obtain ⟨k,_,_,e⟩:=h.mem y hy
 rw [e];rfl
theorem DnQ.congr (h:DnQ j B p L c) (e:∀ k,k < j→q k=p k):DnQ j B q L c:=
 ⟨h.wf,fun k hk=>by rw [e k hk];exact h.get k hk,fun y hy=>by obtain ⟨k,hk,a,b⟩:=h.mem y hy;exact ⟨k,hk,by rw [e k hk];exact a,b⟩⟩
theorem DnQ.put {d:Int} (h:DnQ j B p L c) (hn:ZQ (B j,d) L=none):DnQ (j+1) B (Vi p j d) (Y1 (B j,d) (iv (j:Int)) c L) (YV (B j,d) c L):=by
 refine ⟨h.wf.put _ _,fun k hk=>?_,fun y hy=>?_⟩
 ·rw [QM]
  by_cases e:k=j
  ·subst e;rw [Y4,if_pos rfl]
  ·rw [Yw e,if_neg,h.get k (by omega)]
   intro q
   have:=h.get k (by omega)
   rw [q,hn] at this
   cases this
 ·have g:=qS (h.wf.put (B j,d) (iv (j:Int))) y hy
  rw [QM] at g
  split at g
  ·rename_i e
   injection g with g
   exact ⟨j,by omega,by rw [Y4];exact e,g.symm⟩
  ·obtain ⟨b,hb⟩:=UL g
   obtain ⟨k,hk,a1,a2⟩:=h.mem _ hb
   exact ⟨k,by omega,by rw [Yw (by omega)];exact a1,a2⟩
theorem DnQ.del (h:DnQ (j+1) B q L c) (e:∀ k,k < j→q k=p k):DnQ j B p (Vm (B j,q j) L) c:=by
 have hj:=h.get j (by omega)
 have ne:∀ k,k < j→(B k,q k)≠(B j,q j):=fun k hk e=>by
  have:=h.get k (by omega)
  rw [e,hj] at this
  injection this with this
  injection this with _ this
  omega
 refine ⟨h.wf.del,fun k hk=>?_,fun y hy=>?_⟩
 ·obtain ⟨b,hb⟩:=UL (h.get k (by omega))
  rw [← e k hk]
  exact qS h.wf.del _ ((zo h.wf.keys _).2 ⟨hb,ne k hk⟩)
 ·obtain ⟨h1,h2⟩:=(zo h.wf.keys y).1 hy
  obtain ⟨k,hk,a1,a2⟩:=h.mem y h1
  have hkj:k≠j:=fun q=>h2 (by rw [a1,q])
  exact ⟨k,by omega,by rw [← e k (by omega)];exact a1,a2⟩
theorem DnQ.some {x:Se} {v:Value} (h:DnQ j B p L c) (g:ZQ x L=some v):∃ k,k < j∧B k=x.1∧p k=x.2∧v=iv (k:Int):=by
 obtain ⟨b,hb⟩:=UL g
 obtain ⟨k,hk,a1,a2⟩:=h.mem _ hb
 exact ⟨k,hk,by rw [show x=_ from a1],by rw [show x=_ from a1],a2⟩
theorem DnQ.none {x:Se} (h:DnQ j B p L c) (g:ZQ x L=none):∀ k,k < j→B k=x.1→p k≠x.2:=fun k hk a b=>by
 have:=h.get k hk
 rw [a,b,show (x.1,x.2)=x from rfl,g] at this
 cases this
end
def BsQ (d:Int) (D:ML Se) (t:Nat):Prop:=t < 256∧∀ b,t.testBit b=true↔∃ y∈D,y.2.1=iv (b:Int)∧y.1.2=d
theorem BsQ.nil {d:Int}:BsQ d [] 0:=⟨by decide,fun b=>by simp⟩
theorem BsQ.skip {d:Int} {D:ML Se} {t:Nat} {y:Se × Value × Nat} (h:BsQ d D t) (hy:y.1.2≠d):BsQ d (D ++ [y]) t:=by
 refine ⟨h.1,fun b=>?_⟩
 rw [h.2 b]
 constructor
 ·rintro ⟨z,hz,a⟩;exact ⟨z,List.mem_append.2 (.inl hz),a⟩
 ·rintro ⟨z,hz,a⟩
  rcases List.mem_append.1 hz with hz | hz
  ·exact ⟨z,hz,a⟩
  ·simp at hz;subst hz;exact absurd a.2 hy
theorem BsQ.take {d:Int} {D:ML Se} {t k:Nat} {y:Se × Value × Nat} (h:BsQ d D t) (hk:k < 8) (hv:y.2.1=iv (k:Int)) (hy:y.1.2=d):BsQ d (D ++ [y]) (t ||| 2 ^ k):=by
 refine ⟨Nat.or_lt_two_pow (n:=8) h.1 (UX hk),fun b=>?_⟩
 rw [Nat.testBit_or,Nat.testBit_two_pow,Bool.or_eq_true,h.2 b,decide_eq_true_eq]
 constructor
 ·rintro (⟨z,hz,a⟩ | rfl)
  ·exact ⟨z,List.mem_append.2 (.inl hz),a⟩
  ·exact ⟨y,by simp,hv,hy⟩
 ·rintro ⟨z,hz,a⟩
  rcases List.mem_append.1 hz with hz | hz
  ·exact .inl ⟨z,hz,a⟩
  ·simp at hz;subst hz
   have:=a.1
   rw [hv] at this
   injection this with _ this
   exact .inr (by omega)
theorem BsQ.all {d:Int} {D L:ML Se} {t j c:Nat} {B p:Nat→Int} (h:BsQ d D t) (hd:DnQ j B p L c) (h1:∀ y∈D,y∈L) (h2:∀ y∈L,y∈D):∀ b,t.testBit b=true↔b < j∧p b=d:=by
 intro b
 rw [h.2 b]
 constructor
 ·rintro ⟨y,hy,a1,a2⟩
  obtain ⟨k,hk,e1,e2⟩:=hd.mem y (h1 y hy)
  rw [a1] at e2
  injection e2 with _ e2
  have:b=k:=by omega
  subst this
  rw [e1] at a2
  exact ⟨hk,a2⟩
 ·rintro ⟨hb,e⟩
  obtain ⟨z,hz⟩:=UL (hd.get b hb)
  exact ⟨_,h2 _ hz,rfl,e⟩
end
end Go.Ax

/-
 Pool: rivals (100) (written by program).
-/
namespace Go.Ax
open Go Go.RowKit Go.Proofs

noncomputable section
section
variable {kn:Kn} {lo:Nat} {H:Hp}
set_option maxRecDepth 100000 in
set_option maxHeartbeats 1000000 in
theorem jn (s:Snd Try.prog kn) {gb j c:Nat} {B p:Nat→Int} {L:ML Se} {bed d cr:Int} (hmp:Mpa seV H gb L c) (hd:DnQ j B p L c) (hj:j≤8) (hlo:lo≤H.next) :
  FnM Try.prog lo 100 [.map (some gb),.agg #[iv bed,iv d],iv cr] H fun v H'=>∃ t:Nat,v=.int .u8 (t:Int)∧JR j B p cr bed d t∧Zf H H' []:=by
 refine WG s Try.func100 ZfG Zee Ze5 Zfd (by simp) ?_
 have hk:=Zf.refl H []
 have hgl:=hmp.1
 have hfl:flat ((ZQ ((bed,d):Se) L).getD (iv 0))=true:=by
  cases hg:ZQ ((bed,d):Se) L with
  | none=>rfl
  | some v0=>
   obtain ⟨k,_,_,_,e⟩:=hd.some hg
   rw [e];rfl
 refine Zm<|Vl (v:=.agg #[iv bed,iv d]) rfl ?_
 intro H1 kH1 nH1 c1
 have c1:Cl H1 H.next [iv bed,iv d]:=c1
 have mH1:=kH1.1
 have hk:=hk.trans kH1
 have hmp:=kH1.mpa hmp (by simp)
 refine Ze rfl<|Zi<|Zm<|Ze rfl<|XL (b:=H.next) (o:=0) rfl c1.rd (show row 2 _ _=some [iv bed,iv d] from rfl)<|jS (a:=((bed,d):Se)) Je ZcX zM rfl rfl hmp hfl ?_
 obtain ⟨g0,hg⟩:∃ g0,ZQ ((bed,d):Se) L=g0:=⟨_,rfl⟩
 rw [hg]
 rcases g0 with _ | v0
 ·refine Ze rfl<|Zl (v:=iv 0) rfl (by kernel_rfl)<|Zl (v:=.bool false) rfl (by kernel_rfl)<|Ze rfl<|Ze rfl<|Zi<|Zm<|Ze rfl<|Zi<|YE ?_
  first | refine Yl ?_ | skip
  refine Zm<|Ze rfl<|Zi<|Zm<|Ze rfl<|Zdq rfl hmp ?_
  intro H2 kH2 nH2 iH2
  have mH2:=kH2.1
  have hk:=hk.trans kH2
  have hmp:=kH2.mpa hmp (by simp)
  have c1:=kH2.cl c1 (by simp)
  refine Zi ?_
  obtain ⟨it,eit⟩:∃ it,it=H1.next:=⟨_,rfl⟩
  have hit:=iH2
  rw [← eit] at hit
  have d4:Cl H2 H.next [iv bed,iv d]:=c1
  have hne:gb≠it:=by omega
  have hoit:H.next < it:=by omega
  refine VL s (fn:=Try.f100) ZcQ Zee ZcT (fun z:ML Se × Nat=>[(2,iv cr),(4,pt H.next),(9,.int .u8 (z.2:Int)),(22,.pointer (some ⟨it,0,none⟩))])
   (fun k z H'=>k=L.length - z.1.length∧z.1.Nodup∧(∀ y∈z.1,y∈L)∧Zf H H' []∧it+1≤H'.next∧Ita H' it gb c z.1∧Mpa seV H' gb L c∧Cl H' H.next [iv bed,iv d]∧BsQ d z.1 z.2) _ ([],0) ⟨rfl,List.nodup_nil,(fun y h=>by cases h),hk,by omega,hit,hmp,d4,BsQ.nil⟩ ⟨rfl,rfl,rfl,by rw [eit];rfl,True.intro⟩ ?_
  rintro k ⟨D,t⟩ L1 ⟨rfl,hnd,hD,hk,f2,i2,m2,d4,hb⟩
  simp only [] at hnd hD i2 hb
  refine Zm (ZcR rfl i2 m2 hd.wf hD Je.fl hd.flat (by omega) (fun hall=>?_) (fun y hy hny H3 k3 n3 i3=>?_))
  ·refine Zl (v:=.bool false) rfl (by kernel_rfl) (Zi (zc (K8 (t:=false) rfl (fun h=>by cases h) fun _=>W8 ?_)))
   show wCM _ _ _ _ _ _ _ _ _
   have hall2:=hb.all hd hD hall
   refine Zm<|Ze rfl ?_
   obtain ⟨H3,fH3,kH3⟩:=ZbM (kn:=kn) (lo:=lo) (H:=L1) hb.1
   refine Z1 s (vs:=[.int .u8 (t:Int)]) rfl (Zk fH3) ?_
   have mH3:=kH3.1
   have hk:=hk.trans kH3
   have hpc:=Zca (s:=t) (p:=p) (d:=d) (j:=j) hall2 (by omega)
   refine Ze rfl<|Q1 (a:=(pc8 t:Int)) (b:=cr) rfl rfl<|Zi ?_
   refine And.intro (fun q1=>?_) (fun q1=>?_)
   ·have q1:(pc8 t:Int) < cr:=of_decide_eq_true q1
    refine Zm<|Ze rfl<|Zi ?_
    refine And.intro trivial (Exists.intro _ (And.intro rfl ⟨0,rfl,.inr ⟨hd.none hg,t,hall2,hb.1,?_⟩,hk⟩))
    rw [if_pos (by omega)]
   ·have q1:¬ ((pc8 t:Int) < cr):=of_decide_eq_false q1
    first | refine Yl ?_ | skip
    refine Zm<|Ze rfl<|Ze rfl<|Zi ?_
    refine And.intro trivial (Exists.intro _ (And.intro rfl ⟨t,rfl,.inr ⟨hd.none hg,t,hall2,hb.1,?_⟩,hk⟩))
    rw [if_neg (by omega)]
  ·have hsub:∀ x∈D ++ [y],x∈L:=fun x hx=>by
    rcases List.mem_append.1 hx with h | h
    ·exact hD x h
    ·simp at h;rw [h];exact hy
   have hnd2:(D ++ [y]).Nodup:=List.nodup_append.2 ⟨hnd,by simp,fun a ha b hb e=>hny (by simp at hb;rw [← hb,← e];exact ha)⟩
   have hlen2:(D ++ [y]).length=D.length+1:=by simp
   have hDL:=Ki hnd2 hsub
   have m3:Mpa seV H3 gb L c:=k3.mpa m2 (by simpa using hne)
   have d43:=k3.cl d4 (by simp;omega)
   refine Zl (v:=.bool true) rfl (by kernel_rfl) (Zi (zc (K8 (t:=true) rfl (fun _=>Yl ?_) fun h=>by cases h)))
   have hfy:flat y.2.1=true:=hd.flat y hy
   obtain ⟨kk,hkk,hy1,hy2⟩:=hd.mem y hy
   have hy3:y.1.2=p kk:=by rw [hy1]
   refine Zaq (Zm (Zdm rfl i3 m3 hd.wf hy Je.fl hfy ?_))
   rw [hy1,hy2]
   refine Zl (v:=seV (B kk,p kk)) rfl (by kernel_rfl) (Zl (v:=iv (kk:Int)) rfl (by kernel_rfl) (W4 fun H4 k4 n4 c4=>Qe (v:=seV (B kk,p kk)) rfl rfl c4 (by omega) rfl rfl (by simp) fun H5 k5 n5 c5=>Ze rfl (Zi ?_)))
   have k35:Zf H3 H5 []:=k4.new k5 (fun b hb=>.inr (by simp at hb;omega))
   have c5:Cl H5 H3.next [iv (B kk),iv (p kk)]:=c5
   have d45:=k35.cl d43 (by simp)
   have n35:=k35.1
   have hk5:=(hk.new k3 (fun b hb=>.inr (by simp at hb;omega))).trans k35
   refine Zm (YB rfl (YH (v:=iv (p kk)) rfl c5.rd rfl (YB rfl (YH (v:=iv d) rfl d45.rd rfl (zU (a:=p kk) (b:=d) rfl rfl (Zi ?_))))))
   refine K8 (t:=p kk == d) rfl (fun hq=>?_) (fun hq=>?_)
   ·have hq:p kk=d:=by simpa using hq
    obtain ⟨H6,f6,k6⟩:=QT (kn:=kn) (lo:=lo) (H:=H5) (j:=(kk:Int)) (d:=kk) (by omega) rfl
    refine ZcO (Ze rfl (Ze rfl (Z1 s (vs:=[iv (kk:Int)]) rfl (Zk f6) (Zl (v:=.int .u8 ((t ||| 2 ^ kk:Nat):Int)) rfl (Zdj hb.1 (UX (by omega)) rfl rfl) (Ze rfl (Zi ?_))))))
    exact ⟨_,(D ++ [y],t ||| 2 ^ kk),by show L.length - (D ++ [y]).length < L.length - D.length;omega,⟨rfl,hnd2,hsub,hk5.trans k6,by have:=k6.1;omega,k6.ita (k35.ita i3 (by simp)) (by simp),k6.mpa0 (k35.mpa0 m3),k6.cl d45 (by simp),hb.take (by omega) hy2 (by rw [hy3];exact hq)⟩,rfl,rfl,rfl,rfl,True.intro⟩
   ·have hq:p kk≠d:=by simpa using hq
    refine Yl ?_
    exact ⟨_,(D ++ [y],t),by show L.length - (D ++ [y]).length < L.length - D.length;omega,⟨rfl,hnd2,hsub,hk5,by omega,k35.ita i3 (by simp),k35.mpa0 m3,d45,hb.skip (by rw [hy3];exact hq)⟩,rfl,rfl,rfl,rfl,True.intro⟩
 ·obtain ⟨kk,hkk,hB,hp,rfl⟩:=hd.some hg
  refine Ze rfl<|Zl (v:=iv (kk:Int)) rfl (by kernel_rfl)<|Zl (v:=.bool true) rfl (by kernel_rfl)<|Ze rfl<|Ze rfl<|Zi<|Zm<|Ze rfl<|Zi<|YC<|Zm<|Ze rfl ?_
  obtain ⟨H4,fH4,kH4⟩:=QT (kn:=kn) (lo:=lo) (H:=H1) (j:=(kk:Int)) (d:=kk) (by omega) rfl
  refine Z1 s (vs:=[iv ((kk:Int))]) rfl (Zk fH4) ?_
  have mH4:=kH4.1
  have hk:=hk.trans kH4
  have hmp:=kH4.mpa hmp (by simp)
  have c1:=kH4.cl c1 (by simp)
  refine Ze rfl<|Zi ?_
  exact And.intro trivial (Exists.intro _ (And.intro rfl ⟨2 ^ kk,rfl,.inl ⟨kk,hkk,hB,hp,rfl⟩,hk⟩))
end
end
end Go.Ax


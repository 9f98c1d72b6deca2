import Derived.Test.YtngkkiijcpdffaaMe
import Derived.Test.YtngkkiijcpdffaaChecked
import Derived.Deep.Slices
import Derived.Deep.Fields
import Derived.ChangeSame
set_option linter.all false
/-
 Pool: days that are open (written by program).
-/
namespace Go.Ax
open Go Go.RowKit Go.Proofs

noncomputable section
def cI (l:List Int):List Value:=l.map iv
theorem yc {l:List Int}:(cI l).length=l.length:=by simp [cI]
theorem jX {a b:List Int}:cI (a ++ b)=cI a ++ cI b:=by simp [cI]
theorem zZ {l:List Int} {i:Nat} (h:i < l.length):(cI l)[0+i * 1]? = some (iv (l.getD i 0)):=by
 rw [Nat.mul_one,Nat.zero_add];simp [cI,h]
def nsB (reach D:Int) (n:Ns):Bool:=decide (n.r=reach) && inB D n.a n.b
def frB (ns:List Ns) (reach D:Int):Bool:=!ns.any (nsB reach D)
def cls (ns:List Ns) (reach:Int) (i:Nat):Nat→Bool:=fun k=>(ns.take i).any (nsB reach k)
def zt (ns:List Ns) (reach:Int) (i:Nat) (d:Int):Nat→Bool:=fun k=>cls ns reach i k || (decide ((ns.getD i Ns.z).r=reach) && decide ((ns.getD i Ns.z).a≤k) && decide ((k:Int) < d))
theorem Zbh {ns:List Ns} {reach:Int}:cls ns reach 0=fun _=>false:=by funext k;simp [cls]
theorem Zd5 {ns:List Ns} {reach:Int} {i:Nat} (h:i < ns.length):cls ns reach (i+1)=fun k=>cls ns reach i k || nsB reach k (ns.getD i Ns.z):=by
 funext k
 unfold cls
 rw [X8 (z:=Ns.z) h,List.any_append,List.any_cons,List.any_nil,Bool.or_false]
theorem yd {ns:List Ns} {reach:Int} {i:Nat}:zt ns reach i (ns.getD i Ns.z).a=cls ns reach i:=by
 funext k
 unfold zt
 have:(decide ((ns.getD i Ns.z).a≤(k:Int)) && decide ((k:Int) < (ns.getD i Ns.z).a))=false:=by
  rw [Bool.and_eq_false_iff,decide_eq_false_iff_not,decide_eq_false_iff_not];omega
 rw [Bool.and_assoc,this,Bool.and_false,Bool.or_false]
theorem jf {ns:List Ns} {reach d:Int} {i:Nat} (hr:(ns.getD i Ns.z).r=reach) (ha:(ns.getD i Ns.z).a≤d) (h0:0≤d):zt ns reach i (d+1)=yE (zt ns reach i d) d.toNat:=by
 funext k
 unfold yE zt
 by_cases e:k=d.toNat
 ·rw [if_pos e,decide_eq_true hr,decide_eq_true (show (ns.getD i Ns.z).a≤(k:Int) by omega),decide_eq_true (show (k:Int) < d+1 by omega)];simp
 ·rw [if_neg e]
  have:decide ((k:Int) < d+1)=decide ((k:Int) < d):=by
   by_cases q:(k:Int) < d
   ·rw [decide_eq_true q,decide_eq_true (show (k:Int) < d+1 by omega)]
   ·rw [decide_eq_false q,decide_eq_false (show ¬ (k:Int) < d+1 by omega)]
  rw [this]
theorem J9 {ns:List Ns} {reach d:Int} {i:Nat} (h:i < ns.length) (hd:(ns.getD i Ns.z).r=reach→d=(ns.getD i Ns.z).b+1):zt ns reach i d=cls ns reach (i+1):=by
 rw [Zd5 h]
 funext k
 unfold zt nsB inB
 by_cases hr:(ns.getD i Ns.z).r=reach
 ·have:decide ((k:Int) < d)=decide ((k:Int)≤(ns.getD i Ns.z).b):=by
   rw [hd hr]
   by_cases q:(k:Int)≤(ns.getD i Ns.z).b
   ·rw [decide_eq_true q,decide_eq_true (show (k:Int) < (ns.getD i Ns.z).b+1 by omega)]
   ·rw [decide_eq_false q,decide_eq_false (show ¬ (k:Int) < (ns.getD i Ns.z).b+1 by omega)]
  rw [this,Bool.and_assoc]
 ·rw [decide_eq_false hr];simp
theorem zC {ns:List Ns} {reach D:Int} (h:0≤D):(!cls ns reach ns.length D.toNat)=frB ns reach D:=by
 unfold cls frB
 rw [List.take_length,show ((D.toNat:Nat):Int)=D by omega]
theorem Acc.lowf {lo f f':Nat} {e:TypeId} {H:Hp} {v:Value} {n:Nat} {cs:List Value} (h:Acc lo f e H v n cs) (hf:f'≤f):Acc lo f' e H v n cs:=
 h.imp id fun ⟨b,e1,h0,h2,r⟩=>⟨b,e1,h0,Nat.le_trans hf h2,r⟩
def opl (ns:List Ns) (reach frm:Int):Nat→List Int
 | 0=>[]
 | k+1=>if frB ns reach (frm+k) then opl ns reach frm k ++ [frm+k] else opl ns reach frm k
theorem KM {ns:List Ns} {reach frm:Int}:∀ {k:Nat},(opl ns reach frm k).length≤k
 | 0=>Nat.le_refl 0
 | k+1=>by
  have:=KM (ns:=ns) (reach:=reach) (frm:=frm) (k:=k)
  unfold opl
  split
  ·rw [List.length_append,List.length_singleton];omega
  ·omega
section
variable {P:Program} {lo:Nat}
theorem Qe {H:Hp} {t0 t1 e ep:TypeId} {size k cap2 f:Nat} {a:Option Addr} {v:Value} {cs news:List Value} (he:ZQ P t0=some (e,size)) (ht:P.underlying t1=some (.slice ep))
  (hs:Sl H a 1 cap2 news) (hl:news.length=1 * size) (hz:0 < size) (hone:news.all one=true) (hcl:cs.length=k * size) (hk:k < 1000000) (ha:Acc lo f e H v k cs) (hlo:lo≤H.next) (hf:f≤H.next) :
  ∃ H1 kd,(∀ (n:Nat) (S:Rg) (d:Option Tmp) (x y:Operand) (ty:TypeId) (p:String),evS S x=some v→evS S y=some (.slice a 1 cap2)→Zs P lo (frS n S) H ⟨d,.call ⟨.builtin .append,#[x,y],#[t0,t1]⟩,ty,p,#[],none⟩=some (.val (.slice (some ⟨H.next,0,none⟩) (k+1) (k+1)) H1,kd))∧(kd=.heavy∨∃ b,kd=.store b∧f≤b)∧
   Acc lo f e H1 (.slice (some ⟨H.next,0,none⟩) (k+1) (k+1)) (k+1) (cs ++ news)∧XR f H H1:=by
 rcases ha with ⟨rfl,rfl,rfl⟩ | ⟨b,rfl,h0,hb,hlb,hn,hg⟩
 ·refine ⟨H.new (.cells news e true),.heavy,?_,.inl rfl,?_,?_⟩
  ·intro n S d x y ty p hx hy
   unfold Zs
   simp only [evs,Z7,hx,hy,ZV,List.getElem?_toArray,List.getElem?_cons_zero,List.getElem?_cons_succ,he,ht,WY hs hl,ZL]
   rfl
  ·refine .inr ⟨H.next,rfl,by omega,hf,hlo,Nat.lt_succ_self _,?_⟩
   show (H.t.set H.next _).get H.next=_
   rw [Tr.get_set,if_pos rfl];rfl
  ·exact XR.of (Yc rfl).1 hf
 ·have h1:Nat.ble (0+(k+1) * size) cs.length=false:=by
   cases h:Nat.ble (0+(k+1) * size) cs.length with
   | false=>rfl
   | true=>have:=Nat.le_of_ble_eq_true h;rw [hcl,Nat.succ_mul] at this;omega
  have h2:Nat.beq (0+k * size) cs.length=true:=by rw [hcl,Nat.zero_add];exact Nat.beq_refl _
  have h3:Nat.ble (k+1) 1048576=true:=Nat.ble_eq_true_of_le (by omega)
  have h4:Nat.beq e e=true:=Nat.beq_refl e
  refine ⟨({ H with t:=H.t.set b .dead }:Hp).new (.cells (cs ++ news) e true),.store b,?_,.inr ⟨b,rfl,hb⟩,?_,?_⟩
  ·intro n S d x y ty p hx hy
   unfold Zs
   simp only [evs,Z7,hx,hy,ZV,List.getElem?_toArray,List.getElem?_cons_zero,List.getElem?_cons_succ,he,ht,WY hs hl,ZL,hg,h1,h2,h3,h4,hone,Nat.ble_eq_true_of_le hlb,Bool.and_self,cond_true,cond_false,List.drop_zero,show Nat.beq 1 0=false from rfl]
  ·refine .inr ⟨H.next,rfl,by omega,hf,hlo,Nat.lt_succ_self _,?_⟩
   show ((H.t.set b .dead).set H.next _).get H.next=_
   rw [Tr.get_set,if_pos rfl]
  ·refine ⟨Nat.le_succ _,fun c hc=>?_,fun c xs hc hx=>?_⟩
   ·show ((H.t.set b .dead).set H.next _).get c=_
    rw [Tr.get_set,if_neg (by omega),Tr.get_set,if_neg (by omega)]
   ·have hx:((H.t.set b .dead).set H.next (.cells (cs ++ news) e true)).get c=some (.ro xs):=hx
    have hc:c < H.next+1:=hc
    rw [Tr.get_set] at hx
    split at hx
    ·cases hx
    ·rw [Tr.get_set] at hx
     split at hx
     ·cases hx
     ·exact ⟨by omega,hx⟩
end
section
variable {kn:Kn} {lo:Nat} {H:Hp}
theorem jG {na:Option Addr} {nn ncap:Nat} {reach:Int} (hlo:lo≤H.next):∃ H',FnX Try.prog kn lo 73 [.slice na nn ncap,iv reach] H (.func (.func 81) #[] #[pt H.next,pt (H.next+1)]) H'∧Rd H' H.next [.slice na nn ncap]∧Rd H' (H.next+1) [iv reach]∧H'.next=H.next+2∧Zj H H' []:=by
 have key:=Zp (kn:=kn) (lo:=lo) (H:=H) (args:=[.slice na nn ncap,iv reach]) (Q:=fun w H'=>w=(.func (.func 81) #[] #[pt H.next,pt (H.next+1)])∧Rd H' H.next [.slice na nn ncap]∧Rd H' (H.next+1) [iv reach]∧H'.next=H.next+2∧Zj H H' []) Try.func73 B73 N73 Z73 L73 (by simp) ?_
 ·obtain ⟨w,H',h,rfl,q⟩:=key;exact ⟨H',h,q⟩
 refine Zc (ZZ (v:=.slice na nn ncap) rfl fun H1 k1 n1 c1=>ZZ (v:=iv reach) rfl fun H2 k2 n2 c2=>Za rfl (Zb ?_))
 rw [n1] at c2
 refine Zc (Zd (v:=.func (.func 81) #[] #[pt H.next,pt H1.next]) rfl (by kernel_rfl) (Za rfl (Zb ?_)))
 exact ⟨True.intro,[.func (.func 81) #[] #[pt H.next,pt H1.next]],rfl,by rw [n1];rfl,(k2.cl c1 (by simp)).rd,c2.rd,by omega,k1.trans k2⟩
set_option maxRecDepth 100000 in
theorem jz {J:(Nat→Bool)→Hp→Prop} {base:Nat} {Wy:List Nat} {l bL bG nn ncap:Nat} {na:Option Addr} {ns:List Ns} {reach:Int} (hm:ns.length=nn) (hm2:nn≤1000000) (hbd:ns.any XQ=false) (hlb:lo≤base) (hW:∀ x∈Wy,x < base) (jm:∀ g H1 H2 W,J g H1→Zj H1 H2 W→(∀ x∈W,base≤x)→J g H2)
  (je:∀ g H1,J g H1→Rd H1 bL [.slice na nn ncap]∧Rd H1 bG [iv reach]∧Sl H1 na nn ncap (nsc ns)∧bL < base∧bG < base∧∀ b,na=some ⟨b,0,none⟩→b < base)
  (step:∀ g d H1,0≤d→d≤16384→J g H1→base≤H1.next→∃ H2,Xa Try.prog kn lo (.fn (.yield l) #[]) [iv d] H1 (.bool true) H2∧J (yE g d.toNat) H2∧Zj H1 H2 Wy)
  (hbn:base≤H.next) (hJ:J (fun _=>false) H) :
  ∃ H',FnX Try.prog kn lo 81 [.func (.yield l) #[] #[],pt bL,pt bG] H Zej H'∧J (cls ns reach ns.length) H':=by
 have key:=Zp (kn:=kn) (lo:=lo) (H:=H) (args:=[.func (.yield l) #[] #[],pt bL,pt bG]) (Q:=fun w H'=>w=Zej∧J (cls ns reach ns.length) H') Try.func81 B81 N81 Z81 L81 (by simp) ?_
 ·obtain ⟨w,H',h,rfl,q⟩:=key;exact ⟨H',h,q⟩
 obtain ⟨rL,rG,hs,lL,lG,fb⟩:=je _ _ hJ
 have fs:=hs.old
 refine Zc<|Zv (b:=bL) (o:=0) (v:=.slice na nn ncap) rfl rL rfl<|Ys (m:=nn) rfl<|Za rfl<|Zb ?_
 refine Zy (fn:=Try.f81) ZeI N81 Zdo (fun i:Nat=>[(0,.func (.yield l) #[] #[]),(1,pt bL),(2,pt bG),(7,.slice na nn ncap),(8,iv (nn:Int)),(9,iv (i:Int))])
  (fun k i H'=>i+k=nn∧J (cls ns reach i) H'∧base≤H'.next) nn 0 ⟨by omega,by rw [Zbh];exact hJ,hbn⟩ ⟨rfl,rfl,rfl,rfl,rfl,rfl,trivial⟩ ?_
 rintro k i L1 ⟨hik,hJ,hbn⟩
 obtain ⟨rL,rG,hs,lL,lG,fb⟩:=je _ _ hJ;have fs:=hs.old
 refine Zc<|ZF (a:=(i:Int)) (b:=(nn:Int)) rfl rfl<|Zb ?_
 refine And.intro (fun q1=>?_) (fun q1=>?_)
 ·have q1:(i:Int) < (nn:Int):=of_decide_eq_true q1
  have hi:i < nn:=by omega
  rcases id hs with ⟨_,h0s,_⟩ | ⟨sb,es,rs,_⟩
  ·omega
  have ls:=rs.1
  have lsb2:=fs sb es;have lsb3:=fb sb es;have hbi:=Zc4 (Qr hbd _ (Xg (z:=Ns.z) (l:=ns) (i:=i) (by omega)))
  first | refine Zn ?_ | skip
  refine Zc<|XC (b:=sb) (o:=0) (k:=i) (j:=(i:Int)) (by rw [← es];rfl) rfl rfl hi<|Zz (b:=sb) (o:=0+i * 3) rfl rs (zA (by omega))<|Yt ?_
  intro H1 kH1 nH1 c1
  have c1:Cl H1 L1.next [iv 0,iv 0,iv 0]:=c1
  have mH1:=kH1.1
  have hJ:=jm _ _ _ _ hJ kH1 (fun x hx=>by first | (simp at hx;done) | (simp at hx;omega))
  have rL:=kH1.rd rL (by simp)
  have rG:=kH1.rd rG (by simp)
  have hs:=kH1.sl0 hs
  have rs:=kH1.rd rs (by simp)
  refine Z4 (b:=L1.next) (o:=0) rfl rfl c1 (by omega) rfl rfl (by simp) ?_
  intro H2 kH2 nH2 sH2
  have mH2:=kH2.1
  have hJ:=jm _ _ _ _ hJ kH2 (fun x hx=>by first | (simp at hx;done) | (simp at hx;omega))
  have rL:=kH2.rd rL (by first | (simp;done) | (simp;omega))
  have rG:=kH2.rd rG (by first | (simp;done) | (simp;omega))
  have hs:=kH2.sl hs (fun b e=>by have:=fs b e;first | (simp;done) | (simp;omega))
  have rs:=kH2.rd rs (by first | (simp;done) | (simp;omega))
  have c1:Cl H2 L1.next [iv ((ns.getD i Ns.z).r),iv ((ns.getD i Ns.z).a),iv ((ns.getD i Ns.z).b)]:=sH2
  refine Zb<|Zc<|Zk (b:=L1.next) (o:=0) rfl<|Zv (b:=L1.next) (o:=1) (v:=iv ((ns.getD i Ns.z).a)) rfl c1.rd rfl<|Za rfl<|Zb ?_
  rw [← yd] at hJ
  refine Zy (fn:=Try.f81) Zel N81 ZeG (fun d:Int=>[(0,.func (.yield l) #[] #[]),(1,pt bL),(2,pt bG),(5,pt L1.next),(6,iv d),(7,.slice na nn ncap),(8,iv (nn:Int)),(9,iv (i:Int))])
   (fun k d H'=>(ns.getD i Ns.z).a≤d∧d≤(ns.getD i Ns.z).b+1∧k=((ns.getD i Ns.z).b+1 - d).toNat∧J (zt ns reach i d) H'∧L1.next < H'.next∧base≤L1.next∧Cl H' L1.next [iv (ns.getD i Ns.z).r,iv (ns.getD i Ns.z).a,iv (ns.getD i Ns.z).b]) _ (ns.getD i Ns.z).a ⟨by omega,by omega,rfl,hJ,by omega,by omega,c1⟩ ⟨rfl,rfl,rfl,rfl,rfl,rfl,rfl,rfl,trivial⟩ ?_
  rintro k2 d L2 ⟨hd1,hd2,rfl,hJ,hnx,hb5,c5⟩
  obtain ⟨rL,rG,hs,lL,lG,fb⟩:=je _ _ hJ;have fs:=hs.old
  refine Zc<|Zk (b:=L1.next) (o:=0) rfl<|Zv (b:=L1.next) (o:=0) (v:=iv ((ns.getD i Ns.z).r)) rfl c5.rd rfl<|Zv (b:=bG) (o:=0) (v:=iv reach) rfl rG rfl<|Wh (a:=(ns.getD i Ns.z).r) (b:=reach) rfl rfl ?_
  intro t2 g2;cases t2
  ·have g2:¬ (((ns.getD i Ns.z).r)=reach):=by simpa using g2
   refine Za rfl<|Zg rfl<|Zg rfl<|Zg rfl<|Zg rfl<|Zd (v:=.bool false) rfl rfl<|Zb<|Z2 ?_
   rw [J9 (by omega) (fun q=>by omega)] at hJ
   first | (refine ZG ?_;show wC _ _ _ _ _ _ _ _ _) | skip
   show Zo _ _ _ _ _ _ _ _
   refine Zu (a:=(i:Int)) (b:=1) rfl rfl ⟨by omega,by omega⟩<|Za rfl<|Zb ?_
   exact ⟨k - 1,i+1,by omega,⟨by omega,hJ,by omega⟩,rfl,rfl,rfl,rfl,rfl,ivq (by omega),trivial⟩
  ·have g2:((ns.getD i Ns.z).r)=reach:=by simpa using g2
   refine Za rfl ?_
   refine Zl rfl (Za rfl ?_)
   refine Zl rfl (Zk (b:=L1.next) (o:=0) rfl ?_)
   refine Zl rfl (Zv (b:=L1.next) (o:=2) (v:=iv ((ns.getD i Ns.z).b)) rfl c5.rd rfl ?_)
   refine Zl rfl (XY (a:=d) (b:=(ns.getD i Ns.z).b) rfl rfl ?_)
   intro t3 g3;cases t3
   ·have g3:¬ (d≤((ns.getD i Ns.z).b)):=of_decide_eq_false g3
    refine Zd (v:=.bool false) rfl rfl<|Zb<|Z2 ?_
    rw [J9 (by omega) (fun q=>by omega)] at hJ
    first | (refine ZG ?_;show wC _ _ _ _ _ _ _ _ _) | skip
    show Zo _ _ _ _ _ _ _ _
    refine Zu (a:=(i:Int)) (b:=1) rfl rfl ⟨by omega,by omega⟩<|Za rfl<|Zb ?_
    exact ⟨k - 1,i+1,by omega,⟨by omega,hJ,by omega⟩,rfl,rfl,rfl,rfl,rfl,ivq (by omega),trivial⟩
   ·have g3:d≤((ns.getD i Ns.z).b):=of_decide_eq_true g3
    refine Zd (v:=.bool true) rfl rfl<|Zb<|Ya ?_
    first | refine Zn ?_ | skip
    refine Zc<|Za rfl<|Za rfl ?_
    obtain ⟨H3,fH3,hJ,kH3⟩:=step _ d L2 (by omega) (by omega) hJ (by omega)
    refine Zh (vs:=[iv d]) rfl fH3 ?_
    have mH3:=kH3.1;have c5:=kH3.cl c5 (fun hx=>by have:=hW _ hx;omega)
    refine Zd (v:=.bool false) rfl rfl<|Zb<|Z2 ?_
    first | refine Zn ?_ | skip
    show Zo _ _ _ _ _ _ _ _
    refine Za rfl<|Zu (a:=d) (b:=1) rfl rfl ⟨by omega,by omega⟩<|Za rfl<|Zb ?_
    exact ⟨_,d+1,by omega,⟨by omega,by omega,rfl,by rw [jf (by omega) (by omega) (by omega)];exact hJ,by omega,by omega,c5⟩,rfl,rfl,rfl,rfl,ivq (by omega),rfl,rfl,rfl,trivial⟩
 ·have q1:¬ ((i:Int) < (nn:Int)):=of_decide_eq_false q1
  first | (refine ZG ?_;show wC _ _ _ _ _ _ _ _ _) | skip
  have e:i=ns.length:=by omega
  exact And.intro trivial (Exists.intro _ (And.intro rfl ⟨rfl,by rw [← e];exact hJ⟩))
abbrev qO:Code:=at_ Try.f52 [1,1,0,1,0,0]
abbrev Kz:Code:=at_ Try.f52 [1,1,0,1,0,1]
abbrev S52 (h:Nat):Rg:=[(9,pt h)]
structure J52 (ns:List Ns) (reach:Int) (na:Option Addr) (nn ncap:Nat) (H0:Hp) (g:Nat→Bool) (H':Hp):Prop where
 acc:Cl H' H0.next (cB 16385 g)
 rL:Rd H' (H0.next+1) [.slice na nn ncap]
 rG:Rd H' (H0.next+2) [iv reach]
 lp:Lp Try.prog H' (H0.next+4) .ready none 34 (S52 H0.next) [16] qO Kz (H0.next+3)
 dfr:H'.t.get (H0.next+3)=some (.dfr (some []))
 ll:H0.next+5≤H'.next
 kp:Zj H0 H' []
section
variable {ns:List Ns} {reach:Int} {na:Option Addr} {nn ncap:Nat} {H0:Hp}
theorem J52.keep {g:Nat→Bool} {H1 H2:Hp} (j:J52 ns reach na nn ncap H0 g H1) {W:List Nat} (kk:Zj H1 H2 W) (hW:∀ b∈W,H0.next+5≤b):J52 ns reach na nn ncap H0 g H2:=by
 have nw:∀ x,x < H0.next+5→x ∉ W:=fun x hx q=>by have:=hW x q;omega
 have ll:=j.ll
 exact ⟨kk.cl j.acc (nw _ (by omega)),kk.rd j.rL (nw _ (by omega)),kk.rd j.rG (nw _ (by omega)),j.lp.keep kk (by omega) (nw _ (by omega)),by rw [kk.2 _ (by omega) (nw _ (by omega))];exact j.dfr,Nat.le_trans j.ll kk.1,j.kp.new kk (fun b q=>.inr (by have:=hW b q;omega))⟩
set_option maxRecDepth 100000 in
theorem ZbY (hlo:lo≤H0.next) {g:Nat→Bool} {d:Int} (hd0:0≤d) (hd1:d≤16384) (j:J52 ns reach na nn ncap H0 g H) (hnx:H0.next+5≤H.next) :
  ∃ H',Xa Try.prog kn lo (.fn (.yield (H0.next+4)) #[]) [iv d] H (.bool true) H'∧J52 ns reach na nn ncap H0 (yE g d.toNat) H'∧Zj H H' [H0.next,H0.next+4]:=by
 have L1:low Try.prog 34 qO=some R52x1:=N52 ▸ Zeh
 have L2:low Try.prog 34 Kz=some R52x2:=N52 ▸ ZdH
 have key:=ZaO (kn:=kn) (P:=Try.prog) (lo:=lo) (S1:=(16,iv d) :: S52 H0.next) (args:=[iv d]) (Q:=fun t H'=>t=true∧J52 ns reach na nn ncap H0 (yE g d.toNat) H'∧Zj H H' [H0.next,H0.next+4]) j.lp (by omega) (by rfl) rfl (YA true _ L1 ?_)
 ·obtain ⟨t,H',h,rfl,q⟩:=key;exact ⟨H',h,q⟩
 have ll:=j.ll
 refine K0<|Za rfl<|Zb ?_
 refine And.intro trivial (And.intro j.lp ?_)
 intro H3 s3
 have k3:=s3.keep
 have hn3:H3.next=H.next:=s3.1
 have lp3:=s3.lp j.lp
 have nl:∀ x,x≠H0.next+4→x ∉ [H0.next+4]:=fun x hx=>by simpa using hx
 have ca:=k3.cl j.acc (nl _ (by omega))
 refine YA true _ L2 ?_
 refine ZcK<|Za rfl<|Qs (b:=H0.next) (o:=0) (k:=d.toNat) (j:=d) rfl rfl (by omega) (by omega)<|Zck (b:=H0.next) (o:=0+d.toNat * 1) rfl rfl ca (by omega) rfl rfl (by rw [ZaY];omega) ?_
 intro H4 k4 n4 c4
 rw [ZcS (by omega)] at c4
 have m4:=k4.1
 refine Zb ?_
 have lp4:=lp3.keep k4 (by omega) (by simp)
 refine ⟨lp4,fun H5 s5=>?_⟩
 have k5:=s5.keep
 have hn5:H5.next=H4.next:=s5.1
 have k05:Zj H H5 [H0.next,H0.next+4]:=((k3.mono (by simp)).trans (k4.mono (by simp))).trans (k5.mono (by simp))
 have n3:∀ x,x≠H0.next→x≠H0.next+4→x ∉ [H0.next,H0.next+4]:=fun x h1 h2=>by simp;omega
 exact ⟨rfl,⟨k5.cl c4 (nl _ (by omega)),k05.rd j.rL (n3 _ (by omega) (by omega)),k05.rd j.rG (n3 _ (by omega) (by omega)),s5.lp lp4,by rw [k05.2 _ (by omega) (n3 _ (by omega) (by omega))];exact j.dfr,by omega,j.kp.new k05 (fun b q=>.inr (by simp at q;omega))⟩,k05⟩
end
set_option maxRecDepth 100000 in
set_option maxHeartbeats 2000000 in
theorem z5 {ns:List Ns} {reach frm to_:Int} {na:Option Addr} {nn ncap:Nat} (hs:Sl H na nn ncap (nsc ns)) (hl:ns.length=nn) (hn:nn≤1000) (hbd:ns.any XQ=false) (hf:0≤frm∧frm≤16384) (ht:0≤to_∧to_≤16384) (hlo:lo≤H.next) :
  ∃ v H',FnX Try.prog kn lo 52 [.slice na nn ncap,iv reach,iv frm,iv to_] H v H'∧Acc lo H.next 3 H' v (opl ns reach frm (to_+1 - frm).toNat).length (cI (opl ns reach frm (to_+1 - frm).toNat))∧Zj H H' []:=by
 refine Zan (kn:=kn) (lo:=lo) (H:=H) (args:=[.slice na nn ncap,iv reach,iv frm,iv to_]) (Q:=fun w H'=>Acc lo H.next 3 H' w (opl ns reach frm (to_+1 - frm).toNat).length (cI (opl ns reach frm (to_+1 - frm).toNat))∧Zj H H' []) Try.func52 B52 N52 Z52 L52 (by simp) ?_
 intro y hy
 refine YV.lowR hy ?_
 refine K0<|Za rfl<|Zb ?_
 intro y hy
 refine YV.lowR hy ?_
 refine K0<|Yt ?_
 intro H1 k1 n1 c1
 rw [Zbs] at c1
 refine Zb ?_
 intro y hy
 refine YV.lowL hy ?_
 intro z hz
 refine YV.lowR hz ?_
 refine K0<|Za rfl<|Za rfl ?_
 obtain ⟨H5,f5,g1,g2,n5,k5⟩:=jG (kn:=kn) (lo:=lo) (H:=H1) (na:=na) (nn:=nn) (ncap:=ncap) (reach:=reach) (by omega)
 refine Zh (vs:=[.slice na nn ncap,iv reach]) rfl (Zf f5)<|Zb ?_
 intro y hy
 refine YV.lowB hy ?_
 rw [ZdQ]
 refine YV.range rfl ?_
 intro H7 k7 n7 hdf hlp
 have e5:H5.next=H.next+3:=by omega
 have hlp:Lp Try.prog H7 (H5.next+1) .ready none 34 [(9,pt H.next)] [16] qO Kz H5.next:=hlp.weak ⟨rfl,trivial⟩
 rw [e5] at hlp hdf n7
 have k17:Zj H1 H7 []:=k5.trans k7
 have k07:Zj H H7 []:=k1.trans k17
 have d1:=k17.cl c1 (by simp)
 rw [n1] at g1 g2
 have fs0:=hs.old
 have j0:J52 ns reach na nn ncap H (fun _=>false) H7:=⟨d1,k7.rd g1 (by simp),k7.rd g2 (by simp),hlp,hdf,by omega,k07⟩
 obtain ⟨H8,f8,j8⟩:=jz (kn:=kn) (lo:=lo) (H:=H7) (J:=J52 ns reach na nn ncap H) (base:=H.next+5) (Wy:=[H.next,H.next+4]) (l:=H.next+4) (bL:=H.next+1) (bG:=H.next+2) (na:=na) (nn:=nn) (ncap:=ncap) (ns:=ns) (reach:=reach) hl (by omega) hbd (by omega) (fun x hx=>by simp at hx;omega)
  (fun g H1 H2 W j kk hw=>j.keep kk hw) (fun g H1 j=>⟨j.rL,j.rG,j.kp.sl0 hs,by omega,by omega,fun b e=>by have:=fs0 b e;omega⟩)
  (fun g d H1 h1 h2 j hb=>ZbY hlo h1 h2 j hb) (by omega) j0
 refine Exists.intro _ (Exists.intro H8 (And.intro (Y4 rfl (by rw [n1,e5];simpa using f8)) ?_))
 have lp8:Lp Try.prog H8 (H5.next+1) .ready none 34 (S52 H.next) [16] qO Kz H5.next:=by rw [e5];exact j8.lp
 refine ⟨.ready,none,_,lp8,by simp,?_⟩
 intro H9 s9
 have k9:=s9.keep
 have hn9:H9.next=H8.next:=s9.1
 rw [e5] at k9
 have ll:=j8.ll
 have nl:∀ x,x≠H.next+4→x ∉ [H.next+3+1]:=fun x hx=>by simp;omega
 have hd:H9.t.get (H.next+3)=some (.dfr (some [])):=by rw [k9.2 _ (by omega) (nl _ (by omega))];exact j8.dfr
 have ca:=k9.cl j8.acc (nl _ (by omega))
 have hk:Zj H H9 []:=j8.kp.new k9 (fun b q=>.inr (by simp at q;omega))
 refine Zc<|Za rfl<|Zb<|Zc<|Za rfl<|Za rfl<|Zb ?_
 refine Zy (fn:=Try.f52) ZdJ N52 Zey (fun z:Nat × Value=>[(2,iv frm),(3,iv to_),(9,pt H.next),(11,z.2),(12,iv (frm+(z.1:Int)))])
  (fun k z H'=>z.1≤(to_+1 - frm).toNat∧k=(to_+1 - frm).toNat - z.1∧Zj H H' []∧H9.next≤H'.next∧Cl H' H.next (cB 16385 (cls ns reach ns.length))∧H'.t.get (H.next+3)=some (.dfr (some []))∧Acc lo H9.next 3 H' z.2 (opl ns reach frm z.1).length (cI (opl ns reach frm z.1))) _ (0,.slice none 0 0) ⟨Nat.zero_le _,rfl,hk,Nat.le_refl _,ca,hd,.inl ⟨rfl,rfl,rfl⟩⟩ ⟨rfl,rfl,rfl,rfl,ivq (by simp only [];omega),trivial⟩ ?_
 rintro k ⟨i,wv⟩ L1 ⟨hi1,hi2,hk,hnx,ca,hd,hacc⟩
 simp only [] at hi1 hi2 hacc;have mk:=hk.1;have kacc:=Zj.refl L1 [];have hol:=KM (ns:=ns) (reach:=reach) (frm:=frm) (k:=i)
 refine Zc<|Za rfl<|Za rfl<|Vd (a:=(frm+(i:Int))) (b:=to_) rfl rfl<|Zb ?_
 refine And.intro (fun q1=>?_) (fun q1=>?_)
 ·have q1:(frm+(i:Int))≤to_:=of_decide_eq_true q1
  first | refine Zn ?_ | skip
  refine Zc<|Za rfl<|Qs (b:=H.next) (o:=0) (k:=(frm+(i:Int)).toNat) (j:=(frm+(i:Int))) rfl rfl (by omega) (by omega)<|Zv (b:=H.next) (o:=0+((frm+(i:Int)).toNat) * 1) (v:=.bool (cls ns reach ns.length ((frm+(i:Int)).toNat))) rfl ca.rd (Zb6 (by omega))<|Zd (v:=.bool (!(cls ns reach ns.length ((frm+(i:Int)).toNat)))) rfl rfl<|Zb ?_
  refine And.intro (fun q2=>?_) (fun q2=>?_)
  ·have q2:¬ (cls ns reach ns.length ((frm+(i:Int)).toNat)=true):=by simpa using q2
   have hfr:frB ns reach (frm+(i:Int))=true:=by rw [← zC (by omega)];simpa using q2
   show Zo _ _ _ _ _ _ _ _
   refine Za rfl<|Za rfl ?_
   obtain ⟨H1,hH1⟩:∃ H1,L1.new (.cells [iv (frm+(i:Int))] 3 false)=H1:=⟨_,rfl⟩
   refine Yx (H':=H1) (k:=.heavy) rfl (by kernel_rfl) ((Xu (v:=iv (frm+(i:Int))) jW zo3 rfl rfl rfl (by decide)).trans (by rw [← hH1];rfl)) (fun b e=>by cases e) ?_
   obtain ⟨kH1,nH1,c1⟩:=Yc hH1;clear hH1
   have c1:Cl H1 L1.next [iv (frm+(i:Int))]:=c1
   have mH1:=kH1.1
   have hk:=hk.trans kH1
   have ca:=kH1.cl ca (by simp)
   have hd:=(show H1.t.get (H.next+3)=some (.dfr (some [])) from by rw [kH1.2 _ (by omega) (by first | (simp;done) | (simp;omega))];exact hd)
   have kacc:=kacc.trans kH1
   obtain ⟨H2,kdH2,eH2,dH2,aH2,kbH2⟩:=Qe (P:=Try.prog) (lo:=lo) (k:=(opl ns reach frm i).length) (t1:=42) jW ZcW (c1.sl (Nat.le_refl 1)) rfl (by decide) rfl (by rw [yc];omega) (by omega) (hacc.keep kacc) (by omega) (by omega)
   refine Yx (k:=kdH2) rfl (by cases wv<;>kernel_rfl) (eH2 _ _ _ _ _ _ _ rfl rfl) (Za4 dH2 _) ?_
   have hk:=kbH2.keep hk (by omega)
   have ca:=kbH2.cl ca (by omega)
   have hd:=(show H2.t.get (H.next+3)=some (.dfr (some [])) from by rw [kbH2.2 _ (by omega)];exact hd)
   have mH2:=kbH2.1
   refine Za rfl<|Zb ?_
   show Zo _ _ _ _ _ _ _ _
   refine Za rfl<|Zu (a:=(frm+(i:Int))) (b:=1) rfl rfl ⟨by omega,by omega⟩<|Za rfl<|Zb ?_
   have hU:opl ns reach frm (i+1)=opl ns reach frm i ++ [frm+(i:Int)]:=by show (if frB ns reach (frm+i) then _ else _)=_;rw [if_pos hfr]
   have hacc2:Acc lo H9.next 3 H2 (.slice (some ⟨H1.next,0,none⟩) ((opl ns reach frm i).length+1) ((opl ns reach frm i).length+1)) (opl ns reach frm (i+1)).length (cI (opl ns reach frm (i+1))):=by rw [hU,List.length_append,jX];exact aH2
   exact ⟨_,(i+1,_),by omega,⟨by simp only [];omega,rfl,hk,by omega,ca,hd,hacc2⟩,rfl,rfl,rfl,rfl,ivq (by simp only [];omega),trivial⟩
  ·have q2:¬ (¬ (cls ns reach ns.length ((frm+(i:Int)).toNat)=true)):=by simpa using q2
   have hfr:frB ns reach (frm+(i:Int))=false:=by rw [← zC (by omega)];simpa using q2
   first | refine Zn ?_ | skip
   show Zo _ _ _ _ _ _ _ _
   refine Za rfl<|Zu (a:=(frm+(i:Int))) (b:=1) rfl rfl ⟨by omega,by omega⟩<|Za rfl<|Zb ?_
   have hU:opl ns reach frm (i+1)=opl ns reach frm i:=by show (if frB ns reach (frm+i) then _ else _)=_;rw [if_neg (by rw [hfr];simp)]
   exact ⟨_,(i+1,_),by omega,⟨by simp only [];omega,rfl,hk,by omega,ca,hd,by simp only [];rw [hU];exact hacc⟩,rfl,rfl,rfl,rfl,ivq (by simp only [];omega),trivial⟩
 ·have q1:¬ ((frm+(i:Int))≤to_):=of_decide_eq_false q1
  first | (refine ZG ?_;show wC _ _ _ _ _ _ _ _ _) | skip
  refine Zc<|Za rfl<|Za rfl<|Zb ?_
  have ein:i=(to_+1 - frm).toNat:=by omega
  rw [ein] at hacc
  refine And.intro trivial (Or.inr ⟨H.next+3,by rw [e5],by omega,hd,fun H12 hn12 hk12=>?_⟩)
  exact ⟨_,rfl,(hacc.keepW hk12 (by omega)).lowf (by omega),hk.new hk12 (fun b q=>.inr (by simp at q;omega))⟩
end
end
end Go.Ax

/-! Waiting loads: each as_ early as_ it can be. -/
namespace Go.Ax
open Go Go.RowKit
def WR (days limit:Int) (h:List Po) (l:Int):List Int→Option (Int × List Int)
 | []=>none
 | D :: os=>if l+ps (h.filter (yg (D - days)))≤limit then some (D,os) else WR days limit h l os
def Wa (days limit:Int):List Po→List Int→List Int→Option (List Int)
 | _,_,[]=>some []
 | h,os,l :: ls=>match WR days limit h l os with
  | none=>none
  | some (D,os')=>(Wa days limit (h ++ [⟨D,l⟩]) os' ls).map (D :: ·)
def scE:Option (List Int)→List Int × Int
 | some p=>(p,0)
 | none=>([],4)
section
variable {days limit:Int}
theorem jO {h:List Po} {l D:Int} {os:List Int} (q:l+ps (h.filter (yg (D - days)))≤limit):WR days limit h l (D :: os)=some (D,os):=by unfold WR;rw [if_pos q]
theorem ZbO {h:List Po} {l D:Int} {os:List Int} (q:¬ l+ps (h.filter (yg (D - days)))≤limit):WR days limit h l (D :: os)=WR days limit h l os:=by
 rw [WR,if_neg q]
theorem ze {h:List Po} {os os' ls:List Int} {l D:Int} (hf:WR days limit h l os=some (D,os')) :
  (Wa days limit h os (l :: ls)).map (h.map (·.d) ++ ·)=(Wa days limit (h ++ [⟨D,l⟩]) os' ls).map ((h ++ [(⟨D,l⟩:Po)]).map (·.d) ++ ·):=by
 rw [Wa,hf]
 simp only []
 cases Wa days limit (h ++ [⟨D,l⟩]) os' ls with
 | none=>rfl
 | some p=>simp
theorem jY {h:List Po} {os ls:List Int} {l:Int} (hf:WR days limit h l os=none):Wa days limit h os (l :: ls)=none:=by
 rw [Wa,hf]
theorem y0 {h:List Po} {os:List Int}:(Wa days limit h os []).map (h.map (·.d) ++ ·)=some (h.map (·.d)):=by simp [Wa]
theorem jA {os ls:List Int}:(Wa days limit [] os ls).map (([]:List Po).map (·.d) ++ ·)=Wa days limit [] os ls:=by
 cases Wa days limit [] os ls<;>rfl
end
theorem Zep {h:List Po} {c c':Int} (hc:c≤c'):(h.filter (yg c)).filter (yg c')=h.filter (yg c'):=by
 rw [List.filter_filter]
 refine List.filter_congr fun p _=>?_
 rw [Bool.eq_iff_iff,Bool.and_eq_true,Xl,Xl]
 omega
theorem qp {h:List Po} {c c':Int} (hs:Srt h) (hc:c≤c'):(h.filter (yg c)).dropWhile (old c')=h.filter (yg c'):=by
 rw [QE (List.Pairwise.sublist List.filter_sublist hs),Zep hc]
theorem Zbn {h:List Po} {c D l:Int} (hD:c < D):(h ++ [(⟨D,l⟩:Po)]).filter (yg c)=h.filter (yg c) ++ [⟨D,l⟩]:=by
 rw [List.filter_append,List.filter_cons_of_pos (Xl.2 hD)];rfl
theorem Srt.snoc {h:List Po} {D l:Int} (hs:Srt h) (hd:∀ p,p∈h→p.d≤D):Srt (h ++ [⟨D,l⟩]):=by
 unfold Srt
 rw [List.pairwise_append]
 exact ⟨hs,List.pairwise_singleton _ _,fun a ha b hb=>by rw [List.mem_singleton] at hb;subst hb;exact hd a ha⟩
def op (ns:List Ns) (reach:Int) (day:Int):Nat→List Int
 | 0=>[]
 | n+1=>if frB ns reach day then day :: op ns reach (day+1) n else op ns reach (day+1) n
theorem qt {ns:List Ns} {reach:Int}:∀ {n:Nat} {day:Int},op ns reach day (n+1)=op ns reach day n ++ (if frB ns reach (day+n) then [day+n] else [])
 | 0,day=>by
  show (if frB ns reach day then day :: op ns reach (day+1) 0 else op ns reach (day+1) 0)=_
  simp [op]
 | n+1,day=>by
  have ih:=qt (ns:=ns) (reach:=reach) (n:=n) (day:=day+1)
  have e:day+1+(n:Int)=day+((n+1:Nat):Int):=by omega
  rw [e] at ih
  rw [op,ih,op]
  split<;>simp
theorem Ko {ns:List Ns} {reach frm:Int}:∀ {k:Nat},opl ns reach frm k=op ns reach frm k
 | 0=>rfl
 | k+1=>by
  rw [qt,← Ko (k:=k)]
  show (if frB ns reach (frm+k) then opl ns reach frm k ++ [frm+k] else opl ns reach frm k)=_
  split<;>simp
theorem qj {ns:List Ns} {reach:Int}:∀ {n:Nat} {day D:Int},D∈op ns reach day n→day≤D∧D < day+n∧frB ns reach D=true
 | 0,_,_,h=>by simp [op] at h
 | n+1,day,D,h=>by
  rw [op] at h
  by_cases q:frB ns reach day=true
  ·rw [if_pos q] at h
   rcases List.mem_cons.1 h with rfl | h
   ·exact ⟨Int.le_refl _,by omega,q⟩
   ·have:=qj h;exact ⟨by omega,by omega,this.2.2⟩
  ·rw [if_neg q] at h
   have:=qj h;exact ⟨by omega,by omega,this.2.2⟩
theorem ZaP {ns:List Ns} {reach:Int}:∀ {n:Nat} {day:Int},(op ns reach day n).Pairwise (· < ·)
 | 0,_=>List.Pairwise.nil
 | n+1,day=>by
  rw [op]
  split
  ·exact List.pairwise_cons.2 ⟨fun D hD=>by have:=qj hD;omega,ZaP⟩
  ·exact ZaP
end Go.Ax

/-
 Pool: waiting: earliest,Schedule (written by program).
-/
namespace Go.Ax
open Go Go.RowKit Go.Proofs

noncomputable section
theorem i3s:∃ i,Try.prog.info? 3=some i∧i.size=1:=by
 have h:(Try.prog.info? 3).map (fun i=>i.size)=some 1:=by kernel_rfl
 cases e:Try.prog.info? 3 with
 | none=>rw [e] at h;cases h
 | some i=>rw [e] at h;simp at h;exact ⟨i,rfl,h⟩
theorem Acc.keepL {lo f:Nat} {e:TypeId} {H H1:Hp} {v:Value} {n:Nat} {cs:List Value} {W:List Nat} (h:Acc lo f e H v n cs) (k:Zj H H1 W) (hw:∀ b,b∈(bkv v).toList→b ∉ W):Acc lo f e H1 v n cs:=
 h.imp id fun ⟨b,e1,h0,hf,hl,hn,hg⟩=>⟨b,e1,h0,hf,hl,Nat.lt_of_lt_of_le hn k.1,by rw [k.2 b hn (hw b (by rw [e1];simp [bkv]))];exact hg⟩
theorem Acc.blk {lo f:Nat} {e:TypeId} {H:Hp} {v:Value} {n:Nat} {cs:List Value} (h:Acc lo f e H v n cs):∀ x,x∈(bkv v).toList→f≤x∧x < H.next:=by
 intro x hx
 rcases h with ⟨_,_,rfl⟩ | ⟨b,rfl,_,h2,_,h3,_⟩
 ·simp [bkv] at hx
 ·simp [bkv] at hx;subst hx;exact ⟨h2,h3⟩
theorem Zbb {l:List Int} {k:Nat}:(cI l).drop (k * 1)=cI (l.drop k):=by rw [Nat.mul_one];simp [cI]
structure Sst (days limit:Int) (loads os0:List Int) (h:List Po) (os:List Int) (cc:Int) (i:Nat):Prop where
 len:h.length=i
 srt:Srt h
 vl:Vl h
 dy:Dy h
 osd:∀ D,D∈os→0≤D∧D≤16384
 up:os.Pairwise (· < ·)
 cc:∀ D,D∈os→cc≤D - days
 lt:∀ p,p∈h→∀ D,D∈os→p.d≤D
 tot:(Wa days limit h os (loads.drop i)).map (h.map (·.d) ++ ·)=Wa days limit [] os0 loads
section
variable {days limit:Int} {loads os0 os:List Int} {h:List Po} {cc:Int} {i j:Nat}
theorem qS {os:List Int} (hu:os.Pairwise (· < ·)) {j:Nat} (hj:j < os.length):∀ D,D∈os.drop (j+1)→os.getD j 0 < D:=by
 intro D hD
 have h1:(os.drop j).Pairwise (· < ·):=List.Pairwise.sublist (List.drop_sublist j os) hu
 rw [XL (z:=0) hj] at h1
 exact (List.pairwise_cons.1 h1).1 D hD
theorem Sst.next (s:Sst days limit loads os0 h os cc i) (hd:1≤days) (hi:i < loads.length) (hj:j < os.length) (hl:0≤loads.getD i 0∧loads.getD i 0≤72057594037927936)
  (hf:WR days limit h (loads.getD i 0) os=WR days limit h (loads.getD i 0) (os.drop j)) (hc:loads.getD i 0+ps (h.filter (yg (os.getD j 0 - days)))≤limit) :
  Sst days limit loads os0 (h ++ [⟨os.getD j 0,loads.getD i 0⟩]) (os.drop (j+1)) (os.getD j 0 - days) (i+1):=by
 have hD:os.getD j 0∈os:=Xg hj
 have hup:=qS s.up hj
 have hsub:∀ D,D∈os.drop (j+1)→D∈os:=fun D q=>List.mem_of_mem_drop q
 have e1:WR days limit h (loads.getD i 0) os=some (os.getD j 0,os.drop (j+1)):=by
  rw [hf,XL (z:=0) hj,jO hc]
 refine ⟨by rw [List.length_append,s.len];rfl,s.srt.snoc fun p hp=>s.lt p hp _ hD,fun p hp=>?_,fun p hp=>?_,fun D q=>s.osd D (hsub D q),List.Pairwise.sublist (List.drop_sublist _ _) s.up,fun D q=>by have:=hup D q;omega,fun p hp D q=>?_,?_⟩
 ·rcases List.mem_append.1 hp with q | q
  ·exact s.vl p q
  ·rw [List.mem_singleton] at q;subst q;exact hl
 ·rcases List.mem_append.1 hp with q | q
  ·exact s.dy p q
  ·rw [List.mem_singleton] at q;subst q;exact s.osd _ hD
 ·rcases List.mem_append.1 hp with r | r
  ·exact s.lt p r D (hsub D q)
  ·rw [List.mem_singleton] at r;subst r;exact Int.le_of_lt (hup D q)
 ·rw [← s.tot,XL (z:=0) hi,ze e1]
theorem Sst.none (s:Sst days limit loads os0 h os cc i) (hi:i < loads.length) (hf:WR days limit h (loads.getD i 0) os=none):scE (Wa days limit [] os0 loads)=([],4):=by
 rw [← s.tot,XL (z:=0) hi,jY hf];rfl
theorem Sst.done (s:Sst days limit loads os0 h os cc i) (hi:i=loads.length):scE (Wa days limit [] os0 loads)=(h.map (·.d),0):=by
 rw [← s.tot,hi,List.drop_length,y0];rfl
end
section
variable {kn:Kn} {lo:Nat} {H:Hp}
set_option maxRecDepth 100000 in
theorem Zbw {x m:Int} {mb:Nat} (cm:Rd H mb [iv m]) (hlo:lo≤H.next):∃ H',FnX Try.prog kn lo 71 [iv x,pt mb] H (.bool (Wj m x)) H'∧Zj H H' []:=by
 have key:=Zp (kn:=kn) (lo:=lo) (H:=H) (args:=[iv x,pt mb]) (Q:=fun w H'=>w=(.bool (Wj m x))∧Zj H H' []) Try.func71 B71 N71 Z71 L71 (by simp) ?_
 ·obtain ⟨w,H',h,rfl,q⟩:=key;exact ⟨H',h,q⟩
 have hk:=Zj.refl H []
 refine Zc<|Za rfl<|Zb<|Zc<|Za rfl<|Zv (b:=mb) (o:=0) (v:=iv m) rfl cm rfl<|Zx rfl (XB) ?_
 intro tH1 H1 hH1 kH1
 have mH1:=kH1.1
 have hk:=hk.trans kH1
 have cm:=kH1.rd cm (by simp)
 cases tH1
 ·have thH1:inB x 0 m=false:=hH1
  have uhH1:=Wu thH1
  refine Zd (v:=.bool true) rfl rfl<|Za rfl<|Zb ?_
  exact And.intro trivial (Exists.intro _ (And.intro rfl ⟨congrArg Value.bool (show true=Wj m x from (by symm;simp only [Wj, *];try rfl)),hk⟩))
 ·have thH1:inB x 0 m=true:=hH1
  have uhH1:=XH thH1
  refine Zd (v:=.bool false) rfl rfl<|Za rfl<|Zb ?_
  exact And.intro trivial (Exists.intro _ (And.intro rfl ⟨congrArg Value.bool (show false=Wj m x from (by symm;simp only [Wj, *];try rfl)),hk⟩))
theorem Zbx {loads:List Int} {la:Option Addr} {n lcap:Nat} (hs:Sl H la n lcap (cI loads)) (hl:loads.length=n) (hn:n≤1000000) {m:Int} {mb:Nat} (cm:Rd H mb [iv m]) (hlo:lo≤H.next):∃ x H',FnX Try.prog kn lo 80 [.slice la n lcap,.func (.func 71) #[] #[pt mb]] H (iv x) H'∧decide (x ≥ 0)=loads.any (Wj m)∧Zj H H' []:=by
 have key:=Zp (kn:=kn) (lo:=lo) (H:=H) (args:=[.slice la n lcap,.func (.func 71) #[] #[pt mb]]) (Q:=fun w H'=>∃ x,w=iv x∧decide (x ≥ 0)=loads.any (Wj m)∧Zj H H' []) Try.func80 B80 N80 Z80 L80 (by simp) ?_
 ·obtain ⟨w,H',h,x,rfl,r⟩:=key;exact ⟨x,H',h,r⟩
 have hk:=Zj.refl H []
 have fs:=hs.old
 refine Zc<|Za rfl<|Zb<|Zc<|Za rfl<|Ys (m:=n) rfl<|Za rfl<|Zb ?_
 refine Zy (fn:=Try.f80) Zdx N80 Zex (fun i:Nat=>[(0,.slice la n lcap),(1,.func (.func 71) #[] #[pt mb]),(7,iv (n:Int)),(8,iv (i:Int))])
  (fun k i H'=>i+k=n∧Zj H H' []∧Sl H' la n lcap (cI loads)∧Rd H' mb [iv m]∧∀ j,j < i→Wj m (loads.getD j 0)=false) n 0 ⟨by omega,hk,hs,cm,fun j h=>absurd h (Nat.not_lt_zero j)⟩ ⟨rfl,rfl,rfl,rfl,trivial⟩ ?_
 rintro k i L1 ⟨hik,hk,hs,cm,hall⟩
 have mk:=hk.1
 refine Zc<|ZF (a:=(i:Int)) (b:=(n:Int)) rfl rfl<|Zb ?_
 refine And.intro (fun q1=>?_) (fun q1=>?_)
 ·have q1:(i:Int) < (n:Int):=of_decide_eq_true q1
  have hi:i < n:=by omega
  rcases id hs with ⟨_,h0s,_⟩ | ⟨sb,es,rs,_⟩
  ·omega
  have ls:=rs.1
  have lsb2:=fs sb es
  first | refine Zn ?_ | skip
  refine Zc<|Za rfl<|Za rfl<|Zb<|Zc<|Za rfl<|Za rfl<|Za rfl<|XC (b:=sb) (o:=0) (k:=i) (j:=(i:Int)) (by rw [← es];rfl) rfl rfl hi<|Zv (b:=sb) (o:=0+i * 1) (v:=iv (loads.getD i 0)) rfl rs (zZ (by omega)) ?_
  obtain ⟨H1,fH1,kH1⟩:=Zbw (kn:=kn) (lo:=lo) (H:=L1) (x:=(loads.getD i 0)) cm (by omega)
  obtain ⟨tH1,eH1⟩:∃ t,t=Wj m (loads.getD i 0):=⟨_,rfl⟩
  rw [← eH1] at fH1
  refine Zh (vs:=[iv (loads.getD i 0)]) rfl (Y4 rfl (by simpa using fH1)) ?_
  have mH1:=kH1.1
  have hk:=hk.trans kH1
  have hs:=kH1.sl0 hs
  have cm:=kH1.rd cm (by simp)
  have rs:=kH1.rd rs (by simp)
  cases tH1
  ·have hb:Wj m (loads.getD i 0)=false:=eH1.symm
   refine Zb<|Z2 ?_
   first | refine Zn ?_ | skip
   show Zo _ _ _ _ _ _ _ _
   refine Zu (a:=(i:Int)) (b:=1) rfl rfl ⟨by omega,by omega⟩<|Za rfl<|Zb ?_
   exact ⟨k - 1,i+1,by omega,⟨by omega,hk,hs,cm,fun j hj=>by rcases Nat.lt_or_ge j i with c | c;exact hall j c;rw [show j=i by omega];exact hb⟩,rfl,rfl,rfl,ivq (by omega),trivial⟩
  ·have hb:Wj m (loads.getD i 0)=true:=eH1.symm
   refine Zb<|Ya<|Zc<|Za rfl<|Za rfl<|Zb ?_
   exact And.intro trivial (Exists.intro _ (And.intro rfl ⟨(i:Int),rfl,by rw [QQ (z:=0) (j:=i) (by omega) hb];exact decide_eq_true (by omega),hk⟩))
 ·have q1:¬ ((i:Int) < (n:Int)):=of_decide_eq_false q1
  first | (refine ZG ?_;show wC _ _ _ _ _ _ _ _ _) | skip
  refine Zc<|Za rfl<|Zb ?_
  exact And.intro trivial (Exists.intro _ (And.intro rfl ⟨-1,rfl,by rw [UO (z:=0) (fun j hj=>hall j (by omega))];rfl,hk⟩))
set_option maxRecDepth 100000 in
theorem ZbW {loads:List Int} {la:Option Addr} {n lcap:Nat} (hs:Sl H la n lcap (cI loads)) (hl:loads.length=n) (hn:n≤1000000) {m:Int} {mb:Nat} (cm:Rd H mb [iv m]) (hlo:lo≤H.next):∃ H',FnX Try.prog kn lo 70 [.slice la n lcap,.func (.func 71) #[] #[pt mb]] H (.bool (loads.any (Wj m))) H'∧Zj H H' []:=by
 have key:=Zp (kn:=kn) (lo:=lo) (H:=H) (args:=[.slice la n lcap,.func (.func 71) #[] #[pt mb]]) (Q:=fun w H'=>w=(.bool (loads.any (Wj m)))∧Zj H H' []) Try.func70 B70 N70 Z70 L70 (by simp) ?_
 ·obtain ⟨w,H',h,rfl,q⟩:=key;exact ⟨H',h,q⟩
 have hk:=Zj.refl H []
 refine Zc<|Za rfl<|Zb<|Zc<|Za rfl<|Za rfl ?_
 obtain ⟨x,H1,fH1,hx,kH1⟩:=Zbx (kn:=kn) (lo:=lo) (H:=H) hs hl hn cm (by omega)
 refine Zh (vs:=[.slice la n lcap,.func (.func 71) #[] #[pt mb]]) rfl (Zf fH1) ?_
 have mH1:=kH1.1
 have hk:=hk.trans kH1
 refine QL (a:=x) (b:=0) rfl rfl<|Za rfl<|Zb ?_
 exact And.intro trivial (Exists.intro _ (And.intro rfl ⟨congrArg Value.bool hx,hk⟩))
set_option maxRecDepth 100000 in
theorem qZ {loads:List Int} {la:Option Addr} {n lcap:Nat} (hs:Sl H la n lcap (cI loads)) (hl:loads.length=n) (hn:n≤1000000) {m:Int} (hlo:lo≤H.next):∃ H',FnX Try.prog kn lo 50 [.slice la n lcap,iv m] H (.bool (!loads.any (Wj m))) H'∧Zj H H' []:=by
 have key:=Zp (kn:=kn) (lo:=lo) (H:=H) (args:=[.slice la n lcap,iv m]) (Q:=fun w H'=>w=(.bool (!loads.any (Wj m)))∧Zj H H' []) Try.func50 B50 N50 Z50 L50 (by simp) ?_
 ·obtain ⟨w,H',h,rfl,q⟩:=key;exact ⟨H',h,q⟩
 have hk:=Zj.refl H []
 have fs:=hs.old
 refine Zc<|ZZ (v:=iv m) rfl ?_
 intro H1 kH1 nH1 c1
 have c1:Cl H1 H.next [iv m]:=c1
 have mH1:=kH1.1
 have hk:=hk.trans kH1
 have hs:=kH1.sl0 hs
 refine Za rfl<|Zb<|Zc<|Za rfl<|Zd (v:=.func (.func 71) #[] #[pt H.next]) rfl (by kernel_rfl) ?_
 obtain ⟨H2,fH2,kH2⟩:=ZbW (kn:=kn) (lo:=lo) (H:=H1) hs hl hn c1.rd (by omega)
 refine Zh (vs:=[.slice la n lcap,.func (.func 71) #[] #[pt H.next]]) rfl (Zf fH2) ?_
 have mH2:=kH2.1
 have hk:=hk.trans kH2
 have hs:=kH2.sl0 hs
 have c1:=kH2.cl c1 (by simp)
 refine Zd (v:=.bool (!(loads.any (Wj m)))) rfl rfl<|Za rfl<|Zb ?_
 exact And.intro trivial (Exists.intro _ (And.intro rfl ⟨rfl,hk⟩))
set_option maxRecDepth 100000 in
set_option maxHeartbeats 4000000 in
theorem zg {loads:List Int} {la:Option Addr} {n lcap:Nat} (hs:Sl H la n lcap (cI loads)) (hl:loads.length=n) (hn:n≤64) {os0:List Int} {oa:Option Addr} {om oc:Nat} {days limit:Int} (ho:Qu lo 0 3 H oa om oc (cI os0)) (hol:os0.length=om) (homx:om≤1000000) (hosd:∀ D,D∈os0→0≤D∧D≤16384) (hup:os0.Pairwise (· < ·)) (hv:∀ l,l∈loads→0≤l∧l≤72057594037927936) (hdy:1≤days∧days≤366) (hlim:0≤limit∧limit≤72057594037927936) (hlo:lo≤H.next) :
  ∃ v pl e H',FnX Try.prog kn lo 51 [.slice la n lcap,.slice oa om oc,iv days,iv limit] H (.tuple #[v,iv e]) H'∧scE (Wa days limit [] os0 loads)=(pl,e)∧Acc lo H.next 3 H' v pl.length (cI pl)∧Zj H H' []:=by
 have key:=Zp (kn:=kn) (lo:=lo) (H:=H) (args:=[.slice la n lcap,.slice oa om oc,iv days,iv limit]) (Q:=fun w H'=>∃ v pl e,w=.tuple #[v,iv e]∧scE (Wa days limit [] os0 loads)=(pl,e)∧Acc lo H.next 3 H' v pl.length (cI pl)∧Zj H H' []) Try.func51 B51 N51 Z51 L51 (by simp) ?_
 ·obtain ⟨w,H',h,v,pl,e,rfl,q⟩:=key;exact ⟨v,pl,e,H',h,q⟩
 have hk:=Zj.refl H []
 have fs:=hs.old
 have hob:∀ x,x∈YF oa→x < H.next:=fun x hx=>(ho.blk x hx).2.2
 refine Zc<|Za rfl<|Za rfl<|Zb ?_
 first | refine ZcL ?_ | refine ZbX ?_
 refine Zc<|Za rfl<|Zd (v:=.agg #[iv days,.slice none 0 0]) rfl (by kernel_rfl)<|Yt ?_
 intro H1 kH1 nH1 c1
 have c1:Cl H1 H.next [iv 0,.slice none 0 0]:=c1
 have mH1:=kH1.1
 have hk:=hk.trans kH1
 have hs:=kH1.sl0 hs
 have ho:=ho.keep kH1 (fun x hx=>by have:=hob x hx;simp)
 refine Z4 (b:=H.next) (o:=0) rfl rfl c1 (by omega) rfl rfl (by simp) ?_
 intro H2 kH2 nH2 sH2
 have mH2:=kH2.1
 have hk:=hk.new kH2 (fun b hb=>by simp at hb ⊢;omega)
 have hs:=kH2.sl hs (fun b e=>by have:=fs b e;first | (simp;done) | (simp;omega))
 have ho:=ho.keep kH2 (fun x hx=>by have:=hob x hx;simp;omega)
 have c1:Cl H2 H.next [iv days,.slice none 0 0]:=sH2
 refine Zb<|Zc<|Za rfl<|Zb ?_
 first | refine Zn ?_ | skip
 refine Zc<|Za rfl<|Ys (m:=n) rfl<|Za rfl<|Zb ?_
 refine Zy (fn:=Try.f51) Zez N51 ZdT (fun z:Nat × Value × Option Addr × Nat × Nat=>[(1,.slice z.2.2.1 z.2.2.2.1 z.2.2.2.2),(2,iv days),(3,iv limit),(10,pt H.next),(11,z.2.1),(18,.slice la n lcap),(19,iv (n:Int)),(20,iv (z.1:Int))])
  (fun k z H'=>z.1+k=n∧Zj H H' []∧H.next < H'.next∧Sl H' la n lcap (cI loads)∧∃ qa1 c1 h os cc,Cl H' H.next [iv days,.slice qa1 (h.filter (yg cc)).length c1]∧Qu lo (H.next+1) 95 H' qa1 (h.filter (yg cc)).length c1 (poc (h.filter (yg cc)))∧Acc lo (H.next+1) 3 H' z.2.1 h.length (cI (h.map (·.d)))∧Qu lo 0 3 H' z.2.2.1 z.2.2.2.1 z.2.2.2.2 (cI os)∧os.length=z.2.2.2.1∧z.2.2.2.1≤1000000∧(∀ x,x∈YF z.2.2.1→x < H.next)∧(∀ x,x∈YF qa1→x ∉ (bkv z.2.1).toList)∧Sst days limit loads os0 h os cc z.1) n (0,.slice none 0 0,oa,om,oc) ⟨by simp,hk,by omega,hs,none,0,[],os0,-400,c1,Qu.nil,.inl ⟨rfl,rfl,rfl⟩,ho,hol,homx,hob,fun x hx=>by simp [YF] at hx,⟨rfl,List.Pairwise.nil,fun p hp=>by simp at hp,fun p hp=>by simp at hp,hosd,hup,fun D hD=>by have:=hosd D hD;omega,fun p hp=>by simp at hp,jA⟩⟩ ⟨rfl,rfl,rfl,rfl,rfl,rfl,rfl,rfl,trivial⟩ ?_
 rintro k ⟨i,wv,oa,om,oc⟩ L1 ⟨hik,hk,hnx,hs,qa1,c1,h,os,cc,cw,hq,hacc,ho,hol,homx,hob,hdj,s⟩
 simp only [] at hik hacc ho hol homx hob s;have mk:=hk.1;have hqb:=hq.blk;have hab:=hacc.blk;have hhl:=s.len;have hfl:=List.length_filter_le (yg cc) h
 refine Zc<|ZF (a:=(i:Int)) (b:=(n:Int)) rfl rfl<|Zb ?_
 refine And.intro (fun q1=>?_) (fun q1=>?_)
 ·have q1:(i:Int) < (n:Int):=of_decide_eq_true q1
  have hi:i < n:=by omega
  rcases id hs with ⟨_,h0s,_⟩ | ⟨sb,es,rs,_⟩
  ·omega
  have ls:=rs.1
  have lsb2:=fs sb es;have hld:=hv (loads.getD i 0) (Xg (z:=0) (l:=loads) (i:=i) (by omega))
  first | refine Zn ?_ | skip
  refine Zc<|XC (b:=sb) (o:=0) (k:=i) (j:=(i:Int)) (by rw [← es];rfl) rfl rfl hi<|Zv (b:=sb) (o:=0+i * 1) (v:=iv (loads.getD i 0)) rfl rs (zZ (by omega))<|Za rfl<|Zb<|Zc<|Za rfl<|Ys (m:=om) rfl<|Za rfl<|Zb ?_
  refine Zy (fn:=Try.f51) Zev N51 Zd9 (fun j:Nat=>[(1,.slice oa om oc),(2,iv days),(3,iv limit),(10,pt H.next),(11,wv),(18,.slice la n lcap),(19,iv (n:Int)),(20,iv (i:Int)),(13,iv (loads.getD i 0)),(24,.slice oa om oc),(25,iv (om:Int)),(26,iv (j:Int))])
   (fun m j H'=>j+m=om∧Zj H H' []∧H.next < H'.next∧Sl H' la n lcap (cI loads)∧(∃ qa2 c2 cc2,Cl H' H.next [iv days,.slice qa2 (h.filter (yg cc2)).length c2]∧Qu lo (H.next+1) 95 H' qa2 (h.filter (yg cc2)).length c2 (poc (h.filter (yg cc2)))∧(∀ x,x∈YF qa2→x ∉ (bkv wv).toList)∧∀ D,D∈os.drop j→cc2≤D - days)∧Acc lo (H.next+1) 3 H' wv h.length (cI (h.map (·.d)))∧Qu lo 0 3 H' oa om oc (cI os)∧WR days limit h (loads.getD i 0) os=WR days limit h (loads.getD i 0) (os.drop j)) om 0 ⟨by omega,hk,by omega,hs,⟨qa1,c1,cc,cw,hq,hdj,fun D hD=>s.cc D (by simpa using hD)⟩,hacc,ho,by simp⟩ ⟨rfl,rfl,rfl,rfl,rfl,rfl,rfl,rfl,rfl,rfl,rfl,rfl,trivial⟩ ?_
  rintro m j L2 ⟨hjm,hk,hnx,hs,⟨qa2,c2,cc2,cw,hq,hdj,hcc2⟩,hacc,ho,hf⟩
  have mk:=hk.1;have hqb:=hq.blk;have hab:=hacc.blk;have hhl:=s.len;have hfl:=List.length_filter_le (yg cc2) h
  refine Zc<|ZF (a:=(j:Int)) (b:=(om:Int)) rfl rfl<|Zb ?_
  refine And.intro (fun q2=>?_) (fun q2=>?_)
  ·have q2:(j:Int) < (om:Int):=of_decide_eq_true q2
   have hj:j < om:=by omega
   obtain ⟨pb,po,p0,ep_,fp,lp,rp,dp⟩:=ho.pos (by omega)
   have hpb:=hob pb (by rw [ep_];simp [YF])
   have hDm:(os.getD j 0)∈os:=Xg (by omega)
   have hDr:=s.osd _ hDm;have hcd:cc2≤(os.getD j 0) - days:=hcc2 _ (by rw [XL (z:=0) (show j < os.length by omega)];simp)
   have hdw:=qp s.srt hcd;have hfl3:=List.length_filter_le (yg ((os.getD j 0) - days)) h
   first | refine Zn ?_ | skip
   refine Zc<|Za rfl<|XC (b:=pb) (o:=po) (k:=j) (j:=(j:Int)) (by rw [← ep_];rfl) rfl rfl hj<|Zv (b:=pb) (o:=po+j * 1) (v:=iv (os.getD j 0)) rfl rp (zY dp (zZ (l:=os) (i:=j) (by omega)) (by omega))<|Za rfl<|Za rfl<|Zb<|Zc<|Za rfl ?_
   obtain ⟨H3,qa3,n3,c3,fH3,kH3,cw,hq,hl3,hab3⟩:=qC (kn:=kn) (lo:=lo) (H:=L2) cw hq rfl (by omega) (by omega) (by omega) (by omega) (s.dy.sub fun p hp=>(List.mem_filter.1 hp).1) (D:=(os.getD j 0)) (by omega) hdy
   refine Zh (vs:=[pt H.next,iv (os.getD j 0)]) rfl (Zf fH3) ?_
   rw [hdw] at hq hl3;subst hl3
   have mH3:=kH3.1
   have hk:=hk.new kH3 (fun b hb=>by simp at hb ⊢;omega)
   have hs:=kH3.sl hs (fun b e=>by have:=fs b e;first | (simp;done) | (simp;omega))
   have hacc:=hacc.keepL kH3 (fun x hx=>by have:=hab x hx;simp;omega)
   have ho:=ho.keep kH3 (fun x hx=>by have:=hob x hx;simp;omega)
   have rp:=kH3.rd rp (by first | (simp;done) | (simp;omega))
   have hqb:=hq.blk;have hdj:∀ x,x∈YF qa3→x ∉ (bkv wv).toList:=fun x hx=>hdj x (by rw [← hab3];exact hx)
   refine Zb<|Zc ?_
   obtain ⟨H4,fH4,kH4⟩:=Ju (kn:=kn) (lo:=lo) (H:=H3) cw hq rfl (by omega) (by omega) (by omega) (by omega) (s.vl.sub fun p hp=>(List.mem_filter.1 hp).1)
   refine Zh (vs:=[pt H.next]) rfl (Zf fH4) ?_
   have mH4:=kH4.1
   have hk:=hk.trans kH4
   have hs:=kH4.sl0 hs
   have hacc:=hacc.keepL kH4 (fun x hx=>by have:=hab x hx;simp)
   have ho:=ho.keep kH4 (fun x hx=>by have:=hob x hx;simp)
   have rp:=kH4.rd rp (by simp)
   have cw:=kH4.cl cw (by simp)
   have hq:=hq.keep kH4 (fun x hx=>by have:=hqb x hx;simp)
   have hpl:=qK (l:=(h.filter (yg ((os.getD j 0) - days)))) fun p hp=>(s.vl p (List.mem_filter.1 hp).1).1;have hph:=qQ (l:=(h.filter (yg ((os.getD j 0) - days)))) (s.vl.sub fun p hp=>(List.mem_filter.1 hp).1)
   refine Za rfl<|Zu (a:=(ps (h.filter (yg ((os.getD j 0) - days))))) (b:=(loads.getD i 0)) rfl rfl ⟨by omega,by omega⟩<|Za rfl<|Xh (a:=(ps (h.filter (yg ((os.getD j 0) - days))))+(loads.getD i 0)) (b:=limit) rfl rfl<|Zb ?_
   refine And.intro (fun q3=>?_) (fun q3=>?_)
   ·have q3:((ps (h.filter (yg ((os.getD j 0) - days))))+(loads.getD i 0)) > limit:=of_decide_eq_true q3
    first | (refine ZG ?_;show wC _ _ _ _ _ _ _ _ _) | skip
    show Zo _ _ _ _ _ _ _ _
    refine Zu (a:=(j:Int)) (b:=1) rfl rfl ⟨by omega,by omega⟩<|Za rfl<|Zb ?_
    exact ⟨m - 1,j+1,by omega,⟨by omega,hk,by omega,hs,⟨_,_,(os.getD j 0) - days,cw,hq,hdj,fun D hD=>by have:=qS s.up (by omega) D hD;omega⟩,hacc,ho,by rw [hf,XL (z:=0) (by omega),ZbO (by omega)]⟩,rfl,rfl,rfl,rfl,rfl,rfl,rfl,rfl,rfl,rfl,rfl,ivq (by omega),trivial⟩
   ·have q3:¬ (((ps (h.filter (yg ((os.getD j 0) - days))))+(loads.getD i 0)) > limit):=of_decide_eq_false q3
    first | refine Zn ?_ | skip
    refine Zc<|Za rfl<|Za rfl<|Zd (v:=.agg #[iv (os.getD j 0),iv (loads.getD i 0)]) rfl (by kernel_rfl) ?_
    have habo:=hacc.blk
    obtain ⟨H5,qa4,n4,c4,fH5,kH5,cw,hq,hl4,hfr⟩:=UM (kn:=kn) (lo:=lo) (H:=H4) cw hq rfl (by omega) (by omega) (by omega) (by omega) (s.dy.sub fun p hp=>(List.mem_filter.1 hp).1) (by omega) (p:=(⟨(os.getD j 0),(loads.getD i 0)⟩:Po)) (by exact hDr) hdy
    refine Zh (vs:=[pt H.next,.agg (Po.f (⟨(os.getD j 0),(loads.getD i 0)⟩:Po)).toArray]) rfl (Zf fH5) ?_
    have hd2:(h.filter (yg ((os.getD j 0) - days))).dropWhile (old (((⟨(os.getD j 0),(loads.getD i 0)⟩:Po)).d - days)) ++ [(⟨(os.getD j 0),(loads.getD i 0)⟩:Po)]=(h ++ [(⟨(os.getD j 0),(loads.getD i 0)⟩:Po)]).filter (yg ((os.getD j 0) - days)):=by rw [qp s.srt (Int.le_refl _),Zbn (by omega)]
    rw [hd2] at hq hl4;subst hl4
    have hk:=hk.new kH5 (fun x hx=>.inr (by rcases List.mem_cons.1 hx with e | hx;omega;(have:=hqb _ hx;omega)))
    have hs:=kH5.sl hs (fun x e0 hx=>by have:=fs x e0;rcases List.mem_cons.1 hx with e | hx;omega;(have:=hqb _ hx;omega))
    have ho:=ho.keep kH5 (fun x hx hx2=>by have:=hob x hx;rcases List.mem_cons.1 hx2 with e | hx2;omega;(have:=hqb _ hx2;omega))
    have hacc:=hacc.keepL kH5 (fun x hx hx2=>by have:=hab x hx;rcases List.mem_cons.1 hx2 with e | hx2;omega;exact hdj x hx2 hx)
    have mH5:=kH5.1;have hqb:=hq.blk;have hab:=hacc.blk
    have hdj:∀ x,x∈YF qa4→x ∉ (bkv wv).toList:=fun x hx hx2=>by have:=hfr x hx;have:=habo x hx2;omega
    refine Zb<|Zc<|Za rfl<|Za rfl ?_
    obtain ⟨H6,hH6⟩:∃ H6,H5.new (.cells [iv (os.getD j 0)] 3 false)=H6:=⟨_,rfl⟩
    refine Yx (H':=H6) (k:=.heavy) rfl (by kernel_rfl) ((Xu (v:=iv (os.getD j 0)) jW zo3 rfl rfl rfl (by decide)).trans (by rw [← hH6];rfl)) (fun b e=>by cases e) ?_
    obtain ⟨kH6,nH6,c6⟩:=Yc hH6;clear hH6
    have c6:Cl H6 H5.next [iv (os.getD j 0)]:=c6
    have mH6:=kH6.1
    have hk:=hk.trans kH6
    have hs:=kH6.sl0 hs
    have hacc:=hacc.keepL kH6 (fun x hx=>by have:=hab x hx;simp)
    have ho:=ho.keep kH6 (fun x hx=>by have:=hob x hx;simp)
    have cw:=kH6.cl cw (by simp)
    have hq:=hq.keep kH6 (fun x hx=>by have:=hqb x hx;simp)
    obtain ⟨ax,cx,hwv,hqa⟩:=Qu.of_acc hacc
    subst hwv
    obtain ⟨H7,kdH7,eH7,dH7,aH7,kbH7⟩:=Vo (P:=Try.prog) (lo:=lo) (t1:=42) jW ZcW (c6.sl (Nat.le_refl 1)) rfl (by decide) rfl (by rw [yc,List.length_map];omega) (by omega) hqa (by omega) (f:=H.next+1) (by omega)
    refine Yx (k:=kdH7) rfl (by kernel_rfl) (eH7 _ _ _ _ _ _ _ rfl rfl) (by intro x hx;rcases dH7 with q | ⟨bH7,q,_⟩<;>rw [q] at hx<;>cases hx) ?_
    have hqn:=hqa.blk;have hdj2:∀ x,x∈YF ax→x∈(bkv (.slice ax h.length cx)).toList:=fun x hx=>by cases ax with | none=>simp [YF] at hx | some a0=>simpa [YF,bkv] using hx
    have hk:=hk.new kbH7 (fun x hx=>.inr (by have:=hqn x hx;omega))
    have hs:=kbH7.sl hs (fun x e0 hx=>by have:=fs x e0;have:=hqn x hx;omega)
    have ho:=ho.keep kbH7 (fun x hx hx2=>by have:=hob x hx;have:=hqn x hx2;omega)
    have cw:=kbH7.cl cw (fun hx=>by have:=hqn _ hx;omega)
    have hq:=hq.keep kbH7 (fun x hx hx2=>hdj x hx (hdj2 x hx2))
    have mH7:=kbH7.1
    have hdj:∀ x,x∈YF qa4→x ∉ (bkv (.slice (some (⟨H6.next,0,none⟩:Addr)) (h.length+1) (h.length+1))).toList:=fun x hx hx2=>by have:=hqb x hx;simp [bkv] at hx2;omega
    have hacc2:Acc lo (H.next+1) 3 H7 (.slice (some ⟨H6.next,0,none⟩) (h.length+1) (h.length+1)) (h ++ [(⟨(os.getD j 0),(loads.getD i 0)⟩:Po)]).length (cI ((h ++ [(⟨(os.getD j 0),(loads.getD i 0)⟩:Po)]).map (·.d))):=by rcases aH7 with ⟨q,_⟩ | ⟨_,_,_,b9,o9,c9,q,_⟩ | ⟨b9,o9,c9,q,q0,qa1,qa2,qa3,qa4,q5,q6⟩<;>cases q;rw [List.drop_zero] at q6;subst q6;exact .inr ⟨H6.next,by rw [List.length_append];rfl,by rw [List.length_append];exact q0,qa1,qa2,qa3,by rw [List.map_append,jX];exact qa4⟩
    have hqb:=hq.blk
    refine Za rfl<|Zb<|Zc<|Za rfl<|Za rfl<|Zu (a:=(j:Int)) (b:=1) rfl rfl ⟨by omega,by omega⟩ ?_
    obtain ⟨i3,hi3,hs3⟩:=i3s
    obtain ⟨o2,oc2,ob2,hsl,hb2,ho,hab2⟩:=V6 (lo:=lo) (k:=j+1) (j:=((j:Int)+1)) ZcW hi3 hs3 (by omega) ho (by rw [yc,hol,Nat.mul_one]) (by omega) (by omega) (by omega)
    refine Yx (k:=.read ob2) rfl (by kernel_rfl) (hsl _ _ _ _ _ _ _ rfl rfl) (fun b e=>by cases e;exact hb2) ?_
    rw [Zbb] at ho;have hob:∀ x,x∈YF o2→x < H.next:=fun x hx=>hob x (by rw [← hab2];exact hx)
    refine Za rfl<|Zb ?_
    first | (refine ZG ?_;show wC _ _ _ _ _ _ _ _ _) | skip
    show Zo _ _ _ _ _ _ _ _
    refine Zu (a:=(i:Int)) (b:=1) rfl rfl ⟨by omega,by omega⟩<|Za rfl<|Zb ?_
    exact ⟨k - 1,(i+1,_,_,_,_),by omega,⟨by simp only [];omega,hk,by omega,hs,_,_,h ++ [⟨(os.getD j 0),(loads.getD i 0)⟩],os.drop (j+1),(os.getD j 0) - days,cw,hq,hacc2,ho,by simp only [];rw [List.length_drop,hol],by simp only [];omega,hob,hdj,s.next (by omega) (by omega) (by omega) hld hf (by omega)⟩,rfl,rfl,rfl,rfl,rfl,rfl,rfl,ivq (by simp only [];omega),trivial⟩
  ·have q2:¬ ((j:Int) < (om:Int)):=of_decide_eq_false q2
   have hfn:WR days limit h (loads.getD i 0) os=none:=by rw [hf,List.drop_eq_nil_of_le (by omega)];rfl
   first | (refine ZG ?_;show wC _ _ _ _ _ _ _ _ _) | skip
   refine Zc<|Za rfl<|Za rfl<|Zb ?_
   exact And.intro trivial (Exists.intro _ (And.intro rfl ⟨_,[],4,rfl,s.none (by omega) hfn,.inl ⟨rfl,rfl,rfl⟩,hk⟩))
 ·have q1:¬ ((i:Int) < (n:Int)):=of_decide_eq_false q1
  first | (refine ZG ?_;show wC _ _ _ _ _ _ _ _ _) | skip
  refine Zc<|Za rfl<|Za rfl<|Za rfl<|Zb ?_
  exact And.intro trivial (Exists.intro _ (And.intro rfl ⟨_,h.map (·.d),0,rfl,s.done (by omega),by rw [List.length_map];exact hacc.lowf (by omega),hk⟩))
end
end
end Go.Ax

/-
 Pool: Schedule,and the document of it (written by program).
-/
namespace Go.Ax
open Go Go.RowKit Go.Proofs

noncomputable section
def seT (loads:List Int) (ns:List Ns) (reach days limit frm to_:Int):List Int × Int:=
 if 64 < loads.length then ([],3) else if vN ns=false then ([],1) else if loads.any (Wj 72057594037927936)=true∨inB limit 0 72057594037927936=false∨inB reach 0 63=false∨inB days 1 366=false∨inB frm 0 16384=false∨inB to_ 0 16384=false then ([],2) else scE (Wa days limit [] (op ns reach frm (to_+1 - frm).toNat) loads)
section
variable {loads:List Int} {ns:List Ns} {reach days limit frm to_:Int}
theorem Zcu (h:64 < loads.length):seT loads ns reach days limit frm to_=([],3):=by unfold seT;rw [if_pos h]
theorem Zct (h:¬ 64 < loads.length) (k:vN ns=false):seT loads ns reach days limit frm to_=([],1):=by unfold seT;rw [if_neg h,if_pos k]
theorem W4 (h:¬ 64 < loads.length) (k:vN ns=true) (q:loads.any (Wj 72057594037927936)=true∨inB limit 0 72057594037927936=false∨inB reach 0 63=false∨inB days 1 366=false∨inB frm 0 16384=false∨inB to_ 0 16384=false):seT loads ns reach days limit frm to_=([],2):=by unfold seT;rw [if_neg h,if_neg (by rw [k];decide),if_pos q]
theorem Zeo (h:¬ 64 < loads.length) (k:vN ns=true) (q1:loads.any (Wj 72057594037927936)=false) (q2:inB limit 0 72057594037927936=true) (q3:inB reach 0 63=true) (q4:inB days 1 366=true) (q5:inB frm 0 16384=true) (q6:inB to_ 0 16384=true):seT loads ns reach days limit frm to_=scE (Wa days limit [] (op ns reach frm (to_+1 - frm).toNat) loads):=by
 unfold seT;rw [if_neg h,if_neg (by rw [k];decide),if_neg (by rw [q1,q2,q3,q4,q5,q6];decide)]
end
def py (h:List Po) (c:Int) (k:Nat):Int:=ps ((h.take k).filter (yg c))
structure Rst (ns:List Ns) (reach days limit to_:Int) (loads os0:List Int) (h:List Po) (day:Int) (i:Nat):Prop where
 len:h.length=i
 vl:Vl h
 dy:Dy h
 ld:∀ k,k < i→(h.getD k Po.z).l=loads.getD k 0
 tot:(Wa days limit h (op ns reach day (to_+1 - day).toNat) (loads.drop i)).map (h.map (·.d) ++ ·)=Wa days limit [] os0 loads
section
variable {ns:List Ns} {reach days limit to_ day D:Int} {loads os0:List Int} {h:List Po} {i:Nat}
theorem Rst.next (s:Rst ns reach days limit to_ loads os0 h day i) (hi:i < loads.length) (hl:0≤loads.getD i 0∧loads.getD i 0≤72057594037927936) (hD:0≤D∧D≤16384) (hDt:D≤to_) (hfr:frB ns reach D=true)
  (hf:WR days limit h (loads.getD i 0) (op ns reach day (to_+1 - day).toNat)=WR days limit h (loads.getD i 0) (op ns reach D (to_+1 - D).toNat)) (hc:loads.getD i 0+py h (D - days) i≤limit) :
  Rst ns reach days limit to_ loads os0 (h ++ [⟨D,loads.getD i 0⟩]) (D+1) (i+1):=by
 have e0:(to_+1 - D).toNat=(to_+1 - (D+1)).toNat+1:=by omega
 have e1:WR days limit h (loads.getD i 0) (op ns reach day (to_+1 - day).toNat)=some (D,op ns reach (D+1) (to_+1 - (D+1)).toNat):=by
  rw [hf,e0,op,if_pos hfr]
  refine jO ?_
  unfold py at hc
  rwa [List.take_of_length_le (by rw [s.len];exact Nat.le_refl _)] at hc
 refine ⟨by rw [List.length_append,s.len];rfl,fun p hp=>?_,fun p hp=>?_,fun k hk=>?_,?_⟩
 ·rcases List.mem_append.1 hp with q | q
  ·exact s.vl p q
  ·rw [List.mem_singleton] at q;subst q;exact hl
 ·rcases List.mem_append.1 hp with q | q
  ·exact s.dy p q
  ·rw [List.mem_singleton] at q;subst q;exact hD
 ·rw [List.getD_eq_getElem?_getD,List.getElem?_append,s.len]
  by_cases q:k < i
  ·rw [if_pos q,← List.getD_eq_getElem?_getD];exact s.ld k q
  ·rw [if_neg q,show k - i=0 by omega,show k=i by omega];rfl
 ·rw [← s.tot,XL (z:=0) hi,ze e1]
theorem Rst.done (s:Rst ns reach days limit to_ loads os0 h day i) (hi:i=loads.length):scE (Wa days limit [] os0 loads)=(h.map (·.d),0):=by
 rw [← s.tot,hi,List.drop_length,y0];rfl
end
section
variable {kn:Kn} {lo:Nat} {H:Hp}
set_option maxRecDepth 100000 in
set_option maxHeartbeats 4000000 in
theorem zM {loads:List Int} {la:Option Addr} {n lcap:Nat} (hs:Sl H la n lcap (cI loads)) (hl:loads.length=n) (hn:n≤1000000) {ns:List Ns} {na:Option Addr} {nn ncap:Nat} (hsn:Sl H na nn ncap (nsc ns)) (hln:ns.length=nn) (hnn:nn≤1000000) {reach days limit frm to_:Int} (h35:kn.b 35=none) (hlo:lo≤H.next):∃ v H',FnX Try.prog kn lo 22 [.slice la n lcap,.slice na nn ncap,iv reach,iv days,iv limit,iv frm,iv to_] H (.tuple #[v,iv (seT loads ns reach days limit frm to_).2]) H'∧Acc lo H.next 3 H' v (seT loads ns reach days limit frm to_).1.length (cI (seT loads ns reach days limit frm to_).1)∧Zj H H' []:=by
 have key:=Zp (kn:=kn) (lo:=lo) (H:=H) (args:=[.slice la n lcap,.slice na nn ncap,iv reach,iv days,iv limit,iv frm,iv to_]) (Q:=fun w H'=>∃ v,w=.tuple #[v,iv (seT loads ns reach days limit frm to_).2]∧Acc lo H.next 3 H' v (seT loads ns reach days limit frm to_).1.length (cI (seT loads ns reach days limit frm to_).1)∧Zj H H' []) Try.func22 B22 N22 Z22 L22 (by simp) ?_
 ·obtain ⟨w,H',h,v,rfl,q⟩:=key;exact ⟨v,H',h,q⟩
 have hk:=Zj.refl H []
 have fs:=hs.old
 have fn:=hsn.old
 refine Zc<|Za rfl<|Za rfl<|Zb<|Zc<|Za rfl<|Ys (m:=n) rfl<|Xh (a:=(n:Int)) (b:=64) rfl rfl<|Zb ?_
 refine And.intro (fun q1=>?_) (fun q1=>?_)
 ·have q1:(n:Int) > 64:=of_decide_eq_true q1
  refine Zc<|Za rfl<|Za rfl<|Zb ?_
  exact And.intro trivial (Exists.intro _ (And.intro rfl ⟨_,by rw [Zcu (by omega)];rfl,by rw [Zcu (by omega)];exact .inl ⟨rfl,rfl,rfl⟩,hk⟩))
 ·have q1:¬ ((n:Int) > 64):=of_decide_eq_false q1
  first | refine Zn ?_ | skip
  refine Zc<|Za rfl<|Zx rfl (ZdZ hsn hln hnn (by omega)) ?_
  intro tH1 H1 hH1 kH1
  have mH1:=kH1.1
  have hk:=hk.trans kH1
  have hs:=kH1.sl0 hs
  have hsn:=kH1.sl0 hsn
  cases tH1
  ·have hvn:vN ns=false:=hH1
   refine Zd (v:=.bool true) rfl rfl<|Zb<|Ya<|Zc<|Za rfl<|Za rfl<|Zb ?_
   exact And.intro trivial (Exists.intro _ (And.intro rfl ⟨_,by rw [Zct (by omega) hvn];rfl,by rw [Zct (by omega) hvn];exact .inl ⟨rfl,rfl,rfl⟩,hk⟩))
  ·have hvn:vN ns=true:=hH1
   obtain ⟨hl32,hanyN⟩:=ZeN hvn
   refine Zd (v:=.bool false) rfl rfl<|Zb<|Z2 ?_
   first | refine Zn ?_ | skip
   refine Zc<|Za rfl<|Zx rfl (qZ hs hl hn (m:=72057594037927936) (by omega)) ?_
   intro tH2 H2 hH2 kH2
   have mH2:=kH2.1
   have hk:=hk.trans kH2
   have hs:=kH2.sl0 hs
   have hsn:=kH2.sl0 hsn
   cases tH2
   ·have hvi:loads.any (Wj 72057594037927936)=true:=by simpa using hH2
    refine Zd (v:=.bool true) rfl rfl<|Za rfl<|Zg rfl<|Zg rfl<|Zg rfl<|Zd (v:=.bool true) rfl rfl<|Za rfl<|Zg rfl<|Zg rfl<|Zg rfl<|Zd (v:=.bool true) rfl rfl<|Zb<|Ya<|Zc<|Za rfl<|Za rfl<|Zb ?_
    exact And.intro trivial (Exists.intro _ (And.intro rfl ⟨_,by rw [W4 (by omega) hvn (by first | exact .inl (by assumption) | exact .inr (.inl (by assumption)) | exact .inr (.inr (.inl (by assumption))) | exact .inr (.inr (.inr (.inl (by assumption)))) | exact .inr (.inr (.inr (.inr (.inl (by assumption))))) | exact .inr (.inr (.inr (.inr (.inr (by assumption))))))];rfl,by rw [W4 (by omega) hvn (by first | exact .inl (by assumption) | exact .inr (.inl (by assumption)) | exact .inr (.inr (.inl (by assumption))) | exact .inr (.inr (.inr (.inl (by assumption)))) | exact .inr (.inr (.inr (.inr (.inl (by assumption))))) | exact .inr (.inr (.inr (.inr (.inr (by assumption))))))];exact .inl ⟨rfl,rfl,rfl⟩,hk⟩))
   ·have hvi:loads.any (Wj 72057594037927936)=false:=by simpa using hH2
    refine Zd (v:=.bool false) rfl rfl<|Za rfl ?_
    refine Zl rfl (Za rfl ?_)
    refine Zl rfl (Zx rfl (XB) ?_)
    intro tH3 H3 hH3 kH3
    have mH3:=kH3.1
    have hk:=hk.trans kH3
    have hs:=kH3.sl0 hs
    have hsn:=kH3.sl0 hsn
    cases tH3
    ·have thH3:inB limit 0 72057594037927936=false:=hH3
     have uhH3:=Wu thH3
     refine Zl rfl (Zd (v:=.bool true) rfl rfl ?_)
     refine Zd (v:=.bool true) rfl rfl<|Za rfl<|Zg rfl<|Zg rfl<|Zg rfl<|Zd (v:=.bool true) rfl rfl<|Zb<|Ya<|Zc<|Za rfl<|Za rfl<|Zb ?_
     exact And.intro trivial (Exists.intro _ (And.intro rfl ⟨_,by rw [W4 (by omega) hvn (by first | exact .inl (by assumption) | exact .inr (.inl (by assumption)) | exact .inr (.inr (.inl (by assumption))) | exact .inr (.inr (.inr (.inl (by assumption)))) | exact .inr (.inr (.inr (.inr (.inl (by assumption))))) | exact .inr (.inr (.inr (.inr (.inr (by assumption))))))];rfl,by rw [W4 (by omega) hvn (by first | exact .inl (by assumption) | exact .inr (.inl (by assumption)) | exact .inr (.inr (.inl (by assumption))) | exact .inr (.inr (.inr (.inl (by assumption)))) | exact .inr (.inr (.inr (.inr (.inl (by assumption))))) | exact .inr (.inr (.inr (.inr (.inr (by assumption))))))];exact .inl ⟨rfl,rfl,rfl⟩,hk⟩))
    ·have thH3:inB limit 0 72057594037927936=true:=hH3
     have uhH3:=XH thH3
     refine Zl rfl (Zd (v:=.bool false) rfl rfl ?_)
     refine Zd (v:=.bool false) rfl rfl<|Za rfl ?_
     refine Zl rfl (Za rfl ?_)
     refine Zl rfl (Zx rfl (XB) ?_)
     intro tH4 H4 hH4 kH4
     have mH4:=kH4.1
     have hk:=hk.trans kH4
     have hs:=kH4.sl0 hs
     have hsn:=kH4.sl0 hsn
     cases tH4
     ·have thH4:inB reach 0 63=false:=hH4
      have uhH4:=Wu thH4
      refine Zl rfl (Zd (v:=.bool true) rfl rfl ?_)
      refine Zd (v:=.bool true) rfl rfl<|Zb<|Ya<|Zc<|Za rfl<|Za rfl<|Zb ?_
      exact And.intro trivial (Exists.intro _ (And.intro rfl ⟨_,by rw [W4 (by omega) hvn (by first | exact .inl (by assumption) | exact .inr (.inl (by assumption)) | exact .inr (.inr (.inl (by assumption))) | exact .inr (.inr (.inr (.inl (by assumption)))) | exact .inr (.inr (.inr (.inr (.inl (by assumption))))) | exact .inr (.inr (.inr (.inr (.inr (by assumption))))))];rfl,by rw [W4 (by omega) hvn (by first | exact .inl (by assumption) | exact .inr (.inl (by assumption)) | exact .inr (.inr (.inl (by assumption))) | exact .inr (.inr (.inr (.inl (by assumption)))) | exact .inr (.inr (.inr (.inr (.inl (by assumption))))) | exact .inr (.inr (.inr (.inr (.inr (by assumption))))))];exact .inl ⟨rfl,rfl,rfl⟩,hk⟩))
     ·have thH4:inB reach 0 63=true:=hH4
      have uhH4:=XH thH4
      refine Zl rfl (Zd (v:=.bool false) rfl rfl ?_)
      refine Zd (v:=.bool false) rfl rfl<|Zb<|Z2 ?_
      first | refine Zn ?_ | skip
      refine Zc<|Za rfl<|Zx rfl (KU) ?_
      intro tH5 H5 hH5 kH5
      have mH5:=kH5.1
      have hk:=hk.trans kH5
      have hs:=kH5.sl0 hs
      have hsn:=kH5.sl0 hsn
      cases tH5
      ·have thH5:inB days 1 366=false:=hH5
       have uhH5:=Wu thH5
       refine Zd (v:=.bool true) rfl rfl<|Za rfl<|Zg rfl<|Zg rfl<|Zg rfl<|Zd (v:=.bool true) rfl rfl<|Za rfl<|Zg rfl<|Zg rfl<|Zg rfl<|Zd (v:=.bool true) rfl rfl<|Zb<|Ya<|Zc<|Za rfl<|Za rfl<|Zb ?_
       exact And.intro trivial (Exists.intro _ (And.intro rfl ⟨_,by rw [W4 (by omega) hvn (by first | exact .inl (by assumption) | exact .inr (.inl (by assumption)) | exact .inr (.inr (.inl (by assumption))) | exact .inr (.inr (.inr (.inl (by assumption)))) | exact .inr (.inr (.inr (.inr (.inl (by assumption))))) | exact .inr (.inr (.inr (.inr (.inr (by assumption))))))];rfl,by rw [W4 (by omega) hvn (by first | exact .inl (by assumption) | exact .inr (.inl (by assumption)) | exact .inr (.inr (.inl (by assumption))) | exact .inr (.inr (.inr (.inl (by assumption)))) | exact .inr (.inr (.inr (.inr (.inl (by assumption))))) | exact .inr (.inr (.inr (.inr (.inr (by assumption))))))];exact .inl ⟨rfl,rfl,rfl⟩,hk⟩))
      ·have thH5:inB days 1 366=true:=hH5
       have uhH5:=XH thH5
       refine Zd (v:=.bool false) rfl rfl<|Za rfl ?_
       refine Zl rfl (Za rfl ?_)
       refine Zl rfl (Zx rfl (XB) ?_)
       intro tH6 H6 hH6 kH6
       have mH6:=kH6.1
       have hk:=hk.trans kH6
       have hs:=kH6.sl0 hs
       have hsn:=kH6.sl0 hsn
       cases tH6
       ·have thH6:inB frm 0 16384=false:=hH6
        have uhH6:=Wu thH6
        refine Zl rfl (Zd (v:=.bool true) rfl rfl ?_)
        refine Zd (v:=.bool true) rfl rfl<|Za rfl<|Zg rfl<|Zg rfl<|Zg rfl<|Zd (v:=.bool true) rfl rfl<|Zb<|Ya<|Zc<|Za rfl<|Za rfl<|Zb ?_
        exact And.intro trivial (Exists.intro _ (And.intro rfl ⟨_,by rw [W4 (by omega) hvn (by first | exact .inl (by assumption) | exact .inr (.inl (by assumption)) | exact .inr (.inr (.inl (by assumption))) | exact .inr (.inr (.inr (.inl (by assumption)))) | exact .inr (.inr (.inr (.inr (.inl (by assumption))))) | exact .inr (.inr (.inr (.inr (.inr (by assumption))))))];rfl,by rw [W4 (by omega) hvn (by first | exact .inl (by assumption) | exact .inr (.inl (by assumption)) | exact .inr (.inr (.inl (by assumption))) | exact .inr (.inr (.inr (.inl (by assumption)))) | exact .inr (.inr (.inr (.inr (.inl (by assumption))))) | exact .inr (.inr (.inr (.inr (.inr (by assumption))))))];exact .inl ⟨rfl,rfl,rfl⟩,hk⟩))
       ·have thH6:inB frm 0 16384=true:=hH6
        have uhH6:=XH thH6
        refine Zl rfl (Zd (v:=.bool false) rfl rfl ?_)
        refine Zd (v:=.bool false) rfl rfl<|Za rfl ?_
        refine Zl rfl (Za rfl ?_)
        refine Zl rfl (Zx rfl (XB) ?_)
        intro tH7 H7 hH7 kH7
        have mH7:=kH7.1
        have hk:=hk.trans kH7
        have hs:=kH7.sl0 hs
        have hsn:=kH7.sl0 hsn
        cases tH7
        ·have thH7:inB to_ 0 16384=false:=hH7
         have uhH7:=Wu thH7
         refine Zl rfl (Zd (v:=.bool true) rfl rfl ?_)
         refine Zd (v:=.bool true) rfl rfl<|Zb<|Ya<|Zc<|Za rfl<|Za rfl<|Zb ?_
         exact And.intro trivial (Exists.intro _ (And.intro rfl ⟨_,by rw [W4 (by omega) hvn (by first | exact .inl (by assumption) | exact .inr (.inl (by assumption)) | exact .inr (.inr (.inl (by assumption))) | exact .inr (.inr (.inr (.inl (by assumption)))) | exact .inr (.inr (.inr (.inr (.inl (by assumption))))) | exact .inr (.inr (.inr (.inr (.inr (by assumption))))))];rfl,by rw [W4 (by omega) hvn (by first | exact .inl (by assumption) | exact .inr (.inl (by assumption)) | exact .inr (.inr (.inl (by assumption))) | exact .inr (.inr (.inr (.inl (by assumption)))) | exact .inr (.inr (.inr (.inr (.inl (by assumption))))) | exact .inr (.inr (.inr (.inr (.inr (by assumption))))))];exact .inl ⟨rfl,rfl,rfl⟩,hk⟩))
        ·have thH7:inB to_ 0 16384=true:=hH7
         have uhH7:=XH thH7
         refine Zl rfl (Zd (v:=.bool false) rfl rfl ?_)
         refine Zd (v:=.bool false) rfl rfl<|Zb<|Z2 ?_
         first | refine Zn ?_ | skip
         refine Zc<|Za rfl<|Za rfl<|Za rfl<|Za rfl<|Za rfl ?_
         obtain ⟨vo,H8,fH8,haccO,kH8⟩:=z5 (kn:=kn) (lo:=lo) (H:=H7) (reach:=reach) (frm:=frm) (to_:=to_) hsn hln (by omega) hanyN (by omega) (by omega) (by omega)
         obtain ⟨oa,oc,rfl,hqo⟩:=Qu.of_acc haccO;have hqo:=hqo.mono (Nat.zero_le _);rw [Ko] at hqo
         refine Zh (vs:=[.slice na nn ncap,iv reach,iv frm,iv to_]) rfl (Zf fH8) ?_
         have mH8:=kH8.1
         have hk:=hk.trans kH8
         have hs:=kH8.sl0 hs
         have hsn:=kH8.sl0 hsn
         have hol:(op ns reach frm (to_+1 - frm).toNat).length≤16385:=by rw [← Ko];exact Nat.le_trans KM (by omega)
         rw [Ko]
         refine Za rfl<|Za rfl ?_
         obtain ⟨ve,pl,ee,H9,fH9,hse0,hacc,kH9⟩:=zg (kn:=kn) (lo:=lo) (H:=H8) hs hl (by omega) hqo rfl (by omega) (fun D hD=>by have:=qj hD;omega) ZaP (fun l hl2=>by have:=Qr hvi l hl2;simp only [Wj,Bool.not_eq_false'] at this;exact XH this) (days:=days) (limit:=limit) (by omega) (by omega) (by omega)
         refine Zh (vs:=[.slice la n lcap,.slice oa ((op ns reach frm (to_+1 - frm).toNat).length) oc,iv days,iv limit]) rfl (Zf fH9) ?_
         have mH9:=kH9.1
         have hk:=hk.trans kH9
         have hs:=kH9.sl0 hs
         have hsn:=kH9.sl0 hsn
         have hqo:=hqo.keep kH9 (fun x hx=>by simp)
         have hse:seT loads ns reach days limit frm to_=(pl,ee):=(Zeo (by omega) hvn hvi (by assumption) (by assumption) (by assumption) (by assumption) (by assumption)).trans hse0
         have hacc:=hacc.lowf (f':=H.next) (by omega)
         refine Zd (v:=ve) rfl (by kernel_rfl)<|Zd (v:=iv ee) rfl (by kernel_rfl)<|Za rfl<|Za rfl<|Zb ?_
         exact And.intro trivial (Exists.intro _ (And.intro rfl ⟨_,by rw [hse];rfl,by rw [hse];exact hacc,hk⟩))
set_option maxRecDepth 100000 in
theorem jd {xs:List Int} {a1 a2:Option Addr} {n c1 c2:Nat} (ha:Sl H a1 n c1 (cI xs)) (hb:Sl H a2 n c2 (cI xs)) (hl:xs.length=n) (hn:n≤1000000) (hlo:lo≤H.next):∃ H',FnX Try.prog kn lo 24 [.slice a1 n c1,.slice a2 n c2] H (.bool true) H'∧Zj H H' []:=by
 have key:=Zp (kn:=kn) (lo:=lo) (H:=H) (args:=[.slice a1 n c1,.slice a2 n c2]) (Q:=fun w H'=>w=(.bool true)∧Zj H H' []) Try.func24 B24 N24 Z24 L24 (by simp) ?_
 ·obtain ⟨w,H',h,rfl,q⟩:=key;exact ⟨H',h,q⟩
 have hk:=Zj.refl H []
 have fa:=ha.old
 have fb:=hb.old
 refine Zc<|Za rfl<|Zb<|Zc<|Za rfl<|Ys (m:=n) rfl<|Za rfl<|Ys (m:=n) rfl<|Vk (a:=(n:Int)) (b:=(n:Int)) rfl rfl<|Zb ?_
 refine And.intro (fun q1=>?_) (fun q1=>?_)
 ·have q1:(n:Int)≠(n:Int):=by simpa using q1
  omega
 ·have q1:¬ ((n:Int)≠(n:Int)):=by simpa using q1
  first | refine Zn ?_ | skip
  refine Zc<|Za rfl<|Zb ?_
  refine Zy (fn:=Try.f24) Zdz N24 Zdj (fun i:Nat=>[(0,.slice a1 n c1),(1,.slice a2 n c2),(5,iv (i:Int))])
   (fun k i H'=>i+k=n∧Zj H H' []∧Sl H' a1 n c1 (cI xs)∧Sl H' a2 n c2 (cI xs)) n 0 ⟨by omega,hk,ha,hb⟩ ⟨rfl,rfl,rfl,trivial⟩ ?_
  rintro k i L1 ⟨hik,hk,ha,hb⟩
  have mk:=hk.1
  refine Zc<|Za rfl<|Za rfl<|Ys (m:=n) rfl<|ZF (a:=(i:Int)) (b:=(n:Int)) rfl rfl<|Zb ?_
  refine And.intro (fun q2=>?_) (fun q2=>?_)
  ·have q2:(i:Int) < (n:Int):=of_decide_eq_true q2
   have hi:i < n:=by omega
   rcases id ha with ⟨_,h0s,_⟩ | ⟨sb,es,rs,_⟩
   ·omega
   have ls:=rs.1
   rcases id hb with ⟨_,h0t,_⟩ | ⟨tb,et,rt,_⟩
   ·omega
   have lt:=rt.1
   have lsb2:=fa sb es;have ltb2:=fb tb et
   first | refine Zn ?_ | skip
   refine YI<|Zi rfl<|Zi rfl<|Yg (b:=sb) (o:=0) (k:=i) (j:=(i:Int)) (by rw [← es];rfl) rfl rfl hi<|YS (b:=sb) (o:=0+i * 1) (v:=iv (xs.getD i 0)) rfl rs (zZ (by omega))<|Zi rfl<|Zi rfl<|Yg (b:=tb) (o:=0) (k:=i) (j:=(i:Int)) (by rw [← et];rfl) rfl rfl hi<|YS (b:=tb) (o:=0+i * 1) (v:=iv (xs.getD i 0)) rfl rt (zZ (by omega))<|ZaD (a:=(xs.getD i 0)) (b:=(xs.getD i 0)) rfl rfl ?_
   refine Z5 (by repeat' first | exact True.intro | exact (fun h=>h) | refine And.intro ?_ ?_ | (intro h;have h:(_:Nat)=_:=h;omega)) ?_
   refine And.intro (fun q3=>?_) (fun q3=>?_)
   ·have q3:(xs.getD i 0)≠(xs.getD i 0):=by simpa using q3
    omega
   ·have q3:¬ ((xs.getD i 0)≠(xs.getD i 0)):=by simpa using q3
    first | refine Zn ?_ | skip
    show Zo _ _ _ _ _ _ _ _
    refine Za rfl<|Zu (a:=(i:Int)) (b:=1) rfl rfl ⟨by omega,by omega⟩<|Za rfl<|Zb ?_
    exact ⟨k - 1,i+1,by omega,⟨by omega,hk,ha,hb⟩,rfl,rfl,ivq (by omega),trivial⟩
  ·have q2:¬ ((i:Int) < (n:Int)):=of_decide_eq_false q2
   first | (refine ZG ?_;show wC _ _ _ _ _ _ _ _ _) | skip
   refine Zc<|Za rfl<|Zb ?_
   exact And.intro trivial (Exists.intro _ (And.intro rfl ⟨rfl,hk⟩))
end
end
end Go.Ax

/-
 Pool: the examples of the document (written by program).
-/
namespace Go.Ax
open Go Go.RowKit Go.Proofs

noncomputable section
def smp:List Dc:=[⟨10,1000,1200,50,60⟩,⟨12,500,500,100,100⟩,⟨15,2000,2000,30,40⟩]
theorem ZcJ:paT smp 6 150000=(15,15,0):=by kernel_rfl
theorem Zdf:alT smp 6 250000 13=(48000,0):=by kernel_rfl
theorem Zda:mxT ⟨1000,2000,10000,11000⟩ ⟨500,500,20000,20000⟩=((12000,14000),0):=by kernel_rfl
theorem ZcC:moT ⟨1000,2000,10000,11000⟩ 20000 20000 13000=(285,0):=by kernel_rfl
theorem ZcV:seT [60,60,60] [⟨4,8,9⟩] 4 3 100 5 20=([5,10,13],0):=by kernel_rfl
theorem ZcN:baT ⟨1000,1100,500,500,200,300,40,50,10,12⟩=((600,1000),(400,600),0):=by kernel_rfl
section
variable {kn:Kn} {lo:Nat} {H:Hp}
set_option maxRecDepth 100000 in
theorem Yi {a b:Int} (hlo:lo≤H.next):∃ H',FnX Try.prog kn lo 31 [iv a,iv b] H (.agg #[iv a,iv b]) H'∧Zj H H' []:=by
 have key:=Zp (kn:=kn) (lo:=lo) (H:=H) (args:=[iv a,iv b]) (Q:=fun w H'=>w=(.agg #[iv a,iv b])∧Zj H H' []) Try.func31 B31 N31 Z31 L31 (by simp) ?_
 ·obtain ⟨w,H',h,rfl,q⟩:=key;exact ⟨H',h,q⟩
 have hk:=Zj.refl H []
 refine Zc<|Yt ?_
 intro H1 kH1 nH1 c1
 have c1:Cl H1 H.next [iv 0,iv 0]:=c1
 have mH1:=kH1.1
 have hk:=hk.trans kH1
 refine Zb<|Zc<|Za rfl<|Za rfl<|Zd (v:=.agg #[iv a,iv b]) rfl (by kernel_rfl)<|Z4 (b:=H.next) (o:=0) rfl rfl c1 (by omega) rfl rfl (by simp) ?_
 intro H2 kH2 nH2 sH2
 have mH2:=kH2.1
 have hk:=hk.new kH2 (fun b hb=>by simp at hb ⊢;omega)
 have c1:Cl H2 H.next [iv a,iv b]:=sH2
 refine Zb ?_
 exact And.intro trivial (Exists.intro _ (And.intro (QH rfl a31 QA rfl c1) ⟨rfl,hk⟩))
theorem J1 (hlo:lo≤H.next):∃ b H',FnX Try.prog kn lo 30 [] H (.slice (some ⟨b,0,none⟩) 3 3) H'∧Zj H H' []∧H.next≤b∧Rd H' b (dcc smp):=by
 have key:=Zp (kn:=kn) (lo:=lo) (H:=H) (args:=[]) (Q:=fun w H'=>∃ b,w=.slice (some ⟨b,0,none⟩) 3 3∧Zj H H' []∧H.next≤b∧Rd H' b (dcc smp)) Try.func30 B30 N30 Z30 L30 (by simp) ?_
 ·obtain ⟨w,H',h,b,rfl,q⟩:=key;exact ⟨b,H',h,q⟩
 have hk:=Zj.refl H []
 refine Zc<|Za rfl<|Zb<|Zc ?_
 obtain ⟨H1,fH1,kH1⟩:=Yi (kn:=kn) (lo:=lo) (H:=H) (a:=1000) (b:=1200) (by omega)
 refine Zh (vs:=[iv 1000,iv 1200]) rfl (Zf fH1) ?_
 have mH1:=kH1.1
 have hk:=hk.trans kH1
 obtain ⟨H2,fH2,kH2⟩:=Yi (kn:=kn) (lo:=lo) (H:=H1) (a:=50) (b:=60) (by omega)
 refine Zh (vs:=[iv 50,iv 60]) rfl (Zf fH2) ?_
 have mH2:=kH2.1
 have hk:=hk.trans kH2
 refine Zd (v:=.agg #[iv 10,iv 1000,iv 1200,iv 50,iv 60]) rfl (by kernel_rfl) ?_
 obtain ⟨H3,fH3,kH3⟩:=Yi (kn:=kn) (lo:=lo) (H:=H2) (a:=500) (b:=500) (by omega)
 refine Zh (vs:=[iv 500,iv 500]) rfl (Zf fH3) ?_
 have mH3:=kH3.1
 have hk:=hk.trans kH3
 obtain ⟨H4,fH4,kH4⟩:=Yi (kn:=kn) (lo:=lo) (H:=H3) (a:=100) (b:=100) (by omega)
 refine Zh (vs:=[iv 100,iv 100]) rfl (Zf fH4) ?_
 have mH4:=kH4.1
 have hk:=hk.trans kH4
 refine Zd (v:=.agg #[iv 12,iv 500,iv 500,iv 100,iv 100]) rfl (by kernel_rfl) ?_
 obtain ⟨H5,fH5,kH5⟩:=Yi (kn:=kn) (lo:=lo) (H:=H4) (a:=2000) (b:=2000) (by omega)
 refine Zh (vs:=[iv 2000,iv 2000]) rfl (Zf fH5) ?_
 have mH5:=kH5.1
 have hk:=hk.trans kH5
 obtain ⟨H6,fH6,kH6⟩:=Yi (kn:=kn) (lo:=lo) (H:=H5) (a:=30) (b:=40) (by omega)
 refine Zh (vs:=[iv 30,iv 40]) rfl (Zf fH6) ?_
 have mH6:=kH6.1
 have hk:=hk.trans kH6
 refine Zd (v:=.agg #[iv 15,iv 2000,iv 2000,iv 30,iv 40]) rfl (by kernel_rfl) ?_
 obtain ⟨H7,hH7⟩:∃ H7,H6.new (.cells [iv 10,iv 1000,iv 1200,iv 50,iv 60,iv 12,iv 500,iv 500,iv 100,iv 100,iv 15,iv 2000,iv 2000,iv 30,iv 40] 52 false)=H7:=⟨_,rfl⟩
 refine Yx (H':=H7) (k:=.heavy) rfl (by kernel_rfl) ((jN (a:=⟨10,1000,1200,50,60⟩) (b:=⟨12,500,500,100,100⟩) (c:=⟨15,2000,2000,30,40⟩) rfl rfl rfl).trans (by first | (rw [← hH7];done) | (rw [← hH7];rfl))) (fun b e=>by cases e) ?_
 obtain ⟨kH7,nH7,c7⟩:=Yc hH7;clear hH7
 have c7:Cl H7 H6.next [iv 10,iv 1000,iv 1200,iv 50,iv 60,iv 12,iv 500,iv 500,iv 100,iv 100,iv 15,iv 2000,iv 2000,iv 30,iv 40]:=c7
 have mH7:=kH7.1
 have hk:=hk.trans kH7
 refine Za rfl<|Zb ?_
 exact And.intro trivial (Exists.intro _ (And.intro rfl ⟨H6.next,rfl,hk,by omega,c7.rd⟩))
set_option maxHeartbeats 4000000 in
set_option maxRecDepth 100000 in
theorem YC (hkn:∀ f,kn.b f=none) (hlo:lo≤H.next):∃ H',FnX Try.prog kn lo 11 [] H (.bool true) H'∧Zj H H' []:=by
 have key:=Zp (kn:=kn) (lo:=lo) (H:=H) (args:=[]) (Q:=fun w H'=>w=(.bool true)∧Zj H H' []) Try.func11 B11 N11 Z11 L11 (by simp) ?_
 ·obtain ⟨w,H',h,rfl,q⟩:=key;exact ⟨H',h,q⟩
 have hk:=Zj.refl H []
 refine Zc<|Za rfl<|Zb<|Zc ?_
 obtain ⟨bz2,H1,fH1,kH1,hbz2,rdz2⟩:=J1 (kn:=kn) (lo:=lo) (H:=H) (by omega)
 refine Zh (vs:=[]) rfl (ZE (hkn 30) fH1) ?_
 have mH1:=kH1.1
 have hk:=hk.trans kH1
 have slz2:Sl H1 (some ⟨bz2,0,none⟩) 3 3 (dcc smp):=.inr ⟨bz2,rfl,rdz2,Nat.le_refl _⟩;have fsz2:=slz2.old
 obtain ⟨H3,fH3,kH3⟩:=js (kn:=kn) (lo:=lo) (H:=H1) slz2 rfl (by omega) (by omega) (hkn 35) (days:=6) (limit:=150000)
 rw [ZcJ] at fH3
 refine Zh (vs:=[.slice (some ⟨bz2,0,none⟩) 3 3,iv 6,iv 150000]) rfl (Zf fH3) ?_
 have mH3:=kH3.1
 have hk:=hk.trans kH3
 have slz2:=kH3.sl0 slz2
 refine Za rfl<|Zd (v:=iv 15) rfl (by kernel_rfl)<|Zd (v:=iv 15) rfl (by kernel_rfl)<|Zd (v:=iv 0) rfl (by kernel_rfl)<|Za rfl<|Za rfl<|Za rfl<|Zb<|Zc ?_
 obtain ⟨bz5,H4,fH4,kH4,hbz5,rdz5⟩:=J1 (kn:=kn) (lo:=lo) (H:=H3) (by omega)
 refine Zh (vs:=[]) rfl (ZE (hkn 30) fH4) ?_
 have mH4:=kH4.1
 have hk:=hk.trans kH4
 have slz2:=kH4.sl0 slz2
 have slz5:Sl H4 (some ⟨bz5,0,none⟩) 3 3 (dcc smp):=.inr ⟨bz5,rfl,rdz5,Nat.le_refl _⟩;have fsz5:=slz5.old
 obtain ⟨H6,fH6,kH6⟩:=ZaE (kn:=kn) (lo:=lo) (H:=H4) slz5 rfl (by omega) (by omega) (hkn 35) (days:=6) (limit:=250000) (day:=13)
 rw [Zdf] at fH6
 refine Zh (vs:=[.slice (some ⟨bz5,0,none⟩) 3 3,iv 6,iv 250000,iv 13]) rfl (Zf fH6) ?_
 have mH6:=kH6.1
 have hk:=hk.trans kH6
 have slz2:=kH6.sl0 slz2
 have slz5:=kH6.sl0 slz5
 refine Za rfl<|Zd (v:=iv 48000) rfl (by kernel_rfl)<|Zd (v:=iv 0) rfl (by kernel_rfl)<|Za rfl<|Za rfl<|Zb<|Zc ?_
 obtain ⟨H7,fH7,kH7⟩:=Yi (kn:=kn) (lo:=lo) (H:=H6) (a:=1000) (b:=2000) (by omega)
 refine Zh (vs:=[iv 1000,iv 2000]) rfl (Zf fH7) ?_
 have mH7:=kH7.1
 have hk:=hk.trans kH7
 have slz2:=kH7.sl0 slz2
 have slz5:=kH7.sl0 slz5
 obtain ⟨H8,fH8,kH8⟩:=Yi (kn:=kn) (lo:=lo) (H:=H7) (a:=10000) (b:=11000) (by omega)
 refine Zh (vs:=[iv 10000,iv 11000]) rfl (Zf fH8) ?_
 have mH8:=kH8.1
 have hk:=hk.trans kH8
 have slz2:=kH8.sl0 slz2
 have slz5:=kH8.sl0 slz5
 refine Zd (v:=.agg #[iv 1000,iv 2000,iv 10000,iv 11000]) rfl (by kernel_rfl) ?_
 obtain ⟨H9,fH9,kH9⟩:=Yi (kn:=kn) (lo:=lo) (H:=H8) (a:=500) (b:=500) (by omega)
 refine Zh (vs:=[iv 500,iv 500]) rfl (Zf fH9) ?_
 have mH9:=kH9.1
 have hk:=hk.trans kH9
 have slz2:=kH9.sl0 slz2
 have slz5:=kH9.sl0 slz5
 obtain ⟨H10,fH10,kH10⟩:=Yi (kn:=kn) (lo:=lo) (H:=H9) (a:=20000) (b:=20000) (by omega)
 refine Zh (vs:=[iv 20000,iv 20000]) rfl (Zf fH10) ?_
 have mH10:=kH10.1
 have hk:=hk.trans kH10
 have slz2:=kH10.sl0 slz2
 have slz5:=kH10.sl0 slz5
 refine Zd (v:=.agg #[iv 500,iv 500,iv 20000,iv 20000]) rfl (by kernel_rfl) ?_
 obtain ⟨H11,fH11,kH11⟩:=Zak (kn:=kn) (lo:=lo) (H:=H10) (hkn 35) (a:=(⟨1000,2000,10000,11000⟩:Fw)) (b:=(⟨500,500,20000,20000⟩:Fw)) (by omega)
 rw [Zda] at fH11
 refine Zh (vs:=[.agg (Fw.f (⟨1000,2000,10000,11000⟩:Fw)).toArray,.agg (Fw.f (⟨500,500,20000,20000⟩:Fw)).toArray]) rfl (Zf fH11) ?_
 have mH11:=kH11.1
 have hk:=hk.trans kH11
 have slz2:=kH11.sl0 slz2
 have slz5:=kH11.sl0 slz5
 refine Za rfl<|Zd (v:=.agg #[iv 12000,iv 14000]) rfl (by kernel_rfl)<|Zd (v:=iv 0) rfl (by kernel_rfl)<|Yt ?_
 intro H12 kH12 nH12 c12
 have c12:Cl H12 H11.next [iv 0,iv 0]:=c12
 have mH12:=kH12.1
 have hk:=hk.trans kH12
 have slz2:=kH12.sl0 slz2
 have slz5:=kH12.sl0 slz5
 refine Z4 (b:=H11.next) (o:=0) rfl rfl c12 (by omega) rfl rfl (by simp) ?_
 intro H13 kH13 nH13 sH13
 have mH13:=kH13.1
 have hk:=hk.new kH13 (fun b hb=>by simp at hb ⊢;omega)
 have slz2:=kH13.sl slz2 (fun b e=>by have:=fsz2 b e;first | (simp;done) | (simp;omega))
 have slz5:=kH13.sl slz5 (fun b e=>by have:=fsz5 b e;first | (simp;done) | (simp;omega))
 have c12:Cl H13 H11.next [iv 12000,iv 14000]:=sH13
 refine Za rfl<|Zb<|Zc ?_
 obtain ⟨H14,fH14,kH14⟩:=Yi (kn:=kn) (lo:=lo) (H:=H13) (a:=1000) (b:=2000) (by omega)
 refine Zh (vs:=[iv 1000,iv 2000]) rfl (Zf fH14) ?_
 have mH14:=kH14.1
 have hk:=hk.trans kH14
 have slz2:=kH14.sl0 slz2
 have slz5:=kH14.sl0 slz5
 have c12:=kH14.cl c12 (by simp)
 obtain ⟨H15,fH15,kH15⟩:=Yi (kn:=kn) (lo:=lo) (H:=H14) (a:=10000) (b:=11000) (by omega)
 refine Zh (vs:=[iv 10000,iv 11000]) rfl (Zf fH15) ?_
 have mH15:=kH15.1
 have hk:=hk.trans kH15
 have slz2:=kH15.sl0 slz2
 have slz5:=kH15.sl0 slz5
 have c12:=kH15.cl c12 (by simp)
 refine Zd (v:=.agg #[iv 1000,iv 2000,iv 10000,iv 11000]) rfl (by kernel_rfl) ?_
 obtain ⟨H16,fH16,kH16⟩:=Yi (kn:=kn) (lo:=lo) (H:=H15) (a:=20000) (b:=20000) (by omega)
 refine Zh (vs:=[iv 20000,iv 20000]) rfl (Zf fH16) ?_
 have mH16:=kH16.1
 have hk:=hk.trans kH16
 have slz2:=kH16.sl0 slz2
 have slz5:=kH16.sl0 slz5
 have c12:=kH16.cl c12 (by simp)
 obtain ⟨H17,fH17,kH17⟩:=KD (kn:=kn) (lo:=lo) (H:=H16) (a:=(⟨1000,2000,10000,11000⟩:Fw)) (l:=20000) (h:=20000) (limit:=13000) (by omega)
 rw [ZcC] at fH17
 refine Zh (vs:=[.agg (Fw.f (⟨1000,2000,10000,11000⟩:Fw)).toArray,.agg #[iv 20000,iv 20000],iv 13000]) rfl (Zf fH17) ?_
 have mH17:=kH17.1
 have hk:=hk.trans kH17
 have slz2:=kH17.sl0 slz2
 have slz5:=kH17.sl0 slz5
 have c12:=kH17.cl c12 (by simp)
 refine Za rfl<|Zd (v:=iv 285) rfl (by kernel_rfl)<|Zd (v:=iv 0) rfl (by kernel_rfl)<|Za rfl<|Za rfl<|Zb<|Zc ?_
 obtain ⟨H18,hH18⟩:∃ H18,H17.new (.cells [iv 60,iv 60,iv 60] 3 false)=H18:=⟨_,rfl⟩
 refine Yx (H':=H18) (k:=.heavy) rfl (by kernel_rfl) ((zI (a:=60) (b:=60) (c:=60) rfl rfl rfl).trans (by first | (rw [← hH18];done) | (rw [← hH18];rfl))) (fun b e=>by cases e) ?_
 obtain ⟨kH18,nH18,c18⟩:=Yc hH18;clear hH18
 have c18:Cl H18 H17.next [iv 60,iv 60,iv 60]:=c18
 have mH18:=kH18.1
 have hk:=hk.trans kH18
 have slz2:=kH18.sl0 slz2
 have slz5:=kH18.sl0 slz5
 have c12:=kH18.cl c12 (by simp)
 refine Zd (v:=.agg #[iv 4,iv 8,iv 9]) rfl (by kernel_rfl) ?_
 obtain ⟨H19,hH19⟩:∃ H19,H18.new (.cells [iv 4,iv 8,iv 9] 68 false)=H19:=⟨_,rfl⟩
 refine Yx (H':=H19) (k:=.heavy) rfl (by kernel_rfl) ((Xu (v:=.agg #[iv 4,iv 8,iv 9]) ZeV ZeU rfl rfl rfl (by decide)).trans (by rw [← hH19];rfl)) (fun b e=>by cases e) ?_
 obtain ⟨kH19,nH19,c19⟩:=Yc hH19;clear hH19
 have c19:Cl H19 H18.next [iv 4,iv 8,iv 9]:=c19
 have mH19:=kH19.1
 have hk:=hk.trans kH19
 have slz2:=kH19.sl0 slz2
 have slz5:=kH19.sl0 slz5
 have c12:=kH19.cl c12 (by simp)
 have c18:=kH19.cl c18 (by simp)
 obtain ⟨vs_,H20,fH20,hacs,kH20⟩:=zM (kn:=kn) (lo:=lo) (H:=H19) (loads:=[60,60,60]) (la:=some ⟨H17.next,0,none⟩) (n:=3) (lcap:=3) (c18.sl (Nat.le_refl 3)) rfl (by omega) (ns:=[⟨4,8,9⟩]) (na:=some ⟨H18.next,0,none⟩) (nn:=1) (ncap:=1) (c19.sl (Nat.le_refl 1)) rfl (by omega) (reach:=4) (days:=3) (limit:=100) (frm:=5) (to_:=20) (hkn 35) (by omega)
 rw [ZcV] at fH20 hacs
 refine Zh (vs:=[.slice (some ⟨H17.next,0,none⟩) 3 3,.slice (some ⟨H18.next,0,none⟩) 1 1,iv 4,iv 3,iv 100,iv 5,iv 20]) rfl (Zf fH20) ?_
 have mH20:=kH20.1
 have hk:=hk.trans kH20
 have slz2:=kH20.sl0 slz2
 have slz5:=kH20.sl0 slz5
 have c12:=kH20.cl c12 (by simp)
 have c18:=kH20.cl c18 (by simp)
 have c19:=kH20.cl c19 (by simp)
 obtain ⟨sa_,sc_,rfl,hsc,_⟩:=hacs.sl;have fsc:=hsc.old
 refine Za rfl<|Zd (v:=.slice sa_ 3 sc_) rfl (by kernel_rfl)<|Zd (v:=iv 0) rfl (by kernel_rfl)<|Za rfl<|Za rfl<|Zb<|Zc ?_
 obtain ⟨H21,fH21,kH21⟩:=Yi (kn:=kn) (lo:=lo) (H:=H20) (a:=1000) (b:=1100) (by omega)
 refine Zh (vs:=[iv 1000,iv 1100]) rfl (Zf fH21) ?_
 have mH21:=kH21.1
 have hk:=hk.trans kH21
 have slz2:=kH21.sl0 slz2
 have slz5:=kH21.sl0 slz5
 have c12:=kH21.cl c12 (by simp)
 have c18:=kH21.cl c18 (by simp)
 have c19:=kH21.cl c19 (by simp)
 have hsc:=kH21.sl0 hsc
 obtain ⟨H22,fH22,kH22⟩:=Yi (kn:=kn) (lo:=lo) (H:=H21) (a:=500) (b:=500) (by omega)
 refine Zh (vs:=[iv 500,iv 500]) rfl (Zf fH22) ?_
 have mH22:=kH22.1
 have hk:=hk.trans kH22
 have slz2:=kH22.sl0 slz2
 have slz5:=kH22.sl0 slz5
 have c12:=kH22.cl c12 (by simp)
 have c18:=kH22.cl c18 (by simp)
 have c19:=kH22.cl c19 (by simp)
 have hsc:=kH22.sl0 hsc
 obtain ⟨H23,fH23,kH23⟩:=Yi (kn:=kn) (lo:=lo) (H:=H22) (a:=200) (b:=300) (by omega)
 refine Zh (vs:=[iv 200,iv 300]) rfl (Zf fH23) ?_
 have mH23:=kH23.1
 have hk:=hk.trans kH23
 have slz2:=kH23.sl0 slz2
 have slz5:=kH23.sl0 slz5
 have c12:=kH23.cl c12 (by simp)
 have c18:=kH23.cl c18 (by simp)
 have c19:=kH23.cl c19 (by simp)
 have hsc:=kH23.sl0 hsc
 obtain ⟨H24,fH24,kH24⟩:=Yi (kn:=kn) (lo:=lo) (H:=H23) (a:=40) (b:=50) (by omega)
 refine Zh (vs:=[iv 40,iv 50]) rfl (Zf fH24) ?_
 have mH24:=kH24.1
 have hk:=hk.trans kH24
 have slz2:=kH24.sl0 slz2
 have slz5:=kH24.sl0 slz5
 have c12:=kH24.cl c12 (by simp)
 have c18:=kH24.cl c18 (by simp)
 have c19:=kH24.cl c19 (by simp)
 have hsc:=kH24.sl0 hsc
 obtain ⟨H25,fH25,kH25⟩:=Yi (kn:=kn) (lo:=lo) (H:=H24) (a:=10) (b:=12) (by omega)
 refine Zh (vs:=[iv 10,iv 12]) rfl (Zf fH25) ?_
 have mH25:=kH25.1
 have hk:=hk.trans kH25
 have slz2:=kH25.sl0 slz2
 have slz5:=kH25.sl0 slz5
 have c12:=kH25.cl c12 (by simp)
 have c18:=kH25.cl c18 (by simp)
 have c19:=kH25.cl c19 (by simp)
 have hsc:=kH25.sl0 hsc
 refine Zd (v:=.agg #[iv 1000,iv 1100,iv 500,iv 500,iv 200,iv 300,iv 40,iv 50,iv 10,iv 12]) rfl (by kernel_rfl) ?_
 obtain ⟨H26,fH26,kH26⟩:=yP (kn:=kn) (lo:=lo) (H:=H25) (hkn 35) (x:=(⟨1000,1100,500,500,200,300,40,50,10,12⟩:Ph)) (by omega)
 rw [ZcN] at fH26
 refine Zh (vs:=[.agg (Ph.f (⟨1000,1100,500,500,200,300,40,50,10,12⟩:Ph)).toArray]) rfl (Zf fH26) ?_
 have mH26:=kH26.1
 have hk:=hk.trans kH26
 have slz2:=kH26.sl0 slz2
 have slz5:=kH26.sl0 slz5
 have c12:=kH26.cl c12 (by simp)
 have c18:=kH26.cl c18 (by simp)
 have c19:=kH26.cl c19 (by simp)
 have hsc:=kH26.sl0 hsc
 refine Za rfl<|Zd (v:=.agg #[iv 600,iv 1000]) rfl (by kernel_rfl)<|Zd (v:=.agg #[iv 400,iv 600]) rfl (by kernel_rfl)<|Zd (v:=iv 0) rfl (by kernel_rfl)<|Yt ?_
 intro H27 kH27 nH27 c27
 have c27:Cl H27 H26.next [iv 0,iv 0]:=c27
 have mH27:=kH27.1
 have hk:=hk.trans kH27
 have slz2:=kH27.sl0 slz2
 have slz5:=kH27.sl0 slz5
 have c12:=kH27.cl c12 (by simp)
 have c18:=kH27.cl c18 (by simp)
 have c19:=kH27.cl c19 (by simp)
 have hsc:=kH27.sl0 hsc
 refine Yt ?_
 intro H28 kH28 nH28 c28
 have c28:Cl H28 H27.next [iv 0,iv 0]:=c28
 have mH28:=kH28.1
 have hk:=hk.trans kH28
 have slz2:=kH28.sl0 slz2
 have slz5:=kH28.sl0 slz5
 have c12:=kH28.cl c12 (by simp)
 have c18:=kH28.cl c18 (by simp)
 have c19:=kH28.cl c19 (by simp)
 have hsc:=kH28.sl0 hsc
 have c27:=kH28.cl c27 (by simp)
 refine Z4 (b:=H26.next) (o:=0) rfl rfl c27 (by omega) rfl rfl (by simp) ?_
 intro H29 kH29 nH29 sH29
 have mH29:=kH29.1
 have hk:=hk.new kH29 (fun b hb=>by simp at hb ⊢;omega)
 have slz2:=kH29.sl slz2 (fun b e=>by have:=fsz2 b e;first | (simp;done) | (simp;omega))
 have slz5:=kH29.sl slz5 (fun b e=>by have:=fsz5 b e;first | (simp;done) | (simp;omega))
 have c12:=kH29.cl c12 (by first | (simp;done) | (simp;omega))
 have c18:=kH29.cl c18 (by first | (simp;done) | (simp;omega))
 have c19:=kH29.cl c19 (by first | (simp;done) | (simp;omega))
 have hsc:=kH29.sl hsc (fun b e=>by have:=fsc b e;first | (simp;done) | (simp;omega))
 have c28:=kH29.cl c28 (by first | (simp;done) | (simp;omega))
 have c27:Cl H29 H26.next [iv 600,iv 1000]:=sH29
 refine Z4 (b:=H27.next) (o:=0) rfl rfl c28 (by omega) rfl rfl (by simp) ?_
 intro H30 kH30 nH30 sH30
 have mH30:=kH30.1
 have hk:=hk.new kH30 (fun b hb=>by simp at hb ⊢;omega)
 have slz2:=kH30.sl slz2 (fun b e=>by have:=fsz2 b e;first | (simp;done) | (simp;omega))
 have slz5:=kH30.sl slz5 (fun b e=>by have:=fsz5 b e;first | (simp;done) | (simp;omega))
 have c12:=kH30.cl c12 (by first | (simp;done) | (simp;omega))
 have c18:=kH30.cl c18 (by first | (simp;done) | (simp;omega))
 have c19:=kH30.cl c19 (by first | (simp;done) | (simp;omega))
 have hsc:=kH30.sl hsc (fun b e=>by have:=fsc b e;first | (simp;done) | (simp;omega))
 have c27:=kH30.cl c27 (by first | (simp;done) | (simp;omega))
 have c28:Cl H30 H27.next [iv 400,iv 600]:=sH30
 refine Za rfl<|Zb<|YI<|Zi rfl<|XZ (a:=15) (b:=15) rfl rfl ?_
 intro t1 g1;obtain rfl:t1=false:=by rw [← g1];rfl
 refine Zi rfl ?_
 refine Yl rfl (Zi rfl ?_)
 refine Yl rfl (XZ (a:=15) (b:=15) rfl rfl ?_)
 intro t2 g2;obtain rfl:t2=false:=by rw [← g2];rfl
 refine Yr (v:=.bool false) rfl rfl<|Zi rfl ?_
 refine Yl rfl (Zi rfl ?_)
 refine Yl rfl (XZ (a:=0) (b:=0) rfl rfl ?_)
 intro t3 g3;obtain rfl:t3=false:=by rw [← g3];rfl
 refine Yr (v:=.bool false) rfl rfl<|Zi rfl ?_
 refine Yl rfl (Zi rfl ?_)
 refine Yl rfl (XZ (a:=48000) (b:=48000) rfl rfl ?_)
 intro t4 g4;obtain rfl:t4=false:=by rw [← g4];rfl
 refine Yr (v:=.bool false) rfl rfl<|Zi rfl ?_
 refine Yl rfl (Zi rfl ?_)
 refine Yl rfl (XZ (a:=0) (b:=0) rfl rfl ?_)
 intro t5 g5;obtain rfl:t5=false:=by rw [← g5];rfl
 refine Yr (v:=.bool false) rfl rfl<|Zi rfl ?_
 refine Yl rfl (ZH (b:=H11.next) (o:=0) rfl c12.rd (show row 2 _ _=some [iv 12000,iv 14000] from rfl) ?_)
 obtain ⟨H31,fH31,kH31⟩:=Yi (kn:=kn) (lo:=H30.next) (H:=H30) (a:=12000) (b:=14000) (Nat.le_refl _)
 refine Yl rfl (Yj (vs:=[iv 12000,iv 14000]) rfl rfl (Zf fH31) ?_)
 have mH31:=kH31.1
 have hk:=hk.trans kH31
 have slz2:=kH31.sl0 slz2
 have slz5:=kH31.sl0 slz5
 have c12:=kH31.cl c12 (by simp)
 have c18:=kH31.cl c18 (by simp)
 have c19:=kH31.cl c19 (by simp)
 have hsc:=kH31.sl0 hsc
 have c27:=kH31.cl c27 (by simp)
 have c28:=kH31.cl c28 (by simp)
 refine Yl rfl (Yr (v:=.bool false) rfl (by kernel_rfl) ?_)
 refine Yr (v:=.bool false) rfl rfl<|Zi rfl ?_
 refine Yl rfl (Zi rfl ?_)
 refine Yl rfl (XZ (a:=0) (b:=0) rfl rfl ?_)
 intro t6 g6;obtain rfl:t6=false:=by rw [← g6];rfl
 refine Yr (v:=.bool false) rfl rfl<|Zi rfl ?_
 refine Yl rfl (Zi rfl ?_)
 refine Yl rfl (XZ (a:=285) (b:=285) rfl rfl ?_)
 intro t7 g7;obtain rfl:t7=false:=by rw [← g7];rfl
 refine Yr (v:=.bool false) rfl rfl<|Zi rfl ?_
 refine Yl rfl (Zi rfl ?_)
 refine Yl rfl (XZ (a:=0) (b:=0) rfl rfl ?_)
 intro t8 g8;obtain rfl:t8=false:=by rw [← g8];rfl
 refine Yr (v:=.bool false) rfl rfl ?_
 refine Z5 (by repeat' first | exact True.intro | exact (fun h=>h) | refine And.intro ?_ ?_ | (intro h;have h:(_:Nat)=_:=h;omega)) ?_
 refine Z2 ?_
 first | refine Zn ?_ | skip
 refine YI<|Zi rfl ?_
 obtain ⟨H32,hH32⟩:∃ H32,H31.new (.cells [iv 5,iv 10,iv 13] 3 false)=H32:=⟨_,rfl⟩
 refine Uz (H':=H32) (k:=.heavy) rfl (by kernel_rfl) ((zI (a:=5) (b:=10) (c:=13) rfl rfl rfl).trans (by first | (rw [← hH32];done) | (rw [← hH32];rfl))) (fun b e=>by cases e) ?_
 obtain ⟨kH32,nH32,c32⟩:=Yc hH32;clear hH32
 have c32:Cl H32 H31.next [iv 5,iv 10,iv 13]:=c32
 have mH32:=kH32.1
 have hk:=hk.trans kH32
 have slz2:=kH32.sl0 slz2
 have slz5:=kH32.sl0 slz5
 have c12:=kH32.cl c12 (by simp)
 have c18:=kH32.cl c18 (by simp)
 have c19:=kH32.cl c19 (by simp)
 have hsc:=kH32.sl0 hsc
 have c27:=kH32.cl c27 (by simp)
 have c28:=kH32.cl c28 (by simp)
 obtain ⟨H33,fH33,kH33⟩:=jd (kn:=kn) (lo:=lo) (H:=H32) (xs:=[5,10,13]) (n:=3) hsc (c32.sl (Nat.le_refl 3)) rfl (by omega) (by omega)
 refine Y2 (vs:=[.slice sa_ 3 sc_,.slice (some ⟨H31.next,0,none⟩) 3 3]) rfl (Zf fH33) ?_
 have mH33:=kH33.1
 have hk:=hk.trans kH33
 have slz2:=kH33.sl0 slz2
 have slz5:=kH33.sl0 slz5
 have c12:=kH33.cl c12 (by simp)
 have c18:=kH33.cl c18 (by simp)
 have c19:=kH33.cl c19 (by simp)
 have hsc:=kH33.sl0 hsc
 have c27:=kH33.cl c27 (by simp)
 have c28:=kH33.cl c28 (by simp)
 have c32:=kH33.cl c32 (by simp)
 refine Zi rfl ?_
 refine Yl rfl (Zi rfl ?_)
 refine Yl rfl (zw (a:=0) (b:=0) rfl rfl ?_)
 intro t9 g9;obtain rfl:t9=true:=by rw [← g9];rfl
 refine Yr (v:=.bool true) rfl rfl<|Zi rfl ?_
 refine Yl rfl (ZH (b:=H26.next) (o:=0) rfl c27.rd (show row 2 _ _=some [iv 600,iv 1000] from rfl) ?_)
 obtain ⟨H34,fH34,kH34⟩:=Yi (kn:=kn) (lo:=H33.next) (H:=H33) (a:=600) (b:=1000) (Nat.le_refl _)
 refine Yl rfl (Yj (vs:=[iv 600,iv 1000]) rfl rfl (Zf fH34) ?_)
 have mH34:=kH34.1
 have hk:=hk.trans kH34
 have slz2:=kH34.sl0 slz2
 have slz5:=kH34.sl0 slz5
 have c12:=kH34.cl c12 (by simp)
 have c18:=kH34.cl c18 (by simp)
 have c19:=kH34.cl c19 (by simp)
 have hsc:=kH34.sl0 hsc
 have c27:=kH34.cl c27 (by simp)
 have c28:=kH34.cl c28 (by simp)
 have c32:=kH34.cl c32 (by simp)
 refine Yl rfl (Yr (v:=.bool true) rfl (by kernel_rfl) ?_)
 refine Yr (v:=.bool true) rfl rfl<|Zi rfl ?_
 refine Yl rfl (ZH (b:=H27.next) (o:=0) rfl c28.rd (show row 2 _ _=some [iv 400,iv 600] from rfl) ?_)
 obtain ⟨H35,fH35,kH35⟩:=Yi (kn:=kn) (lo:=H34.next) (H:=H34) (a:=400) (b:=600) (Nat.le_refl _)
 refine Yl rfl (Yj (vs:=[iv 400,iv 600]) rfl rfl (Zf fH35) ?_)
 have mH35:=kH35.1
 have hk:=hk.trans kH35
 have slz2:=kH35.sl0 slz2
 have slz5:=kH35.sl0 slz5
 have c12:=kH35.cl c12 (by simp)
 have c18:=kH35.cl c18 (by simp)
 have c19:=kH35.cl c19 (by simp)
 have hsc:=kH35.sl0 hsc
 have c27:=kH35.cl c27 (by simp)
 have c28:=kH35.cl c28 (by simp)
 have c32:=kH35.cl c32 (by simp)
 refine Yl rfl (Yr (v:=.bool true) rfl (by kernel_rfl) ?_)
 refine Yr (v:=.bool true) rfl rfl<|Zi rfl ?_
 refine Yl rfl (Zi rfl ?_)
 refine Yl rfl (zw (a:=0) (b:=0) rfl rfl ?_)
 intro t10 g10;obtain rfl:t10=true:=by rw [← g10];rfl
 refine Yr (v:=.bool true) rfl rfl<|Zi rfl ?_
 refine Z5 (by repeat' first | exact True.intro | exact (fun h=>h) | refine And.intro ?_ ?_ | (intro h;have h:(_:Nat)=_:=h;omega)) ?_
 exact And.intro trivial (Exists.intro _ (And.intro rfl ⟨rfl,hk⟩))
end
end
end Go.Ax

/-
 Pool: two spans compared (written by program).
-/
namespace Go.Ax
open Go Go.RowKit Go.Proofs

end Go.Ax

/-
 Pool: a value picked in a span (written by program).
-/
namespace Go.Ax
open Go Go.RowKit Go.Proofs

section
variable {kn:Kn} {lo:Nat} {H:Hp}
theorem XP {l h j:Int} (hj:0≤j∧j≤4294967295) (h0:0≤l∧l≤h∧h≤4611686018427387904) (hlo:lo≤H.next):∃ v H',FnX Try.prog kn lo 26 [.agg #[iv l,iv h],.int .u32 j] H (iv v) H'∧(l≤v∧v≤h)∧Zj H H' []:=by
 have key:=Zp (kn:=kn) (lo:=lo) (H:=H) (args:=[.agg #[iv l,iv h],.int .u32 j]) (Q:=fun w H'=>(∃ v,w=iv v∧l≤v∧v≤h)∧Zj H H' []) Try.func26 B26 N26 Z26 L26 (by simp) ?_
 ·obtain ⟨w,H',h,⟨v,rfl,q⟩,q2⟩:=key;exact ⟨v,H',h,q,q2⟩
 have hk:=Zj.refl H []
 obtain ⟨n,hjn⟩:∃ n:Nat,j=(n:Int):=⟨j.toNat,by omega⟩
 have e1:=Int.emod_nonneg (n:Int) (b:=h - l+1) (by omega)
 have e2:=Int.emod_lt_of_pos (n:Int) (b:=h - l+1) (by omega)
 refine Zc ?_
 refine ZZ (v:=.agg #[iv l,iv h]) rfl ?_
 intro H1 kH1 nH1 c1
 have c1:Cl H1 H.next [iv l,iv h]:=c1
 have mH1:=kH1.1
 have hk:=hk.trans kH1
 refine Za (v:=iv 0) rfl ?_
 refine Zb ?_
 refine YI ?_
 refine ZD (b:=H.next) (o:=0) rfl ?_
 refine YS (b:=H.next) (o:=0) (v:=iv l) rfl c1.rd rfl ?_
 refine Zi (v:=.int .u32 j) rfl ?_
 refine Yr (v:=iv (n:Int)) rfl (Zd3 (n:=n) (j:=j) (by omega) rfl hjn) ?_
 refine ZD (b:=H.next) (o:=0) rfl ?_
 refine YS (b:=H.next) (o:=1) (v:=iv h) rfl c1.rd rfl ?_
 refine ZD (b:=H.next) (o:=0) rfl ?_
 refine YS (b:=H.next) (o:=0) (v:=iv l) rfl c1.rd rfl ?_
 refine Wd (a:=h) (b:=l) rfl rfl ⟨by omega,by omega⟩ ?_
 refine YY (a:=h - l) (b:=1) rfl rfl ⟨by omega,by omega⟩ ?_
 refine ZcD (a:=(n:Int)) (b:=(h - l)+1) rfl rfl (by omega) (by omega) ⟨by omega,by omega⟩ ⟨by omega,by omega⟩ ?_
 refine YY (a:=l) (b:=(n:Int) % ((h - l)+1)) rfl rfl ⟨by omega,by omega⟩ ?_
 refine Zi (v:=iv (l+((n:Int) % ((h - l)+1)))) rfl ?_
 refine Z5 (by repeat' first | exact True.intro | exact (fun h=>h) | refine And.intro ?_ ?_ | (intro h;have h:(_:Nat)=_:=h;omega)) ?_
 exact And.intro trivial (Exists.intro _ (And.intro rfl ⟨⟨_,rfl,by omega,by omega⟩,hk⟩))
end
end Go.Ax

/-
 Pool: flows joined: what a mix holds,and the most that may be let out (written by program).
-/
namespace Go.Ax
open Go Go.RowKit Go.Proofs

theorem jS {w v wl wh vl vh A B:Int} (h1:wl≤w) (h2:w≤wh) (h3:vl≤v) (h4:v≤vh) (q0:0≤wl * A+vl * B) (q1:0≤wl * A+vh * B) (q2:0≤wh * A+vl * B) (q3:0≤wh * A+vh * B):0≤w * A+v * B:=by
 rcases Int.le_total 0 A with a | a<;>rcases Int.le_total 0 B with b | b
 ·have:=Int.mul_le_mul_of_nonneg_right h1 a;have:=Int.mul_le_mul_of_nonneg_right h3 b;omega
 ·have:=Int.mul_le_mul_of_nonneg_right h1 a;have:=Int.mul_le_mul_of_nonpos_right h4 b;omega
 ·have:=Int.mul_le_mul_of_nonpos_right h2 a;have:=Int.mul_le_mul_of_nonneg_right h3 b;omega
 ·have:=Int.mul_le_mul_of_nonpos_right h2 a;have:=Int.mul_le_mul_of_nonpos_right h4 b;omega
theorem UD {n s t:Int} (hs:0 < s) (h:t≤n / s):t * s≤n:=by
 have h1:=Int.mul_le_mul_of_nonneg_right h (Int.le_of_lt hs)
 have h2:=Int.ediv_mul_le n (show s≠0 by omega)
 omega
theorem zE {n s t:Int} (hs:0 < s) (h:(n+s - 1) / s≤t):n≤t * s:=by
 have h1:=Int.mul_le_mul_of_nonneg_right h (Int.le_of_lt hs)
 have h2:=Int.lt_ediv_add_one_mul_self (n+s - 1) hs
 rw [Int.add_mul,Int.one_mul] at h2
 omega
section
variable {a b:Fw}
theorem ZaM (k:Nat) (hk:k < 4):mLo a b 4≤clA a b k:=by
 simp only [mLo]
 match k,hk with
 | 0,_=>omega
 | 1,_=>omega
 | 2,_=>omega
 | 3,_=>omega
theorem jZ (k:Nat) (hk:k < 4):chA a b k≤mHi a b 4:=by
 simp only [mHi]
 match k,hk with
 | 0,_=>omega
 | 1,_=>omega
 | 2,_=>omega
 | 3,_=>omega
theorem Zdw (ha:vF a=true) (hb:vF b=true) (hz:¬ (a.wl=0∧b.wl=0)):0≤mLo a b 4∧mLo a b 4≤40000∧0≤mHi a b 4∧mHi a b 4≤40000∧mLo a b 4≤mHi a b 4:=by
 obtain ⟨_,_,_,_,hs,_,_,_,_,_,_,_,_,l0,l1,u0,u1⟩:=Wb ha hb hz 0
 obtain ⟨_,_,_,_,_,_,_,_,_,_,_,_,_,l2,l3,u2,u3⟩:=Wb ha hb hz 1
 obtain ⟨_,_,_,_,_,_,_,_,_,_,_,_,_,l4,l5,u4,u5⟩:=Wb ha hb hz 2
 obtain ⟨_,_,_,_,_,_,_,_,_,_,_,_,_,l6,l7,u6,u7⟩:=Wb ha hb hz 3
 have k1:clA a b 0≤chA a b 0:=by
  obtain ⟨⟨w1,w2,w3⟩,t1,t2,t3⟩:=Vs ha
  obtain ⟨⟨v1,v2,v3⟩,s1,s2,s3⟩:=Vs hb
  have f1:=UD (n:=cnx a 0 * a.tl+cny b 0 * b.tl) (t:=clA a b 0) hs (Int.le_refl _)
  have f2:=zE (n:=cnx a 0 * a.th+cny b 0 * b.th) (t:=chA a b 0) hs (Int.le_refl _)
  have f3:=Int.mul_le_mul_of_nonneg_left t2 (show 0≤cnx a 0 from w1)
  have f4:=Int.mul_le_mul_of_nonneg_left s2 (show 0≤cny b 0 from v1)
  exact Int.le_of_mul_le_mul_right (by omega:clA a b 0 * (cnx a 0+cny b 0)≤chA a b 0 * (cnx a 0+cny b 0)) hs
 have m1:=ZaM (a:=a) (b:=b) 0 (by decide)
 have m2:=jZ (a:=a) (b:=b) 0 (by decide)
 refine ⟨?_,?_,by omega,?_,by omega⟩
 ·simp only [mLo];omega
 ·omega
 ·simp only [mHi];omega
theorem VF (ha:vF a=true) (hb:vF b=true) (hz:¬ (a.wl=0∧b.wl=0)) (k:Nat) (hk:k < 4):0≤cnx a k * (a.tl - mLo a b 4)+cny b k * (b.tl - mLo a b 4):=by
 have hs:=(Wb ha hb hz k).2.2.2.2.1
 have f:=UD (n:=cnx a k * a.tl+cny b k * b.tl) (t:=mLo a b 4) hs (ZaM k hk)
 rw [Int.mul_add,Int.mul_comm (mLo a b 4),Int.mul_comm (mLo a b 4)] at f
 rw [Int.mul_sub,Int.mul_sub]
 omega
theorem VD (ha:vF a=true) (hb:vF b=true) (hz:¬ (a.wl=0∧b.wl=0)) (k:Nat) (hk:k < 4):0≤cnx a k * (mHi a b 4 - a.th)+cny b k * (mHi a b 4 - b.th):=by
 have hs:=(Wb ha hb hz k).2.2.2.2.1
 have f:=zE (n:=cnx a k * a.th+cny b k * b.th) (t:=mHi a b 4) hs (jZ k hk)
 rw [Int.mul_add,Int.mul_comm (mHi a b 4),Int.mul_comm (mHi a b 4)] at f
 rw [Int.mul_sub,Int.mul_sub]
 omega
theorem ZbU (ha:vF a=true) (hb:vF b=true) (hz:¬ (a.wl=0∧b.wl=0)) {w v s t:Int} (hw:a.wl≤w∧w≤a.wh) (hv:b.wl≤v∧v≤b.wh) (hs:a.tl≤s∧s≤a.th) (ht:b.tl≤t∧t≤b.th):mLo a b 4 * (w+v)≤w * s+v * t:=by
 have g:=jS hw.1 hw.2 hv.1 hv.2 (VF ha hb hz 0 (by decide)) (VF ha hb hz 1 (by decide)) (VF ha hb hz 2 (by decide)) (VF ha hb hz 3 (by decide))
 obtain ⟨⟨w1,_⟩,_⟩:=Vs ha
 obtain ⟨⟨v1,_⟩,_⟩:=Vs hb
 have f1:=Int.mul_le_mul_of_nonneg_left hs.1 (show 0≤w by omega)
 have f2:=Int.mul_le_mul_of_nonneg_left ht.1 (show 0≤v by omega)
 rw [Int.mul_sub,Int.mul_sub] at g
 rw [Int.mul_add,Int.mul_comm (mLo a b 4),Int.mul_comm (mLo a b 4)]
 omega
theorem Zb0 (ha:vF a=true) (hb:vF b=true) (hz:¬ (a.wl=0∧b.wl=0)) {w v s t:Int} (hw:a.wl≤w∧w≤a.wh) (hv:b.wl≤v∧v≤b.wh) (hs:a.tl≤s∧s≤a.th) (ht:b.tl≤t∧t≤b.th):w * s+v * t≤mHi a b 4 * (w+v):=by
 have g:=jS hw.1 hw.2 hv.1 hv.2 (VD ha hb hz 0 (by decide)) (VD ha hb hz 1 (by decide)) (VD ha hb hz 2 (by decide)) (VD ha hb hz 3 (by decide))
 obtain ⟨⟨w1,_⟩,_⟩:=Vs ha
 obtain ⟨⟨v1,_⟩,_⟩:=Vs hb
 have f1:=Int.mul_le_mul_of_nonneg_left hs.2 (show 0≤w by omega)
 have f2:=Int.mul_le_mul_of_nonneg_left ht.2 (show 0≤v by omega)
 rw [Int.mul_sub,Int.mul_sub] at g
 rw [Int.mul_add,Int.mul_comm (mHi a b 4),Int.mul_comm (mHi a b 4)]
 omega
theorem Zcd {tl th e:Int} (h:mxT a b=((tl,th),e)):(e=0→vF a=true∧vF b=true∧¬ (a.wl=0∧b.wl=0)∧tl=mLo a b 4∧th=mHi a b 4)∧(e=1→vF a=true→vF b=false):=by
 by_cases q:vF a=false∨vF b=false
 ·rw [Zam q] at h
  simp only [Prod.mk.injEq] at h
  obtain ⟨_,rfl⟩:=h
  exact ⟨fun k=>absurd k (by decide),fun _ k=>by rcases q with q | q;rw [k] at q;cases q;exact q⟩
 ·have qa:vF a=true:=by cases k:vF a;exact absurd (.inl k) q;rfl
  have qb:vF b=true:=by cases k:vF b;exact absurd (.inr k) q;rfl
  by_cases z:a.wl=0∧b.wl=0
  ·rw [jJ qa qb z] at h
   simp only [Prod.mk.injEq] at h
   obtain ⟨_,rfl⟩:=h
   exact ⟨fun k=>absurd k (by decide),fun k=>absurd k (by decide)⟩
  ·rw [Zbc qa qb z] at h
   simp only [Prod.mk.injEq] at h
   obtain ⟨⟨rfl,rfl⟩,rfl⟩:=h
   exact ⟨fun _=>⟨qa,qb,z,rfl,rfl⟩,fun k=>absurd k (by decide)⟩
theorem jT {l h limit N e:Int} (q:moT a l h limit=(N,e)):(e=0→vF a=true∧spB l h 40000=true∧(0≤limit∧limit≤40000)∧a.th≤limit∧N=moV a h limit)∧(e≠0→N=0∧(e=1∨vF a=true∧spB l h 40000=true)):=by
 by_cases c:vF a=false∨spB l h 40000=false
 ·rw [jK c] at q
  simp only [Prod.mk.injEq] at q
  obtain ⟨rfl,rfl⟩:=q
  exact ⟨fun k=>absurd k (by decide),fun _=>⟨rfl,.inl rfl⟩⟩
 ·have qa:vF a=true:=by cases k:vF a;exact absurd (.inl k) c;rfl
  have qb:spB l h 40000=true:=by cases k:spB l h 40000;exact absurd (.inr k) c;rfl
  cases r:inB limit 0 40000 with
  | false=>
   rw [Zcv qa qb r] at q
   simp only [Prod.mk.injEq] at q
   obtain ⟨rfl,rfl⟩:=q
   exact ⟨fun k=>absurd k (by decide),fun _=>⟨rfl,.inr ⟨qa,qb⟩⟩⟩
  | true=>
   by_cases s:limit < a.th
   ·rw [Zaz qa qb r s] at q
    simp only [Prod.mk.injEq] at q
    obtain ⟨rfl,rfl⟩:=q
    exact ⟨fun k=>absurd k (by decide),fun _=>⟨rfl,.inr ⟨qa,qb⟩⟩⟩
   ·rw [Zcg qa qb r s] at q
    simp only [Prod.mk.injEq] at q
    obtain ⟨rfl,rfl⟩:=q
    exact ⟨fun _=>⟨qa,qb,XH r,by omega,rfl⟩,fun k=>absurd rfl k⟩
theorem jI {tl th e N e2 limit:Int} (h:mxT a b=((tl,th),e)) (q:moT a b.tl b.th limit=(N,e2)):e≠1∨e2=0∨e2=1∨b.wl < 0∨b.wl > b.wh∨b.wh > 1073741824:=by
 by_cases c1:e=1
 ·by_cases c2:e2=0
  ·exact .inr (.inl c2)
  ·obtain ⟨_,k | ⟨ka,kb⟩⟩:=(jT q).2 c2
   ·exact .inr (.inr (.inl k))
   ·have hb:=(Zcd h).2 c1 ka
    unfold vF at hb
    rw [kb,Bool.and_true] at hb
    have:=W2 hb
    omega
 ·exact .inl c1
theorem yA {h limit:Int} (ha:vF a=true) (q:a.th≤limit):0≤moV a h limit∧moV a h limit≤1073741824:=by
 obtain ⟨⟨w1,_⟩,_⟩:=Vs ha
 unfold moV
 split
 ·omega
 ·have:=Int.ediv_nonneg (Int.mul_nonneg w1 (show 0≤limit - a.th by omega)) (show 0≤h - limit by omega)
  omega
theorem qk {h limit w s t:Int} (ha:vF a=true) (q:a.th≤limit) (hw:a.wl≤w∧w≤a.wh) (hs:s≤a.th) (ht:t≤h):w * s+moV a h limit * t≤limit * (w+moV a h limit):=by
 obtain ⟨⟨w1,_⟩,_⟩:=Vs ha
 have hN:=yA (h:=h) ha q
 have f1:=Int.mul_le_mul_of_nonneg_left hs (show 0≤w by omega)
 have f2:=Int.mul_le_mul_of_nonneg_left ht hN.1
 have f3:=Int.mul_le_mul_of_nonneg_right hw.1 (show 0≤limit - a.th by omega)
 have key:moV a h limit * (h - limit)≤w * (limit - a.th):=by
  by_cases c:h≤limit
  ·have g1:=Int.mul_le_mul_of_nonneg_left (show h - limit≤0 by omega) hN.1
   have g2:=Int.mul_nonneg (show 0≤w by omega) (show 0≤limit - a.th by omega)
   rw [Int.mul_zero] at g1
   omega
  ·have g:moV a h limit≤a.wl * (limit - a.th) / (h - limit):=by unfold moV;rw [if_neg c];omega
   have:=UD (show 0 < h - limit by omega) g
   omega
 rw [Int.mul_sub,Int.mul_sub] at key
 rw [Int.mul_add,Int.mul_comm limit,Int.mul_comm limit]
 omega
theorem qP {h limit:Int} (ha:vF a=true) (q:a.th≤limit) (hN:moV a h limit≠1073741824):limit * (a.wl+moV a h limit+1) < a.wl * a.th+(moV a h limit+1) * h:=by
 by_cases c:h≤limit
 ·exact absurd (by unfold moV;rw [if_pos c]) hN
 ·have e:moV a h limit=a.wl * (limit - a.th) / (h - limit):=by
   unfold moV at hN ⊢
   rw [if_neg c] at hN ⊢
   omega
  have f:=Int.lt_ediv_add_one_mul_self (a.wl * (limit - a.th)) (show 0 < h - limit by omega)
  rw [← e,Int.mul_sub,Int.mul_sub] at f
  rw [Int.add_assoc,Int.mul_add,Int.mul_comm limit,Int.mul_comm limit]
  omega
end
end Go.Ax

/-
 Pool: the law PermitCool (written by program).
-/
namespace Go.Ax
open Go Go.RowKit Go.Proofs

section
variable {kn:Kn} {lo:Nat} {H:Hp}
set_option maxRecDepth 100000 in
set_option maxHeartbeats 4000000 in
theorem Zay (hkn:∀ f,kn.b f=none) {a b:Fw} {limit:Int} {j0 j1 j2 j3 j4 j5:Int} (hj0:0≤j0∧j0≤4294967295) (hj1:0≤j1∧j1≤4294967295) (hj2:0≤j2∧j2≤4294967295) (hj3:0≤j3∧j3≤4294967295) (hj4:0≤j4∧j4≤4294967295) (hj5:0≤j5∧j5≤4294967295) (hlo:lo≤H.next):∃ H',FnX Try.prog kn lo 8 [.agg (Fw.f a).toArray,.agg (Fw.f b).toArray,iv limit,.agg #[.int .u32 j0,.int .u32 j1,.int .u32 j2,.int .u32 j3,.int .u32 j4,.int .u32 j5]] H (.bool true) H':=by
 have key:=Zp (kn:=kn) (lo:=lo) (H:=H) (args:=[.agg (Fw.f a).toArray,.agg (Fw.f b).toArray,iv limit,.agg #[.int .u32 j0,.int .u32 j1,.int .u32 j2,.int .u32 j3,.int .u32 j4,.int .u32 j5]]) (Q:=fun w H'=>w=.bool true) Try.func8 B8 N8 Z8 L8 (by simp) ?_
 ·obtain ⟨w,H',h,rfl⟩:=key;exact ⟨H',h⟩
 have hk:=Zj.refl H []
 refine Zc ?_
 refine ZZ (v:=.agg (Fw.f a).toArray) rfl ?_
 intro H1 kH1 nH1 c1
 have c1:Cl H1 H.next [iv a.wl,iv a.wh,iv a.tl,iv a.th]:=c1
 have mH1:=kH1.1
 have hk:=hk.trans kH1
 refine ZZ (v:=.agg (Fw.f b).toArray) rfl ?_
 intro H2 kH2 nH2 c2
 have c2:Cl H2 H1.next [iv b.wl,iv b.wh,iv b.tl,iv b.th]:=c2
 have mH2:=kH2.1
 have hk:=hk.trans kH2
 have c1:=kH2.cl c1 (by simp)
 refine ZZ (v:=.agg #[.int .u32 j0,.int .u32 j1,.int .u32 j2,.int .u32 j3,.int .u32 j4,.int .u32 j5]) rfl ?_
 intro H3 kH3 nH3 c3
 have c3:Cl H3 H2.next [.int .u32 j0,.int .u32 j1,.int .u32 j2,.int .u32 j3,.int .u32 j4,.int .u32 j5]:=c3
 have mH3:=kH3.1
 have hk:=hk.trans kH3
 have c1:=kH3.cl c1 (by simp)
 have c2:=kH3.cl c2 (by simp)
 refine Za (v:=.bool false) rfl ?_
 refine Zb ?_
 refine Zc ?_
 refine Zz (b:=H.next) (o:=0) rfl c1.rd (show row 4 _ _=some [iv a.wl,iv a.wh,iv a.tl,iv a.th] from rfl) ?_
 refine Zz (b:=H1.next) (o:=0) rfl c2.rd (show row 4 _ _=some [iv b.wl,iv b.wh,iv b.tl,iv b.th] from rfl) ?_
 obtain ⟨H4,fH4,kH4⟩:=Zak (kn:=kn) (lo:=lo) (H:=H3) (hkn 35) (a:=a) (b:=b) (by omega)
 obtain ⟨Tl,Th,e,hmx⟩:∃ tl th e,mxT a b=((tl,th),e):=⟨_,_,_,rfl⟩;obtain ⟨hx0,hx1⟩:=Zcd hmx;rw [hmx] at fH4
 refine Zh (vs:=[.agg (Fw.f a).toArray,.agg (Fw.f b).toArray]) rfl (Zf fH4) ?_
 have mH4:=kH4.1
 have hk:=hk.trans kH4
 have c1:=kH4.cl c1 (by simp)
 have c2:=kH4.cl c2 (by simp)
 have c3:=kH4.cl c3 (by simp)
 refine Za (v:=.tuple #[.agg #[iv Tl,iv Th],iv e]) rfl ?_
 refine Zd (v:=.agg #[iv Tl,iv Th]) rfl (by kernel_rfl) ?_
 refine Zd (v:=iv e) rfl (by kernel_rfl) ?_
 refine Yt ?_
 intro H5 kH5 nH5 c5
 have c5:Cl H5 H4.next [iv 0,iv 0]:=c5
 have mH5:=kH5.1
 have hk:=hk.trans kH5
 have c1:=kH5.cl c1 (by simp)
 have c2:=kH5.cl c2 (by simp)
 have c3:=kH5.cl c3 (by simp)
 refine Z4 (b:=H4.next) (o:=0) rfl rfl c5 (by omega) rfl rfl (by simp) ?_
 intro H6 kH6 nH6 sH6
 have mH6:=kH6.1
 have hk:=hk.new kH6 (fun b hb=>by simp at hb ⊢;omega)
 have c1:=kH6.cl c1 (by first | (simp;done) | (simp;omega))
 have c2:=kH6.cl c2 (by first | (simp;done) | (simp;omega))
 have c3:=kH6.cl c3 (by first | (simp;done) | (simp;omega))
 have c5:Cl H6 H4.next [iv Tl,iv Th]:=sH6
 refine Za (v:=iv e) rfl ?_
 refine Zb ?_
 refine Zc ?_
 refine Za (v:=iv e) rfl ?_
 refine WH (a:=e) (b:=0) rfl rfl ?_
 refine Zb ?_
 refine And.intro (fun q1=>?_) (fun q1=>?_)
 ·have q1:e=0:=by simpa using q1
  obtain ⟨hva,hvb,hz,hTl,hTh⟩:=hx0 (by omega);obtain ⟨hva1,hva2⟩:=Vs hva;obtain ⟨hvb1,hvb2⟩:=Vs hvb;have hmm:=Zdw hva hvb hz
  refine Zc ?_
  refine Zz (b:=H.next) (o:=0) rfl c1.rd (show row 4 _ _=some [iv a.wl,iv a.wh,iv a.tl,iv a.th] from rfl) ?_
  obtain ⟨H7,fH7,kH7⟩:=Qv (kn:=kn) (lo:=lo) (H:=H6) (f:=a) (by omega);rw [hva] at fH7
  refine Zh (vs:=[.agg (Fw.f a).toArray]) rfl (Zf fH7) ?_
  have mH7:=kH7.1
  have hk:=hk.trans kH7
  have c1:=kH7.cl c1 (by simp)
  have c2:=kH7.cl c2 (by simp)
  have c3:=kH7.cl c3 (by simp)
  have c5:=kH7.cl c5 (by simp)
  refine Zd (v:=.bool false) rfl rfl ?_
  refine Za (v:=.bool false) rfl ?_
  refine Zl rfl (Zz (b:=H1.next) (o:=0) rfl c2.rd (show row 4 _ _=some [iv b.wl,iv b.wh,iv b.tl,iv b.th] from rfl) ?_)
  obtain ⟨H8,fH8,kH8⟩:=Qv (kn:=kn) (lo:=lo) (H:=H7) (f:=b) (by omega);rw [hvb] at fH8
  refine Zl rfl (Zh (vs:=[.agg (Fw.f b).toArray]) rfl (Zf fH8) ?_)
  have mH8:=kH8.1
  have hk:=hk.trans kH8
  have c1:=kH8.cl c1 (by simp)
  have c2:=kH8.cl c2 (by simp)
  have c3:=kH8.cl c3 (by simp)
  have c5:=kH8.cl c5 (by simp)
  refine Zl rfl (Zd (v:=.bool false) rfl rfl ?_)
  refine Zd (v:=.bool false) rfl rfl ?_
  refine Zb ?_
  refine Z2 ?_
  first | refine Zn ?_ | skip
  refine YI ?_
  refine ZD (b:=H.next) (o:=0) rfl ?_
  refine ZH (b:=H.next) (o:=0) rfl c1.rd (show row 2 _ _=some [iv a.wl,iv a.wh] from rfl) ?_
  refine Wt (b:=H2.next) (o:=0) (k:=0) (j:=0) rfl rfl rfl (by decide) ?_
  refine YS (b:=H2.next) (o:=0) (v:=.int .u32 j0) rfl c3.rd rfl ?_
  obtain ⟨vH9,H9,fH9,bvH9,kH9⟩:=XP (kn:=kn) (lo:=H8.next) (H:=H8) (l:=a.wl) (h:=a.wh) (j:=j0) hj0 (by omega) (Nat.le_refl _)
  refine Yj (vs:=[.agg #[iv a.wl,iv a.wh],.int .u32 j0]) rfl rfl (Zf fH9) ?_
  have mH9:=kH9.1
  have hk:=hk.trans kH9
  have c1:=kH9.cl c1 (by simp)
  have c2:=kH9.cl c2 (by simp)
  have c3:=kH9.cl c3 (by simp)
  have c5:=kH9.cl c5 (by simp)
  refine ZD (b:=H1.next) (o:=0) rfl ?_
  refine ZH (b:=H1.next) (o:=0) rfl c2.rd (show row 2 _ _=some [iv b.wl,iv b.wh] from rfl) ?_
  refine Wt (b:=H2.next) (o:=0) (k:=1) (j:=1) rfl rfl rfl (by decide) ?_
  refine YS (b:=H2.next) (o:=1) (v:=.int .u32 j1) rfl c3.rd rfl ?_
  obtain ⟨vH10,H10,fH10,bvH10,kH10⟩:=XP (kn:=kn) (lo:=lo) (H:=H9) (l:=b.wl) (h:=b.wh) (j:=j1) hj1 (by omega) (by omega)
  refine Y2 (vs:=[.agg #[iv b.wl,iv b.wh],.int .u32 j1]) rfl (Zf fH10) ?_
  have mH10:=kH10.1
  have hk:=hk.trans kH10
  have c1:=kH10.cl c1 (by simp)
  have c2:=kH10.cl c2 (by simp)
  have c3:=kH10.cl c3 (by simp)
  have c5:=kH10.cl c5 (by simp)
  refine Zi (v:=iv vH9) rfl ?_
  refine Zi (v:=iv vH10) rfl ?_
  refine Z5 (by repeat' first | exact True.intro | exact (fun h=>h) | refine And.intro ?_ ?_ | (intro h;have h:(_:Nat)=_:=h;omega)) ?_
  refine YI ?_
  refine Zi (v:=iv vH9) rfl ?_
  refine ZD (b:=H.next) (o:=0) rfl ?_
  refine ZH (b:=H.next) (o:=2) rfl c1.rd (show row 2 _ _=some [iv a.tl,iv a.th] from rfl) ?_
  refine Wt (b:=H2.next) (o:=0) (k:=2) (j:=2) rfl rfl rfl (by decide) ?_
  refine YS (b:=H2.next) (o:=2) (v:=.int .u32 j2) rfl c3.rd rfl ?_
  obtain ⟨vH11,H11,fH11,bvH11,kH11⟩:=XP (kn:=kn) (lo:=H10.next) (H:=H10) (l:=a.tl) (h:=a.th) (j:=j2) hj2 (by omega) (Nat.le_refl _)
  refine Yj (vs:=[.agg #[iv a.tl,iv a.th],.int .u32 j2]) rfl rfl (Zf fH11) ?_
  have mH11:=kH11.1
  have hk:=hk.trans kH11
  have c1:=kH11.cl c1 (by simp)
  have c2:=kH11.cl c2 (by simp)
  have c3:=kH11.cl c3 (by simp)
  have c5:=kH11.cl c5 (by simp)
  have hm49:=Yb (x:=vH9) (y:=vH11) (X:=1073741824) (Y:=40000) (by omega) (by omega) (by omega) (by omega)
  refine XF (a:=vH9) (b:=vH11) rfl rfl ⟨by omega,by omega⟩ ?_
  refine Zi (v:=iv vH10) rfl ?_
  refine ZD (b:=H1.next) (o:=0) rfl ?_
  refine ZH (b:=H1.next) (o:=2) rfl c2.rd (show row 2 _ _=some [iv b.tl,iv b.th] from rfl) ?_
  refine Wt (b:=H2.next) (o:=0) (k:=3) (j:=3) rfl rfl rfl (by decide) ?_
  refine YS (b:=H2.next) (o:=3) (v:=.int .u32 j3) rfl c3.rd rfl ?_
  obtain ⟨vH12,H12,fH12,bvH12,kH12⟩:=XP (kn:=kn) (lo:=lo) (H:=H11) (l:=b.tl) (h:=b.th) (j:=j3) hj3 (by omega) (by omega)
  refine Y2 (vs:=[.agg #[iv b.tl,iv b.th],.int .u32 j3]) rfl (Zf fH12) ?_
  have mH12:=kH12.1
  have hk:=hk.trans kH12
  have c1:=kH12.cl c1 (by simp)
  have c2:=kH12.cl c2 (by simp)
  have c3:=kH12.cl c3 (by simp)
  have c5:=kH12.cl c5 (by simp)
  have hm56:=Yb (x:=vH10) (y:=vH12) (X:=1073741824) (Y:=40000) (by omega) (by omega) (by omega) (by omega)
  refine XF (a:=vH10) (b:=vH12) rfl rfl ⟨by omega,by omega⟩ ?_
  refine YY (a:=vH9 * vH11) (b:=vH10 * vH12) rfl rfl ⟨by omega,by omega⟩ ?_
  refine Zi (v:=iv ((vH9 * vH11)+(vH10 * vH12))) rfl ?_
  refine Z5 (by repeat' first | exact True.intro | exact (fun h=>h) | refine And.intro ?_ ?_ | (intro h;have h:(_:Nat)=_:=h;omega)) ?_
  refine Zc ?_
  refine Za (v:=iv ((vH9 * vH11)+(vH10 * vH12))) rfl ?_
  refine Zk (b:=H4.next) (o:=0) rfl ?_
  refine Zv (b:=H4.next) (o:=0) (v:=iv Tl) rfl c5.rd rfl ?_
  refine Za (v:=iv vH9) rfl ?_
  refine Za (v:=iv vH10) rfl ?_
  refine Zu (a:=vH9) (b:=vH10) rfl rfl ⟨by omega,by omega⟩ ?_
  have hm64:=Yb (x:=Tl) (y:=vH9+vH10) (X:=40000) (Y:=2147483648) (by omega) (by omega) (by omega) (by omega)
  have hcl:=ZbU hva hvb hz (w:=vH9) (v:=vH10) (s:=vH11) (t:=vH12) bvH9 bvH10 bvH11 bvH12;rw [← hTl] at hcl
  refine XK (a:=Tl) (b:=vH9+vH10) rfl rfl ⟨by omega,by omega⟩ ?_
  refine YP (a:=(vH9 * vH11)+(vH10 * vH12)) (b:=Tl * (vH9+vH10)) rfl rfl ?_
  intro t2 g2;cases t2
  ·have g2:¬ (((vH9 * vH11)+(vH10 * vH12)) < (Tl * (vH9+vH10))):=of_decide_eq_false g2
   refine Za (v:=.bool false) rfl ?_
   refine Zl rfl (Za (v:=iv ((vH9 * vH11)+(vH10 * vH12))) rfl ?_)
   refine Zl rfl (Zk (b:=H4.next) (o:=0) rfl ?_)
   refine Zl rfl (Zv (b:=H4.next) (o:=1) (v:=iv Th) rfl c5.rd rfl ?_)
   refine Zl rfl (Za (v:=iv vH9) rfl ?_)
   refine Zl rfl (Za (v:=iv vH10) rfl ?_)
   refine Zl rfl (Zu (a:=vH9) (b:=vH10) rfl rfl ⟨by omega,by omega⟩ ?_)
   have hm73:=Yb (x:=Th) (y:=vH9+vH10) (X:=40000) (Y:=2147483648) (by omega) (by omega) (by omega) (by omega)
   have hch:=Zb0 hva hvb hz (w:=vH9) (v:=vH10) (s:=vH11) (t:=vH12) bvH9 bvH10 bvH11 bvH12;rw [← hTh] at hch
   refine Zl rfl (XK (a:=Th) (b:=vH9+vH10) rfl rfl ⟨by omega,by omega⟩ ?_)
   refine Zl rfl (Xe (a:=(vH9 * vH11)+(vH10 * vH12)) (b:=Th * (vH9+vH10)) rfl rfl ?_)
   intro t3 g3;cases t3
   ·have g3:¬ (((vH9 * vH11)+(vH10 * vH12)) > (Th * (vH9+vH10))):=of_decide_eq_false g3
    refine Zd (v:=.bool false) rfl rfl ?_
    refine Za (v:=.bool false) rfl ?_
    refine Zl rfl (Zk (b:=H4.next) (o:=0) rfl ?_)
    refine Zl rfl (Zv (b:=H4.next) (o:=0) (v:=iv Tl) rfl c5.rd rfl ?_)
    refine Zl rfl (Zk (b:=H4.next) (o:=0) rfl ?_)
    refine Zl rfl (Zv (b:=H4.next) (o:=1) (v:=iv Th) rfl c5.rd rfl ?_)
    refine Zl rfl (Xe (a:=Tl) (b:=Th) rfl rfl ?_)
    intro t4 g4;cases t4
    ·have g4:¬ (Tl > Th):=of_decide_eq_false g4
     refine Zd (v:=.bool false) rfl rfl ?_
     refine Zb ?_
     refine Z2 ?_
     first | refine Zn ?_ | skip
     refine Zc ?_
     refine Zz (b:=H.next) (o:=0) rfl c1.rd (show row 4 _ _=some [iv a.wl,iv a.wh,iv a.tl,iv a.th] from rfl) ?_
     refine Zk (b:=H1.next) (o:=0) rfl ?_
     refine Zz (b:=H1.next) (o:=2) rfl c2.rd (show row 2 _ _=some [iv b.tl,iv b.th] from rfl) ?_
     refine Za (v:=iv limit) rfl ?_
     obtain ⟨H13,fH13,kH13⟩:=KD (kn:=kn) (lo:=lo) (H:=H12) (a:=a) (l:=b.tl) (h:=b.th) (limit:=limit) (by omega)
     obtain ⟨N,e2,hmo⟩:∃ N e2,moT a b.tl b.th limit=(N,e2):=⟨_,_,rfl⟩;obtain ⟨ho0,ho1⟩:=jT hmo;have hnm:=jI hmx hmo;rw [hmo] at fH13
     refine Zh (vs:=[.agg (Fw.f a).toArray,.agg #[iv b.tl,iv b.th],iv limit]) rfl (Zf fH13) ?_
     have mH13:=kH13.1
     have hk:=hk.trans kH13
     have c1:=kH13.cl c1 (by simp)
     have c2:=kH13.cl c2 (by simp)
     have c3:=kH13.cl c3 (by simp)
     have c5:=kH13.cl c5 (by simp)
     refine Za (v:=.tuple #[iv N,iv e2]) rfl ?_
     refine Zd (v:=iv N) rfl (by kernel_rfl) ?_
     refine Zd (v:=iv e2) rfl (by kernel_rfl) ?_
     refine Za (v:=iv N) rfl ?_
     refine Za (v:=iv e2) rfl ?_
     refine Zb ?_
     refine Zc ?_
     refine Za (v:=iv e2) rfl ?_
     refine Vk (a:=e2) (b:=0) rfl rfl ?_
     refine Zb ?_
     refine And.intro (fun q5=>?_) (fun q5=>?_)
     ·have q5:e2≠0:=by simpa using q5
      obtain ⟨hN0,_⟩:=ho1 (by omega)
      refine Zc ?_
      refine Za (v:=iv N) rfl ?_
      refine Wh (a:=N) (b:=0) rfl rfl ?_
      intro t6 g6;cases t6
      ·have g6:¬ (N=0):=by simpa using g6
       refine Za (v:=.bool false) rfl ?_
       refine Zg rfl ?_
       refine Zg rfl ?_
       refine Zg rfl ?_
       refine Yq rfl ?_
       refine Yq rfl ?_
       refine Zg rfl ?_
       refine Zg rfl ?_
       refine Yq rfl ?_
       refine Yq rfl ?_
       refine Yq rfl ?_
       refine Yq rfl ?_
       refine Zg rfl ?_
       refine Zg rfl ?_
       refine Yq rfl ?_
       refine Yq rfl ?_
       refine Yq rfl ?_
       refine Yq rfl ?_
       refine Yq rfl ?_
       refine Yq rfl ?_
       refine Yq rfl ?_
       refine Zg rfl ?_
       refine Zg rfl ?_
       refine Yq rfl ?_
       refine Yq rfl ?_
       refine Yq rfl ?_
       refine Yq rfl ?_
       refine Zg rfl ?_
       refine Zd (v:=.bool false) rfl rfl ?_
       refine Za (v:=.bool false) rfl ?_
       refine Zg rfl ?_
       refine Zd (v:=.bool false) rfl rfl ?_
       refine Za (v:=.bool false) rfl ?_
       refine Zb ?_
       exact (show False by omega).elim
      ·have g6:N=0:=by simpa using g6
       refine Za (v:=.bool true) rfl ?_
       refine Zl rfl (Za (v:=iv e) rfl ?_)
       refine Zl rfl (zu (a:=e) (b:=1) rfl rfl ?_)
       intro t7 g7;cases t7
       ·have g7:¬ (e≠1):=by simpa using g7
        refine Zl rfl (Za (v:=.bool false) rfl ?_)
        refine Zl rfl (Za (v:=iv e2) rfl ?_)
        refine Zl rfl (Wh (a:=e2) (b:=1) rfl rfl ?_)
        intro t8 g8;cases t8
        ·have g8:¬ (e2=1):=by simpa using g8
         refine Zl rfl (Zd (v:=.bool false) rfl rfl ?_)
         refine Zl rfl (Za (v:=.bool false) rfl ?_)
         refine Zl rfl (Zk (b:=H1.next) (o:=0) rfl ?_)
         refine Zl rfl (Zk (b:=H1.next) (o:=0) rfl ?_)
         refine Zl rfl (Zv (b:=H1.next) (o:=0) (v:=iv b.wl) rfl c2.rd rfl ?_)
         refine Zl rfl (YP (a:=b.wl) (b:=0) rfl rfl ?_)
         intro t9 g9;cases t9
         ·have g9:¬ (b.wl < 0):=of_decide_eq_false g9
          refine Zl rfl (Zd (v:=.bool false) rfl rfl ?_)
          refine Zl rfl (Za (v:=.bool false) rfl ?_)
          refine Zl rfl (Zk (b:=H1.next) (o:=0) rfl ?_)
          refine Zl rfl (Zk (b:=H1.next) (o:=0) rfl ?_)
          refine Zl rfl (Zv (b:=H1.next) (o:=0) (v:=iv b.wl) rfl c2.rd rfl ?_)
          refine Zl rfl (Zk (b:=H1.next) (o:=0) rfl ?_)
          refine Zl rfl (Zk (b:=H1.next) (o:=0) rfl ?_)
          refine Zl rfl (Zv (b:=H1.next) (o:=1) (v:=iv b.wh) rfl c2.rd rfl ?_)
          refine Zl rfl (Xe (a:=b.wl) (b:=b.wh) rfl rfl ?_)
          intro t10 g10;cases t10
          ·have g10:¬ (b.wl > b.wh):=of_decide_eq_false g10
           refine Zl rfl (Zd (v:=.bool false) rfl rfl ?_)
           refine Zl rfl (Za (v:=.bool false) rfl ?_)
           refine Zl rfl (Zk (b:=H1.next) (o:=0) rfl ?_)
           refine Zl rfl (Zk (b:=H1.next) (o:=0) rfl ?_)
           refine Zl rfl (Zv (b:=H1.next) (o:=1) (v:=iv b.wh) rfl c2.rd rfl ?_)
           refine Zl rfl (Xe (a:=b.wh) (b:=1073741824) rfl rfl ?_)
           intro t11 g11;cases t11
           ·have g11:¬ (b.wh > 1073741824):=of_decide_eq_false g11
            refine Zl rfl (Zd (v:=.bool false) rfl rfl ?_)
            refine Zd (v:=.bool false) rfl rfl ?_
            refine Za (v:=.bool false) rfl ?_
            refine Zg rfl ?_
            refine Zd (v:=.bool false) rfl rfl ?_
            refine Za (v:=.bool false) rfl ?_
            refine Zb ?_
            exact (show False by omega).elim
           ·have g11:b.wh > 1073741824:=of_decide_eq_true g11
            refine Zl rfl (Zd (v:=.bool true) rfl rfl ?_)
            refine Zd (v:=.bool true) rfl rfl ?_
            refine Za (v:=.bool true) rfl ?_
            obtain ⟨H14,fH14,kH14⟩:=YC (kn:=kn) (lo:=lo) (H:=H13) hkn (by omega)
            refine Zl rfl (Zh (vs:=[]) rfl (ZE (hkn 11) fH14) ?_)
            have mH14:=kH14.1
            have hk:=hk.trans kH14
            have c1:=kH14.cl c1 (by simp)
            have c2:=kH14.cl c2 (by simp)
            have c3:=kH14.cl c3 (by simp)
            have c5:=kH14.cl c5 (by simp)
            refine Zd (v:=.bool true) rfl rfl ?_
            refine Za (v:=.bool true) rfl ?_
            refine Zb ?_
            exact And.intro trivial (Exists.intro _ (And.intro rfl rfl))
          ·have g10:b.wl > b.wh:=of_decide_eq_true g10
           refine Zl rfl (Zd (v:=.bool true) rfl rfl ?_)
           refine Zl rfl (Za (v:=.bool true) rfl ?_)
           refine Zg rfl ?_
           refine Zg rfl ?_
           refine Zg rfl ?_
           refine Zg rfl ?_
           refine Zl rfl (Zd (v:=.bool true) rfl rfl ?_)
           refine Zd (v:=.bool true) rfl rfl ?_
           refine Za (v:=.bool true) rfl ?_
           obtain ⟨H15,fH15,kH15⟩:=YC (kn:=kn) (lo:=lo) (H:=H13) hkn (by omega)
           refine Zl rfl (Zh (vs:=[]) rfl (ZE (hkn 11) fH15) ?_)
           have mH15:=kH15.1
           have hk:=hk.trans kH15
           have c1:=kH15.cl c1 (by simp)
           have c2:=kH15.cl c2 (by simp)
           have c3:=kH15.cl c3 (by simp)
           have c5:=kH15.cl c5 (by simp)
           refine Zd (v:=.bool true) rfl rfl ?_
           refine Za (v:=.bool true) rfl ?_
           refine Zb ?_
           exact And.intro trivial (Exists.intro _ (And.intro rfl rfl))
         ·have g9:b.wl < 0:=of_decide_eq_true g9
          refine Zl rfl (Zd (v:=.bool true) rfl rfl ?_)
          refine Zl rfl (Za (v:=.bool true) rfl ?_)
          refine Zg rfl ?_
          refine Zg rfl ?_
          refine Zg rfl ?_
          refine Zg rfl ?_
          refine Zg rfl ?_
          refine Zg rfl ?_
          refine Zg rfl ?_
          refine Zl rfl (Zd (v:=.bool true) rfl rfl ?_)
          refine Zl rfl (Za (v:=.bool true) rfl ?_)
          refine Zg rfl ?_
          refine Zg rfl ?_
          refine Zg rfl ?_
          refine Zg rfl ?_
          refine Zl rfl (Zd (v:=.bool true) rfl rfl ?_)
          refine Zd (v:=.bool true) rfl rfl ?_
          refine Za (v:=.bool true) rfl ?_
          obtain ⟨H16,fH16,kH16⟩:=YC (kn:=kn) (lo:=lo) (H:=H13) hkn (by omega)
          refine Zl rfl (Zh (vs:=[]) rfl (ZE (hkn 11) fH16) ?_)
          have mH16:=kH16.1
          have hk:=hk.trans kH16
          have c1:=kH16.cl c1 (by simp)
          have c2:=kH16.cl c2 (by simp)
          have c3:=kH16.cl c3 (by simp)
          have c5:=kH16.cl c5 (by simp)
          refine Zd (v:=.bool true) rfl rfl ?_
          refine Za (v:=.bool true) rfl ?_
          refine Zb ?_
          exact And.intro trivial (Exists.intro _ (And.intro rfl rfl))
        ·have g8:e2=1:=by simpa using g8
         refine Zl rfl (Zd (v:=.bool true) rfl rfl ?_)
         refine Zl rfl (Za (v:=.bool true) rfl ?_)
         refine Zg rfl ?_
         refine Zg rfl ?_
         refine Zg rfl ?_
         refine Zg rfl ?_
         refine Zl rfl (Zd (v:=.bool true) rfl rfl ?_)
         refine Zl rfl (Za (v:=.bool true) rfl ?_)
         refine Zg rfl ?_
         refine Zg rfl ?_
         refine Zg rfl ?_
         refine Zg rfl ?_
         refine Zg rfl ?_
         refine Zg rfl ?_
         refine Zg rfl ?_
         refine Zl rfl (Zd (v:=.bool true) rfl rfl ?_)
         refine Zl rfl (Za (v:=.bool true) rfl ?_)
         refine Zg rfl ?_
         refine Zg rfl ?_
         refine Zg rfl ?_
         refine Zg rfl ?_
         refine Zl rfl (Zd (v:=.bool true) rfl rfl ?_)
         refine Zd (v:=.bool true) rfl rfl ?_
         refine Za (v:=.bool true) rfl ?_
         obtain ⟨H17,fH17,kH17⟩:=YC (kn:=kn) (lo:=lo) (H:=H13) hkn (by omega)
         refine Zl rfl (Zh (vs:=[]) rfl (ZE (hkn 11) fH17) ?_)
         have mH17:=kH17.1
         have hk:=hk.trans kH17
         have c1:=kH17.cl c1 (by simp)
         have c2:=kH17.cl c2 (by simp)
         have c3:=kH17.cl c3 (by simp)
         have c5:=kH17.cl c5 (by simp)
         refine Zd (v:=.bool true) rfl rfl ?_
         refine Za (v:=.bool true) rfl ?_
         refine Zb ?_
         exact And.intro trivial (Exists.intro _ (And.intro rfl rfl))
       ·have g7:e≠1:=by simpa using g7
        refine Zl rfl (Za (v:=.bool true) rfl ?_)
        refine Zg rfl ?_
        refine Zg rfl ?_
        refine Zl rfl (Zd (v:=.bool true) rfl rfl ?_)
        refine Zl rfl (Za (v:=.bool true) rfl ?_)
        refine Zg rfl ?_
        refine Zg rfl ?_
        refine Zg rfl ?_
        refine Zg rfl ?_
        refine Zl rfl (Zd (v:=.bool true) rfl rfl ?_)
        refine Zl rfl (Za (v:=.bool true) rfl ?_)
        refine Zg rfl ?_
        refine Zg rfl ?_
        refine Zg rfl ?_
        refine Zg rfl ?_
        refine Zg rfl ?_
        refine Zg rfl ?_
        refine Zg rfl ?_
        refine Zl rfl (Zd (v:=.bool true) rfl rfl ?_)
        refine Zl rfl (Za (v:=.bool true) rfl ?_)
        refine Zg rfl ?_
        refine Zg rfl ?_
        refine Zg rfl ?_
        refine Zg rfl ?_
        refine Zl rfl (Zd (v:=.bool true) rfl rfl ?_)
        refine Zd (v:=.bool true) rfl rfl ?_
        refine Za (v:=.bool true) rfl ?_
        obtain ⟨H18,fH18,kH18⟩:=YC (kn:=kn) (lo:=lo) (H:=H13) hkn (by omega)
        refine Zl rfl (Zh (vs:=[]) rfl (ZE (hkn 11) fH18) ?_)
        have mH18:=kH18.1
        have hk:=hk.trans kH18
        have c1:=kH18.cl c1 (by simp)
        have c2:=kH18.cl c2 (by simp)
        have c3:=kH18.cl c3 (by simp)
        have c5:=kH18.cl c5 (by simp)
        refine Zd (v:=.bool true) rfl rfl ?_
        refine Za (v:=.bool true) rfl ?_
        refine Zb ?_
        exact And.intro trivial (Exists.intro _ (And.intro rfl rfl))
     ·have q5:¬ (e2≠0):=by simpa using q5
      obtain ⟨hva,hst,hlm,hle,hN⟩:=ho0 (by omega);obtain ⟨hva1,hva2⟩:=Vs hva;have hst2:=YW hst;have hNi:=yA (h:=b.th) hva hle;rw [← hN] at hNi
      first | refine Zn ?_ | skip
      refine Zc ?_
      refine Zz (b:=H.next) (o:=0) rfl c1.rd (show row 4 _ _=some [iv a.wl,iv a.wh,iv a.tl,iv a.th] from rfl) ?_
      obtain ⟨H19,fH19,kH19⟩:=Qv (kn:=kn) (lo:=lo) (H:=H13) (f:=a) (by omega);rw [hva] at fH19
      refine Zh (vs:=[.agg (Fw.f a).toArray]) rfl (Zf fH19) ?_
      have mH19:=kH19.1
      have hk:=hk.trans kH19
      have c1:=kH19.cl c1 (by simp)
      have c2:=kH19.cl c2 (by simp)
      have c3:=kH19.cl c3 (by simp)
      have c5:=kH19.cl c5 (by simp)
      refine Zd (v:=.bool false) rfl rfl ?_
      refine Za (v:=.bool false) rfl ?_
      refine Zl rfl (Za (v:=iv N) rfl ?_)
      refine Zl rfl (YP (a:=N) (b:=0) rfl rfl ?_)
      intro t12 g12;cases t12
      ·have g12:¬ (N < 0):=of_decide_eq_false g12
       refine Zd (v:=.bool false) rfl rfl ?_
       refine Za (v:=.bool false) rfl ?_
       refine Zl rfl (Za (v:=iv N) rfl ?_)
       refine Zl rfl (Xe (a:=N) (b:=1073741824) rfl rfl ?_)
       intro t13 g13;cases t13
       ·have g13:¬ (N > 1073741824):=of_decide_eq_false g13
        refine Zd (v:=.bool false) rfl rfl ?_
        refine Zb ?_
        refine Z2 ?_
        first | refine Zn ?_ | skip
        refine Zc ?_
        refine Zk (b:=H.next) (o:=0) rfl ?_
        refine Zz (b:=H.next) (o:=0) rfl c1.rd (show row 2 _ _=some [iv a.wl,iv a.wh] from rfl) ?_
        refine Qs (b:=H2.next) (o:=0) (k:=4) (j:=4) rfl rfl rfl (by decide) ?_
        refine Zv (b:=H2.next) (o:=4) (v:=.int .u32 j4) rfl c3.rd rfl ?_
        obtain ⟨vH20,H20,fH20,bvH20,kH20⟩:=XP (kn:=kn) (lo:=lo) (H:=H19) (l:=a.wl) (h:=a.wh) (j:=j4) hj4 (by omega) (by omega)
        refine Zh (vs:=[.agg #[iv a.wl,iv a.wh],.int .u32 j4]) rfl (Zf fH20) ?_
        have mH20:=kH20.1
        have hk:=hk.trans kH20
        have c1:=kH20.cl c1 (by simp)
        have c2:=kH20.cl c2 (by simp)
        have c3:=kH20.cl c3 (by simp)
        have c5:=kH20.cl c5 (by simp)
        refine Za (v:=iv vH20) rfl ?_
        refine Zb ?_
        refine YI ?_
        refine Zi (v:=iv vH20) rfl ?_
        refine ZD (b:=H.next) (o:=0) rfl ?_
        refine ZH (b:=H.next) (o:=2) rfl c1.rd (show row 2 _ _=some [iv a.tl,iv a.th] from rfl) ?_
        refine Wt (b:=H2.next) (o:=0) (k:=2) (j:=2) rfl rfl rfl (by decide) ?_
        refine YS (b:=H2.next) (o:=2) (v:=.int .u32 j2) rfl c3.rd rfl ?_
        obtain ⟨vH21,H21,fH21,bvH21,kH21⟩:=XP (kn:=kn) (lo:=H20.next) (H:=H20) (l:=a.tl) (h:=a.th) (j:=j2) hj2 (by omega) (Nat.le_refl _)
        refine Yj (vs:=[.agg #[iv a.tl,iv a.th],.int .u32 j2]) rfl rfl (Zf fH21) ?_
        have mH21:=kH21.1
        have hk:=hk.trans kH21
        have c1:=kH21.cl c1 (by simp)
        have c2:=kH21.cl c2 (by simp)
        have c3:=kH21.cl c3 (by simp)
        have c5:=kH21.cl c5 (by simp)
        have hm149:=Yb (x:=vH20) (y:=vH21) (X:=1073741824) (Y:=40000) (by omega) (by omega) (by omega) (by omega)
        refine XF (a:=vH20) (b:=vH21) rfl rfl ⟨by omega,by omega⟩ ?_
        refine Zi (v:=iv N) rfl ?_
        refine ZD (b:=H1.next) (o:=0) rfl ?_
        refine ZH (b:=H1.next) (o:=2) rfl c2.rd (show row 2 _ _=some [iv b.tl,iv b.th] from rfl) ?_
        refine Wt (b:=H2.next) (o:=0) (k:=5) (j:=5) rfl rfl rfl (by decide) ?_
        refine YS (b:=H2.next) (o:=5) (v:=.int .u32 j5) rfl c3.rd rfl ?_
        obtain ⟨vH22,H22,fH22,bvH22,kH22⟩:=XP (kn:=kn) (lo:=lo) (H:=H21) (l:=b.tl) (h:=b.th) (j:=j5) hj5 (by omega) (by omega)
        refine Y2 (vs:=[.agg #[iv b.tl,iv b.th],.int .u32 j5]) rfl (Zf fH22) ?_
        have mH22:=kH22.1
        have hk:=hk.trans kH22
        have c1:=kH22.cl c1 (by simp)
        have c2:=kH22.cl c2 (by simp)
        have c3:=kH22.cl c3 (by simp)
        have c5:=kH22.cl c5 (by simp)
        have hm156:=Yb (x:=N) (y:=vH22) (X:=1073741824) (Y:=40000) (by omega) (by omega) (by omega) (by omega)
        refine XF (a:=N) (b:=vH22) rfl rfl ⟨by omega,by omega⟩ ?_
        refine YY (a:=vH20 * vH21) (b:=N * vH22) rfl rfl ⟨by omega,by omega⟩ ?_
        refine Zi (v:=iv limit) rfl ?_
        refine Zi (v:=iv vH20) rfl ?_
        refine Zi (v:=iv N) rfl ?_
        refine YY (a:=vH20) (b:=N) rfl rfl ⟨by omega,by omega⟩ ?_
        have hm162:=Yb (x:=limit) (y:=vH20+N) (X:=40000) (Y:=2147483648) (by omega) (by omega) (by omega) (by omega)
        have hms:=qk (h:=b.th) (limit:=limit) hva hle (w:=vH20) (s:=vH21) (t:=vH22) bvH20 bvH21.2 bvH22.2;rw [← hN] at hms
        refine XF (a:=limit) (b:=vH20+N) rfl rfl ⟨by omega,by omega⟩ ?_
        refine zx (a:=(vH20 * vH21)+(N * vH22)) (b:=limit * (vH20+N)) rfl rfl ?_
        refine Z5 (by repeat' first | exact True.intro | exact (fun h=>h) | refine And.intro ?_ ?_ | (intro h;have h:(_:Nat)=_:=h;omega)) ?_
        refine And.intro (fun q14=>?_) (fun q14=>?_)
        ·have q14:((vH20 * vH21)+(N * vH22)) > (limit * (vH20+N)):=of_decide_eq_true q14
         refine Zc ?_
         refine Za (v:=.bool false) rfl ?_
         refine Zb ?_
         exact (show False by omega).elim
        ·have q14:¬ (((vH20 * vH21)+(N * vH22)) > (limit * (vH20+N))):=of_decide_eq_false q14
         first | refine Zn ?_ | skip
         refine Zc ?_
         refine Za (v:=iv N) rfl ?_
         refine WH (a:=N) (b:=1073741824) rfl rfl ?_
         refine Zb ?_
         refine And.intro (fun q15=>?_) (fun q15=>?_)
         ·have q15:N=1073741824:=by simpa using q15
          refine Zc ?_
          obtain ⟨H23,fH23,kH23⟩:=YC (kn:=kn) (lo:=lo) (H:=H22) hkn (by omega)
          refine Zh (vs:=[]) rfl (ZE (hkn 11) fH23) ?_
          have mH23:=kH23.1
          have hk:=hk.trans kH23
          have c1:=kH23.cl c1 (by simp)
          have c2:=kH23.cl c2 (by simp)
          have c3:=kH23.cl c3 (by simp)
          have c5:=kH23.cl c5 (by simp)
          refine Za (v:=.bool true) rfl ?_
          refine Zb ?_
          exact And.intro trivial (Exists.intro _ (And.intro rfl rfl))
         ·have q15:¬ (N=1073741824):=by simpa using q15
          first | refine Zn ?_ | skip
          refine Zc ?_
          refine Zk (b:=H.next) (o:=0) rfl ?_
          refine Zk (b:=H.next) (o:=0) rfl ?_
          refine Zv (b:=H.next) (o:=0) (v:=iv a.wl) rfl c1.rd rfl ?_
          refine Zk (b:=H.next) (o:=0) rfl ?_
          refine Zk (b:=H.next) (o:=2) rfl ?_
          refine Zv (b:=H.next) (o:=3) (v:=iv a.th) rfl c1.rd rfl ?_
          have hm173:=Yb (x:=a.wl) (y:=a.th) (X:=1073741824) (Y:=40000) (by omega) (by omega) (by omega) (by omega)
          refine XK (a:=a.wl) (b:=a.th) rfl rfl ⟨by omega,by omega⟩ ?_
          refine Za (v:=iv N) rfl ?_
          refine Zu (a:=N) (b:=1) rfl rfl ⟨by omega,by omega⟩ ?_
          refine Zk (b:=H1.next) (o:=0) rfl ?_
          refine Zk (b:=H1.next) (o:=2) rfl ?_
          refine Zv (b:=H1.next) (o:=3) (v:=iv b.th) rfl c2.rd rfl ?_
          have hm179:=Yb (x:=N+1) (y:=b.th) (X:=1073741825) (Y:=40000) (by omega) (by omega) (by omega) (by omega)
          refine XK (a:=N+1) (b:=b.th) rfl rfl ⟨by omega,by omega⟩ ?_
          refine Zu (a:=a.wl * a.th) (b:=(N+1) * b.th) rfl rfl ⟨by omega,by omega⟩ ?_
          refine Za (v:=iv limit) rfl ?_
          refine Zk (b:=H.next) (o:=0) rfl ?_
          refine Zk (b:=H.next) (o:=0) rfl ?_
          refine Zv (b:=H.next) (o:=0) (v:=iv a.wl) rfl c1.rd rfl ?_
          refine Za (v:=iv N) rfl ?_
          refine Zu (a:=a.wl) (b:=N) rfl rfl ⟨by omega,by omega⟩ ?_
          refine Zu (a:=a.wl+N) (b:=1) rfl rfl ⟨by omega,by omega⟩ ?_
          have hm188:=Yb (x:=limit) (y:=(a.wl+N)+1) (X:=40000) (Y:=2147483649) (by omega) (by omega) (by omega) (by omega)
          have hmr:=qP (h:=b.th) (limit:=limit) hva hle (by omega);rw [← hN] at hmr
          refine XK (a:=limit) (b:=(a.wl+N)+1) rfl rfl ⟨by omega,by omega⟩ ?_
          refine Xe (a:=(a.wl * a.th)+((N+1) * b.th)) (b:=limit * ((a.wl+N)+1)) rfl rfl ?_
          intro t16 g16;cases t16
          ·have g16:¬ (((a.wl * a.th)+((N+1) * b.th)) > (limit * ((a.wl+N)+1))):=of_decide_eq_false g16
           refine Za (v:=.bool false) rfl ?_
           refine Zg rfl ?_
           refine Zd (v:=.bool false) rfl rfl ?_
           refine Za (v:=.bool false) rfl ?_
           refine Zb ?_
           exact (show False by omega).elim
          ·have g16:((a.wl * a.th)+((N+1) * b.th)) > (limit * ((a.wl+N)+1)):=of_decide_eq_true g16
           refine Za (v:=.bool true) rfl ?_
           obtain ⟨H24,fH24,kH24⟩:=YC (kn:=kn) (lo:=lo) (H:=H22) hkn (by omega)
           refine Zl rfl (Zh (vs:=[]) rfl (ZE (hkn 11) fH24) ?_)
           have mH24:=kH24.1
           have hk:=hk.trans kH24
           have c1:=kH24.cl c1 (by simp)
           have c2:=kH24.cl c2 (by simp)
           have c3:=kH24.cl c3 (by simp)
           have c5:=kH24.cl c5 (by simp)
           refine Zd (v:=.bool true) rfl rfl ?_
           refine Za (v:=.bool true) rfl ?_
           refine Zb ?_
           exact And.intro trivial (Exists.intro _ (And.intro rfl rfl))
       ·have g13:N > 1073741824:=of_decide_eq_true g13
        refine Zd (v:=.bool true) rfl rfl ?_
        refine Zb ?_
        refine Ya ?_
        refine Zc ?_
        refine Za (v:=.bool false) rfl ?_
        refine Zb ?_
        exact (show False by omega).elim
      ·have g12:N < 0:=of_decide_eq_true g12
       refine Zd (v:=.bool true) rfl rfl ?_
       refine Za (v:=.bool true) rfl ?_
       refine Zg rfl ?_
       refine Zg rfl ?_
       refine Zd (v:=.bool true) rfl rfl ?_
       refine Zb ?_
       refine Ya ?_
       refine Zc ?_
       refine Za (v:=.bool false) rfl ?_
       refine Zb ?_
       exact (show False by omega).elim
    ·have g4:Tl > Th:=of_decide_eq_true g4
     refine Zd (v:=.bool true) rfl rfl ?_
     refine Zb ?_
     refine Ya ?_
     refine Zc ?_
     refine Za (v:=.bool false) rfl ?_
     refine Zb ?_
     exact (show False by omega).elim
   ·have g3:((vH9 * vH11)+(vH10 * vH12)) > (Th * (vH9+vH10)):=of_decide_eq_true g3
    refine Zd (v:=.bool true) rfl rfl ?_
    refine Za (v:=.bool true) rfl ?_
    refine Zg rfl ?_
    refine Zg rfl ?_
    refine Zg rfl ?_
    refine Zg rfl ?_
    refine Zg rfl ?_
    refine Zd (v:=.bool true) rfl rfl ?_
    refine Zb ?_
    refine Ya ?_
    refine Zc ?_
    refine Za (v:=.bool false) rfl ?_
    refine Zb ?_
    exact (show False by omega).elim
  ·have g2:((vH9 * vH11)+(vH10 * vH12)) < (Tl * (vH9+vH10)):=of_decide_eq_true g2
   refine Za (v:=.bool true) rfl ?_
   refine Zg rfl ?_
   refine Zg rfl ?_
   refine Zg rfl ?_
   refine Zg rfl ?_
   refine Zg rfl ?_
   refine Zg rfl ?_
   refine Zg rfl ?_
   refine Zg rfl ?_
   refine Zd (v:=.bool true) rfl rfl ?_
   refine Za (v:=.bool true) rfl ?_
   refine Zg rfl ?_
   refine Zg rfl ?_
   refine Zg rfl ?_
   refine Zg rfl ?_
   refine Zg rfl ?_
   refine Zd (v:=.bool true) rfl rfl ?_
   refine Zb ?_
   refine Ya ?_
   refine Zc ?_
   refine Za (v:=.bool false) rfl ?_
   refine Zb ?_
   exact (show False by omega).elim
 ·have q1:¬ (e=0):=by simpa using q1
  first | refine Zn ?_ | skip
  refine Zc ?_
  refine Zz (b:=H.next) (o:=0) rfl c1.rd (show row 4 _ _=some [iv a.wl,iv a.wh,iv a.tl,iv a.th] from rfl) ?_
  refine Zk (b:=H1.next) (o:=0) rfl ?_
  refine Zz (b:=H1.next) (o:=2) rfl c2.rd (show row 2 _ _=some [iv b.tl,iv b.th] from rfl) ?_
  refine Za (v:=iv limit) rfl ?_
  obtain ⟨H25,fH25,kH25⟩:=KD (kn:=kn) (lo:=lo) (H:=H6) (a:=a) (l:=b.tl) (h:=b.th) (limit:=limit) (by omega)
  obtain ⟨N,e2,hmo⟩:∃ N e2,moT a b.tl b.th limit=(N,e2):=⟨_,_,rfl⟩;obtain ⟨ho0,ho1⟩:=jT hmo;have hnm:=jI hmx hmo;rw [hmo] at fH25
  refine Zh (vs:=[.agg (Fw.f a).toArray,.agg #[iv b.tl,iv b.th],iv limit]) rfl (Zf fH25) ?_
  have mH25:=kH25.1
  have hk:=hk.trans kH25
  have c1:=kH25.cl c1 (by simp)
  have c2:=kH25.cl c2 (by simp)
  have c3:=kH25.cl c3 (by simp)
  have c5:=kH25.cl c5 (by simp)
  refine Za (v:=.tuple #[iv N,iv e2]) rfl ?_
  refine Zd (v:=iv N) rfl (by kernel_rfl) ?_
  refine Zd (v:=iv e2) rfl (by kernel_rfl) ?_
  refine Za (v:=iv N) rfl ?_
  refine Za (v:=iv e2) rfl ?_
  refine Zb ?_
  refine Zc ?_
  refine Za (v:=iv e2) rfl ?_
  refine Vk (a:=e2) (b:=0) rfl rfl ?_
  refine Zb ?_
  refine And.intro (fun q17=>?_) (fun q17=>?_)
  ·have q17:e2≠0:=by simpa using q17
   obtain ⟨hN0,_⟩:=ho1 (by omega)
   refine Zc ?_
   refine Za (v:=iv N) rfl ?_
   refine Wh (a:=N) (b:=0) rfl rfl ?_
   intro t18 g18;cases t18
   ·have g18:¬ (N=0):=by simpa using g18
    refine Za (v:=.bool false) rfl ?_
    refine Zg rfl ?_
    refine Zg rfl ?_
    refine Zg rfl ?_
    refine Yq rfl ?_
    refine Yq rfl ?_
    refine Zg rfl ?_
    refine Zg rfl ?_
    refine Yq rfl ?_
    refine Yq rfl ?_
    refine Yq rfl ?_
    refine Yq rfl ?_
    refine Zg rfl ?_
    refine Zg rfl ?_
    refine Yq rfl ?_
    refine Yq rfl ?_
    refine Yq rfl ?_
    refine Yq rfl ?_
    refine Yq rfl ?_
    refine Yq rfl ?_
    refine Yq rfl ?_
    refine Zg rfl ?_
    refine Zg rfl ?_
    refine Yq rfl ?_
    refine Yq rfl ?_
    refine Yq rfl ?_
    refine Yq rfl ?_
    refine Zg rfl ?_
    refine Zd (v:=.bool false) rfl rfl ?_
    refine Za (v:=.bool false) rfl ?_
    refine Zg rfl ?_
    refine Zd (v:=.bool false) rfl rfl ?_
    refine Za (v:=.bool false) rfl ?_
    refine Zb ?_
    exact (show False by omega).elim
   ·have g18:N=0:=by simpa using g18
    refine Za (v:=.bool true) rfl ?_
    refine Zl rfl (Za (v:=iv e) rfl ?_)
    refine Zl rfl (zu (a:=e) (b:=1) rfl rfl ?_)
    intro t19 g19;cases t19
    ·have g19:¬ (e≠1):=by simpa using g19
     refine Zl rfl (Za (v:=.bool false) rfl ?_)
     refine Zl rfl (Za (v:=iv e2) rfl ?_)
     refine Zl rfl (Wh (a:=e2) (b:=1) rfl rfl ?_)
     intro t20 g20;cases t20
     ·have g20:¬ (e2=1):=by simpa using g20
      refine Zl rfl (Zd (v:=.bool false) rfl rfl ?_)
      refine Zl rfl (Za (v:=.bool false) rfl ?_)
      refine Zl rfl (Zk (b:=H1.next) (o:=0) rfl ?_)
      refine Zl rfl (Zk (b:=H1.next) (o:=0) rfl ?_)
      refine Zl rfl (Zv (b:=H1.next) (o:=0) (v:=iv b.wl) rfl c2.rd rfl ?_)
      refine Zl rfl (YP (a:=b.wl) (b:=0) rfl rfl ?_)
      intro t21 g21;cases t21
      ·have g21:¬ (b.wl < 0):=of_decide_eq_false g21
       refine Zl rfl (Zd (v:=.bool false) rfl rfl ?_)
       refine Zl rfl (Za (v:=.bool false) rfl ?_)
       refine Zl rfl (Zk (b:=H1.next) (o:=0) rfl ?_)
       refine Zl rfl (Zk (b:=H1.next) (o:=0) rfl ?_)
       refine Zl rfl (Zv (b:=H1.next) (o:=0) (v:=iv b.wl) rfl c2.rd rfl ?_)
       refine Zl rfl (Zk (b:=H1.next) (o:=0) rfl ?_)
       refine Zl rfl (Zk (b:=H1.next) (o:=0) rfl ?_)
       refine Zl rfl (Zv (b:=H1.next) (o:=1) (v:=iv b.wh) rfl c2.rd rfl ?_)
       refine Zl rfl (Xe (a:=b.wl) (b:=b.wh) rfl rfl ?_)
       intro t22 g22;cases t22
       ·have g22:¬ (b.wl > b.wh):=of_decide_eq_false g22
        refine Zl rfl (Zd (v:=.bool false) rfl rfl ?_)
        refine Zl rfl (Za (v:=.bool false) rfl ?_)
        refine Zl rfl (Zk (b:=H1.next) (o:=0) rfl ?_)
        refine Zl rfl (Zk (b:=H1.next) (o:=0) rfl ?_)
        refine Zl rfl (Zv (b:=H1.next) (o:=1) (v:=iv b.wh) rfl c2.rd rfl ?_)
        refine Zl rfl (Xe (a:=b.wh) (b:=1073741824) rfl rfl ?_)
        intro t23 g23;cases t23
        ·have g23:¬ (b.wh > 1073741824):=of_decide_eq_false g23
         refine Zl rfl (Zd (v:=.bool false) rfl rfl ?_)
         refine Zd (v:=.bool false) rfl rfl ?_
         refine Za (v:=.bool false) rfl ?_
         refine Zg rfl ?_
         refine Zd (v:=.bool false) rfl rfl ?_
         refine Za (v:=.bool false) rfl ?_
         refine Zb ?_
         exact (show False by omega).elim
        ·have g23:b.wh > 1073741824:=of_decide_eq_true g23
         refine Zl rfl (Zd (v:=.bool true) rfl rfl ?_)
         refine Zd (v:=.bool true) rfl rfl ?_
         refine Za (v:=.bool true) rfl ?_
         obtain ⟨H26,fH26,kH26⟩:=YC (kn:=kn) (lo:=lo) (H:=H25) hkn (by omega)
         refine Zl rfl (Zh (vs:=[]) rfl (ZE (hkn 11) fH26) ?_)
         have mH26:=kH26.1
         have hk:=hk.trans kH26
         have c1:=kH26.cl c1 (by simp)
         have c2:=kH26.cl c2 (by simp)
         have c3:=kH26.cl c3 (by simp)
         have c5:=kH26.cl c5 (by simp)
         refine Zd (v:=.bool true) rfl rfl ?_
         refine Za (v:=.bool true) rfl ?_
         refine Zb ?_
         exact And.intro trivial (Exists.intro _ (And.intro rfl rfl))
       ·have g22:b.wl > b.wh:=of_decide_eq_true g22
        refine Zl rfl (Zd (v:=.bool true) rfl rfl ?_)
        refine Zl rfl (Za (v:=.bool true) rfl ?_)
        refine Zg rfl ?_
        refine Zg rfl ?_
        refine Zg rfl ?_
        refine Zg rfl ?_
        refine Zl rfl (Zd (v:=.bool true) rfl rfl ?_)
        refine Zd (v:=.bool true) rfl rfl ?_
        refine Za (v:=.bool true) rfl ?_
        obtain ⟨H27,fH27,kH27⟩:=YC (kn:=kn) (lo:=lo) (H:=H25) hkn (by omega)
        refine Zl rfl (Zh (vs:=[]) rfl (ZE (hkn 11) fH27) ?_)
        have mH27:=kH27.1
        have hk:=hk.trans kH27
        have c1:=kH27.cl c1 (by simp)
        have c2:=kH27.cl c2 (by simp)
        have c3:=kH27.cl c3 (by simp)
        have c5:=kH27.cl c5 (by simp)
        refine Zd (v:=.bool true) rfl rfl ?_
        refine Za (v:=.bool true) rfl ?_
        refine Zb ?_
        exact And.intro trivial (Exists.intro _ (And.intro rfl rfl))
      ·have g21:b.wl < 0:=of_decide_eq_true g21
       refine Zl rfl (Zd (v:=.bool true) rfl rfl ?_)
       refine Zl rfl (Za (v:=.bool true) rfl ?_)
       refine Zg rfl ?_
       refine Zg rfl ?_
       refine Zg rfl ?_
       refine Zg rfl ?_
       refine Zg rfl ?_
       refine Zg rfl ?_
       refine Zg rfl ?_
       refine Zl rfl (Zd (v:=.bool true) rfl rfl ?_)
       refine Zl rfl (Za (v:=.bool true) rfl ?_)
       refine Zg rfl ?_
       refine Zg rfl ?_
       refine Zg rfl ?_
       refine Zg rfl ?_
       refine Zl rfl (Zd (v:=.bool true) rfl rfl ?_)
       refine Zd (v:=.bool true) rfl rfl ?_
       refine Za (v:=.bool true) rfl ?_
       obtain ⟨H28,fH28,kH28⟩:=YC (kn:=kn) (lo:=lo) (H:=H25) hkn (by omega)
       refine Zl rfl (Zh (vs:=[]) rfl (ZE (hkn 11) fH28) ?_)
       have mH28:=kH28.1
       have hk:=hk.trans kH28
       have c1:=kH28.cl c1 (by simp)
       have c2:=kH28.cl c2 (by simp)
       have c3:=kH28.cl c3 (by simp)
       have c5:=kH28.cl c5 (by simp)
       refine Zd (v:=.bool true) rfl rfl ?_
       refine Za (v:=.bool true) rfl ?_
       refine Zb ?_
       exact And.intro trivial (Exists.intro _ (And.intro rfl rfl))
     ·have g20:e2=1:=by simpa using g20
      refine Zl rfl (Zd (v:=.bool true) rfl rfl ?_)
      refine Zl rfl (Za (v:=.bool true) rfl ?_)
      refine Zg rfl ?_
      refine Zg rfl ?_
      refine Zg rfl ?_
      refine Zg rfl ?_
      refine Zl rfl (Zd (v:=.bool true) rfl rfl ?_)
      refine Zl rfl (Za (v:=.bool true) rfl ?_)
      refine Zg rfl ?_
      refine Zg rfl ?_
      refine Zg rfl ?_
      refine Zg rfl ?_
      refine Zg rfl ?_
      refine Zg rfl ?_
      refine Zg rfl ?_
      refine Zl rfl (Zd (v:=.bool true) rfl rfl ?_)
      refine Zl rfl (Za (v:=.bool true) rfl ?_)
      refine Zg rfl ?_
      refine Zg rfl ?_
      refine Zg rfl ?_
      refine Zg rfl ?_
      refine Zl rfl (Zd (v:=.bool true) rfl rfl ?_)
      refine Zd (v:=.bool true) rfl rfl ?_
      refine Za (v:=.bool true) rfl ?_
      obtain ⟨H29,fH29,kH29⟩:=YC (kn:=kn) (lo:=lo) (H:=H25) hkn (by omega)
      refine Zl rfl (Zh (vs:=[]) rfl (ZE (hkn 11) fH29) ?_)
      have mH29:=kH29.1
      have hk:=hk.trans kH29
      have c1:=kH29.cl c1 (by simp)
      have c2:=kH29.cl c2 (by simp)
      have c3:=kH29.cl c3 (by simp)
      have c5:=kH29.cl c5 (by simp)
      refine Zd (v:=.bool true) rfl rfl ?_
      refine Za (v:=.bool true) rfl ?_
      refine Zb ?_
      exact And.intro trivial (Exists.intro _ (And.intro rfl rfl))
    ·have g19:e≠1:=by simpa using g19
     refine Zl rfl (Za (v:=.bool true) rfl ?_)
     refine Zg rfl ?_
     refine Zg rfl ?_
     refine Zl rfl (Zd (v:=.bool true) rfl rfl ?_)
     refine Zl rfl (Za (v:=.bool true) rfl ?_)
     refine Zg rfl ?_
     refine Zg rfl ?_
     refine Zg rfl ?_
     refine Zg rfl ?_
     refine Zl rfl (Zd (v:=.bool true) rfl rfl ?_)
     refine Zl rfl (Za (v:=.bool true) rfl ?_)
     refine Zg rfl ?_
     refine Zg rfl ?_
     refine Zg rfl ?_
     refine Zg rfl ?_
     refine Zg rfl ?_
     refine Zg rfl ?_
     refine Zg rfl ?_
     refine Zl rfl (Zd (v:=.bool true) rfl rfl ?_)
     refine Zl rfl (Za (v:=.bool true) rfl ?_)
     refine Zg rfl ?_
     refine Zg rfl ?_
     refine Zg rfl ?_
     refine Zg rfl ?_
     refine Zl rfl (Zd (v:=.bool true) rfl rfl ?_)
     refine Zd (v:=.bool true) rfl rfl ?_
     refine Za (v:=.bool true) rfl ?_
     obtain ⟨H30,fH30,kH30⟩:=YC (kn:=kn) (lo:=lo) (H:=H25) hkn (by omega)
     refine Zl rfl (Zh (vs:=[]) rfl (ZE (hkn 11) fH30) ?_)
     have mH30:=kH30.1
     have hk:=hk.trans kH30
     have c1:=kH30.cl c1 (by simp)
     have c2:=kH30.cl c2 (by simp)
     have c3:=kH30.cl c3 (by simp)
     have c5:=kH30.cl c5 (by simp)
     refine Zd (v:=.bool true) rfl rfl ?_
     refine Za (v:=.bool true) rfl ?_
     refine Zb ?_
     exact And.intro trivial (Exists.intro _ (And.intro rfl rfl))
  ·have q17:¬ (e2≠0):=by simpa using q17
   obtain ⟨hva,hst,hlm,hle,hN⟩:=ho0 (by omega);obtain ⟨hva1,hva2⟩:=Vs hva;have hst2:=YW hst;have hNi:=yA (h:=b.th) hva hle;rw [← hN] at hNi
   first | refine Zn ?_ | skip
   refine Zc ?_
   refine Zz (b:=H.next) (o:=0) rfl c1.rd (show row 4 _ _=some [iv a.wl,iv a.wh,iv a.tl,iv a.th] from rfl) ?_
   obtain ⟨H31,fH31,kH31⟩:=Qv (kn:=kn) (lo:=lo) (H:=H25) (f:=a) (by omega);rw [hva] at fH31
   refine Zh (vs:=[.agg (Fw.f a).toArray]) rfl (Zf fH31) ?_
   have mH31:=kH31.1
   have hk:=hk.trans kH31
   have c1:=kH31.cl c1 (by simp)
   have c2:=kH31.cl c2 (by simp)
   have c3:=kH31.cl c3 (by simp)
   have c5:=kH31.cl c5 (by simp)
   refine Zd (v:=.bool false) rfl rfl ?_
   refine Za (v:=.bool false) rfl ?_
   refine Zl rfl (Za (v:=iv N) rfl ?_)
   refine Zl rfl (YP (a:=N) (b:=0) rfl rfl ?_)
   intro t24 g24;cases t24
   ·have g24:¬ (N < 0):=of_decide_eq_false g24
    refine Zd (v:=.bool false) rfl rfl ?_
    refine Za (v:=.bool false) rfl ?_
    refine Zl rfl (Za (v:=iv N) rfl ?_)
    refine Zl rfl (Xe (a:=N) (b:=1073741824) rfl rfl ?_)
    intro t25 g25;cases t25
    ·have g25:¬ (N > 1073741824):=of_decide_eq_false g25
     refine Zd (v:=.bool false) rfl rfl ?_
     refine Zb ?_
     refine Z2 ?_
     first | refine Zn ?_ | skip
     refine Zc ?_
     refine Zk (b:=H.next) (o:=0) rfl ?_
     refine Zz (b:=H.next) (o:=0) rfl c1.rd (show row 2 _ _=some [iv a.wl,iv a.wh] from rfl) ?_
     refine Qs (b:=H2.next) (o:=0) (k:=4) (j:=4) rfl rfl rfl (by decide) ?_
     refine Zv (b:=H2.next) (o:=4) (v:=.int .u32 j4) rfl c3.rd rfl ?_
     obtain ⟨vH32,H32,fH32,bvH32,kH32⟩:=XP (kn:=kn) (lo:=lo) (H:=H31) (l:=a.wl) (h:=a.wh) (j:=j4) hj4 (by omega) (by omega)
     refine Zh (vs:=[.agg #[iv a.wl,iv a.wh],.int .u32 j4]) rfl (Zf fH32) ?_
     have mH32:=kH32.1
     have hk:=hk.trans kH32
     have c1:=kH32.cl c1 (by simp)
     have c2:=kH32.cl c2 (by simp)
     have c3:=kH32.cl c3 (by simp)
     have c5:=kH32.cl c5 (by simp)
     refine Za (v:=iv vH32) rfl ?_
     refine Zb ?_
     refine YI ?_
     refine Zi (v:=iv vH32) rfl ?_
     refine ZD (b:=H.next) (o:=0) rfl ?_
     refine ZH (b:=H.next) (o:=2) rfl c1.rd (show row 2 _ _=some [iv a.tl,iv a.th] from rfl) ?_
     refine Wt (b:=H2.next) (o:=0) (k:=2) (j:=2) rfl rfl rfl (by decide) ?_
     refine YS (b:=H2.next) (o:=2) (v:=.int .u32 j2) rfl c3.rd rfl ?_
     obtain ⟨vH33,H33,fH33,bvH33,kH33⟩:=XP (kn:=kn) (lo:=H32.next) (H:=H32) (l:=a.tl) (h:=a.th) (j:=j2) hj2 (by omega) (Nat.le_refl _)
     refine Yj (vs:=[.agg #[iv a.tl,iv a.th],.int .u32 j2]) rfl rfl (Zf fH33) ?_
     have mH33:=kH33.1
     have hk:=hk.trans kH33
     have c1:=kH33.cl c1 (by simp)
     have c2:=kH33.cl c2 (by simp)
     have c3:=kH33.cl c3 (by simp)
     have c5:=kH33.cl c5 (by simp)
     have hm149:=Yb (x:=vH32) (y:=vH33) (X:=1073741824) (Y:=40000) (by omega) (by omega) (by omega) (by omega)
     refine XF (a:=vH32) (b:=vH33) rfl rfl ⟨by omega,by omega⟩ ?_
     refine Zi (v:=iv N) rfl ?_
     refine ZD (b:=H1.next) (o:=0) rfl ?_
     refine ZH (b:=H1.next) (o:=2) rfl c2.rd (show row 2 _ _=some [iv b.tl,iv b.th] from rfl) ?_
     refine Wt (b:=H2.next) (o:=0) (k:=5) (j:=5) rfl rfl rfl (by decide) ?_
     refine YS (b:=H2.next) (o:=5) (v:=.int .u32 j5) rfl c3.rd rfl ?_
     obtain ⟨vH34,H34,fH34,bvH34,kH34⟩:=XP (kn:=kn) (lo:=lo) (H:=H33) (l:=b.tl) (h:=b.th) (j:=j5) hj5 (by omega) (by omega)
     refine Y2 (vs:=[.agg #[iv b.tl,iv b.th],.int .u32 j5]) rfl (Zf fH34) ?_
     have mH34:=kH34.1
     have hk:=hk.trans kH34
     have c1:=kH34.cl c1 (by simp)
     have c2:=kH34.cl c2 (by simp)
     have c3:=kH34.cl c3 (by simp)
     have c5:=kH34.cl c5 (by simp)
     have hm156:=Yb (x:=N) (y:=vH34) (X:=1073741824) (Y:=40000) (by omega) (by omega) (by omega) (by omega)
     refine XF (a:=N) (b:=vH34) rfl rfl ⟨by omega,by omega⟩ ?_
     refine YY (a:=vH32 * vH33) (b:=N * vH34) rfl rfl ⟨by omega,by omega⟩ ?_
     refine Zi (v:=iv limit) rfl ?_
     refine Zi (v:=iv vH32) rfl ?_
     refine Zi (v:=iv N) rfl ?_
     refine YY (a:=vH32) (b:=N) rfl rfl ⟨by omega,by omega⟩ ?_
     have hm162:=Yb (x:=limit) (y:=vH32+N) (X:=40000) (Y:=2147483648) (by omega) (by omega) (by omega) (by omega)
     have hms:=qk (h:=b.th) (limit:=limit) hva hle (w:=vH32) (s:=vH33) (t:=vH34) bvH32 bvH33.2 bvH34.2;rw [← hN] at hms
     refine XF (a:=limit) (b:=vH32+N) rfl rfl ⟨by omega,by omega⟩ ?_
     refine zx (a:=(vH32 * vH33)+(N * vH34)) (b:=limit * (vH32+N)) rfl rfl ?_
     refine Z5 (by repeat' first | exact True.intro | exact (fun h=>h) | refine And.intro ?_ ?_ | (intro h;have h:(_:Nat)=_:=h;omega)) ?_
     refine And.intro (fun q26=>?_) (fun q26=>?_)
     ·have q26:((vH32 * vH33)+(N * vH34)) > (limit * (vH32+N)):=of_decide_eq_true q26
      refine Zc ?_
      refine Za (v:=.bool false) rfl ?_
      refine Zb ?_
      exact (show False by omega).elim
     ·have q26:¬ (((vH32 * vH33)+(N * vH34)) > (limit * (vH32+N))):=of_decide_eq_false q26
      first | refine Zn ?_ | skip
      refine Zc ?_
      refine Za (v:=iv N) rfl ?_
      refine WH (a:=N) (b:=1073741824) rfl rfl ?_
      refine Zb ?_
      refine And.intro (fun q27=>?_) (fun q27=>?_)
      ·have q27:N=1073741824:=by simpa using q27
       refine Zc ?_
       obtain ⟨H35,fH35,kH35⟩:=YC (kn:=kn) (lo:=lo) (H:=H34) hkn (by omega)
       refine Zh (vs:=[]) rfl (ZE (hkn 11) fH35) ?_
       have mH35:=kH35.1
       have hk:=hk.trans kH35
       have c1:=kH35.cl c1 (by simp)
       have c2:=kH35.cl c2 (by simp)
       have c3:=kH35.cl c3 (by simp)
       have c5:=kH35.cl c5 (by simp)
       refine Za (v:=.bool true) rfl ?_
       refine Zb ?_
       exact And.intro trivial (Exists.intro _ (And.intro rfl rfl))
      ·have q27:¬ (N=1073741824):=by simpa using q27
       first | refine Zn ?_ | skip
       refine Zc ?_
       refine Zk (b:=H.next) (o:=0) rfl ?_
       refine Zk (b:=H.next) (o:=0) rfl ?_
       refine Zv (b:=H.next) (o:=0) (v:=iv a.wl) rfl c1.rd rfl ?_
       refine Zk (b:=H.next) (o:=0) rfl ?_
       refine Zk (b:=H.next) (o:=2) rfl ?_
       refine Zv (b:=H.next) (o:=3) (v:=iv a.th) rfl c1.rd rfl ?_
       have hm173:=Yb (x:=a.wl) (y:=a.th) (X:=1073741824) (Y:=40000) (by omega) (by omega) (by omega) (by omega)
       refine XK (a:=a.wl) (b:=a.th) rfl rfl ⟨by omega,by omega⟩ ?_
       refine Za (v:=iv N) rfl ?_
       refine Zu (a:=N) (b:=1) rfl rfl ⟨by omega,by omega⟩ ?_
       refine Zk (b:=H1.next) (o:=0) rfl ?_
       refine Zk (b:=H1.next) (o:=2) rfl ?_
       refine Zv (b:=H1.next) (o:=3) (v:=iv b.th) rfl c2.rd rfl ?_
       have hm179:=Yb (x:=N+1) (y:=b.th) (X:=1073741825) (Y:=40000) (by omega) (by omega) (by omega) (by omega)
       refine XK (a:=N+1) (b:=b.th) rfl rfl ⟨by omega,by omega⟩ ?_
       refine Zu (a:=a.wl * a.th) (b:=(N+1) * b.th) rfl rfl ⟨by omega,by omega⟩ ?_
       refine Za (v:=iv limit) rfl ?_
       refine Zk (b:=H.next) (o:=0) rfl ?_
       refine Zk (b:=H.next) (o:=0) rfl ?_
       refine Zv (b:=H.next) (o:=0) (v:=iv a.wl) rfl c1.rd rfl ?_
       refine Za (v:=iv N) rfl ?_
       refine Zu (a:=a.wl) (b:=N) rfl rfl ⟨by omega,by omega⟩ ?_
       refine Zu (a:=a.wl+N) (b:=1) rfl rfl ⟨by omega,by omega⟩ ?_
       have hm188:=Yb (x:=limit) (y:=(a.wl+N)+1) (X:=40000) (Y:=2147483649) (by omega) (by omega) (by omega) (by omega)
       have hmr:=qP (h:=b.th) (limit:=limit) hva hle (by omega);rw [← hN] at hmr
       refine XK (a:=limit) (b:=(a.wl+N)+1) rfl rfl ⟨by omega,by omega⟩ ?_
       refine Xe (a:=(a.wl * a.th)+((N+1) * b.th)) (b:=limit * ((a.wl+N)+1)) rfl rfl ?_
       intro t28 g28;cases t28
       ·have g28:¬ (((a.wl * a.th)+((N+1) * b.th)) > (limit * ((a.wl+N)+1))):=of_decide_eq_false g28
        refine Za (v:=.bool false) rfl ?_
        refine Zg rfl ?_
        refine Zd (v:=.bool false) rfl rfl ?_
        refine Za (v:=.bool false) rfl ?_
        refine Zb ?_
        exact (show False by omega).elim
       ·have g28:((a.wl * a.th)+((N+1) * b.th)) > (limit * ((a.wl+N)+1)):=of_decide_eq_true g28
        refine Za (v:=.bool true) rfl ?_
        obtain ⟨H36,fH36,kH36⟩:=YC (kn:=kn) (lo:=lo) (H:=H34) hkn (by omega)
        refine Zl rfl (Zh (vs:=[]) rfl (ZE (hkn 11) fH36) ?_)
        have mH36:=kH36.1
        have hk:=hk.trans kH36
        have c1:=kH36.cl c1 (by simp)
        have c2:=kH36.cl c2 (by simp)
        have c3:=kH36.cl c3 (by simp)
        have c5:=kH36.cl c5 (by simp)
        refine Zd (v:=.bool true) rfl rfl ?_
        refine Za (v:=.bool true) rfl ?_
        refine Zb ?_
        exact And.intro trivial (Exists.intro _ (And.intro rfl rfl))
    ·have g25:N > 1073741824:=of_decide_eq_true g25
     refine Zd (v:=.bool true) rfl rfl ?_
     refine Zb ?_
     refine Ya ?_
     refine Zc ?_
     refine Za (v:=.bool false) rfl ?_
     refine Zb ?_
     exact (show False by omega).elim
   ·have g24:N < 0:=of_decide_eq_true g24
    refine Zd (v:=.bool true) rfl rfl ?_
    refine Za (v:=.bool true) rfl ?_
    refine Zg rfl ?_
    refine Zg rfl ?_
    refine Zd (v:=.bool true) rfl rfl ?_
    refine Zb ?_
    refine Ya ?_
    refine Zc ?_
    refine Za (v:=.bool false) rfl ?_
    refine Zb ?_
    exact (show False by omega).elim
end
end Go.Ax

namespace Go.Ax
open Go Go.RowKit Go.Proofs Go.ChangeShapes Go.WideShapes Go.Deep

def K2 (P:Program) (t:TypeId):Prop:=∀ (H:Type) (enc:TypeId × Value→H) (w:World) (base:Nat) (spare:Nat→Bool) (held:Bool) (fuel:Nat) (cs:List Value) (x:DataW H × List MemPlace),
 DataW.trod enc P w base spare held fuel t cs=some x→cs.length=P.cellsOf t∧∀ j,j < cs.length→∃ n,cs[j]? = some (.int .i64 n)
theorem K2.int {P:Program} {t:TypeId} (ht:P.underlying t=some (.int .i64)) (hc:P.cellsOf t=1):K2 P t:=by
 intro H enc w base spare held fuel cs x h
 obtain ⟨n,rfl,_⟩:=DataW.trod_int ht h
 refine ⟨by rw [hc];rfl,fun j hj=>⟨n,?_⟩⟩
 have:j=0:=by simp at hj;omega
 subst this;rfl
theorem K2.struct {P:Program} {t:TypeId} {fs:Array Field} (ht:P.underlying t=some (.struct fs)) (hf:∀ f∈fs.toList,K2 P f.type)
  (hcov:((List.range (P.cellsOf t)).all fun j=>fs.toList.any fun f=>decide (f.offset≤j) && decide (j < f.offset+P.cellsOf f.type))=true):K2 P t:=by
 intro H enc w base spare held fuel cs x h
 obtain ⟨xs,n,_,_,hlen,hxl,hg⟩:=DataW.trod_struct ht h
 refine ⟨hlen,fun j hj=>?_⟩
 have h1:=List.all_eq_true.1 hcov j (List.mem_range.2 (by omega))
 obtain ⟨f,hfm,h2⟩:=List.any_eq_true.1 h1
 simp only [Bool.and_eq_true,decide_eq_true_eq] at h2
 obtain ⟨i,hi,hfi⟩:=List.getElem_of_mem hfm
 have hfs:fs[i]? = some f:=by
  rw [← Array.getElem?_toList,List.getElem?_eq_getElem hi,hfi]
 have hi2:i < xs.length:=by simpa [hxl] using hi
 have h3:=hg i f hfs
 rw [List.getElem?_eq_getElem hi2] at h3
 obtain ⟨h4,h5⟩:=hf f hfm _ _ _ _ _ _ _ _ _ h3
 obtain ⟨m,hm⟩:=h5 (j - f.offset) (by omega)
 refine ⟨m,?_⟩
 rw [List.getElem?_take] at hm
 split at hm
 ·rw [List.getElem?_drop,show f.offset+(j - f.offset)=j by omega] at hm;exact hm
 ·cases hm

structure j7 {α:Type} (w:World) (v:Value) (f:α→List Value) (l:List α) (x:Imp):Prop where
 ok:∀ (i:Nat) u,x.cs[i]? = some u→w.cell? ⟨x.blk,x.off+i,none⟩=some u∧YQ u=true
 cs:x.cs=l.flatMap f
 v:(v=.slice none 0 0∧l=[])∨∃ cap,v=.slice (some ⟨x.blk,x.off,none⟩) l.length cap∧l.length≤cap
theorem j7.rel {α:Type} {w:World} {v:Value} {f:α→List Value} {l:List α} {x:Imp} (g:j7 w v f l x) {r:Ren} {H:Hp} {b:Nat} (hr:r b=some ⟨x.blk,x.off,none⟩) (hb:b < H.next) (hc:cellsOf H b=some x.cs) (hro:H.t.get b=some (.ro x.cs)) :
  ∃ a cap,VR r (.slice a l.length cap) v∧Sl H a l.length cap (l.flatMap f)∧∀ b,a=some ⟨b,0,none⟩→H.t.get b=some (.ro (l.flatMap f)):=by
 rcases g.v with ⟨rfl,rfl⟩ | ⟨cap,rfl,hl⟩
 ·exact ⟨none,0,.nilSlice,.inl ⟨.inl rfl,rfl,rfl,rfl⟩,fun b e=>by cases e⟩
 ·refine ⟨some ⟨b,0,none⟩,cap,?_,.inr ⟨b,rfl,⟨hb,by rw [hc,g.cs]⟩,hl⟩,fun b' e=>by cases e;rw [hro,g.cs]⟩
  have:=VR.slice (o:=0) (n:=l.length) (c:=cap) hr rfl hl
  simpa using this
end Go.Ax

/-! Slices of rows of plain cells,as_ arguments. -/
namespace Go.Ax
open Go Go.RowKit Go.Proofs Go.ChangeShapes Go.WideShapes Go.Deep

theorem K2.row {α:Type} {P:Program} {t:TypeId} {k:Nat} {f:α→List Value} {mk:(Nat→Int)→α} (h:K2 P t) (hc:P.cellsOf t=k) (hmk:∀ N:Nat→Int,f (mk N)=(List.range k).map fun j=>Value.int .i64 (N j))
  {H:Type} {enc:TypeId × Value→H} {w:World} {base:Nat} {spare:Nat→Bool} {held:Bool} (fuel:Nat) (cs:List Value) (x:DataW H × List MemPlace) (hx:DataW.trod enc P w base spare held fuel t cs=some x):∃ y:α,cs=f y∧True:=by
 obtain ⟨h1,h2⟩:=h _ _ _ _ _ _ _ _ _ hx
 have:∃ N:Nat→Int,∀ j,j < cs.length→cs[j]? = some (.int .i64 (N j)):=by
  refine ⟨fun j=>match cs[j]? with | some (.int _ n)=>n | _=>0,fun j hj=>?_⟩
  obtain ⟨n,hn⟩:=h2 j hj
  simp [hn]
 obtain ⟨N,hN⟩:=this
 refine ⟨mk N,?_,trivial⟩
 rw [hmk]
 apply List.ext_getElem?
 intro j
 by_cases hj:j < k
 ·rw [hN j (by omega),List.getElem?_map,List.getElem?_range hj];rfl
 ·rw [List.getElem?_eq_none (by omega),List.getElem?_eq_none (by simp;omega)]
end Go.Ax

/-! Arguments that point to what points: inner slices,rows of slices. -/
namespace Go.Ax
open Go Go.RowKit Go.Proofs Go.ChangeShapes Go.WideShapes Go.Deep

def z6 (imps:List Imp):Ren:=fun b=>(imps[b]?).map fun x=>⟨x.blk,x.off,none⟩
theorem Zbd {P:Program} (imps outs:List Imp) (w:World) (h:∀ x∈imps,∀ (i:Nat) v,x.cs[i]? = some v→w.cell? ⟨x.blk,x.off+i,none⟩=some v∧YQ v=true)
  (hcs:∀ x∈outs,∀ (i:Nat) v,x.cs[i]? = some v→∃ v',w.cell? ⟨x.blk,x.off+i,none⟩=some v'∧VR (z6 imps) v v') :
  ∃ (r:Ren) (H:Hp),Rel P r w.heap.size H w∧H.next=(imps ++ outs).length∧(∀ b loc,r b=some loc→b < H.next)∧Ren.Le (z6 imps) r∧∀ (b:Nat) x,(imps ++ outs)[b]? = some x→r b=some ⟨x.blk,x.off,none⟩∧H.t.get b=some (.ro x.cs):=by
 have hall:∀ x∈imps ++ outs,∀ (i:Nat) v,x.cs[i]? = some v→∃ v',w.cell? ⟨x.blk,x.off+i,none⟩=some v'∧VR (z6 imps) v v':=by
  intro x hx i v hv
  rcases List.mem_append.1 hx with hx | hx
  ·obtain ⟨h1,h2⟩:=h x hx i v hv
   exact ⟨v,h1,Uf h2⟩
  ·exact hcs x hx i v hv
 obtain ⟨t,ht⟩:=Zcm (fun b=>((imps ++ outs)[b]?).map fun x=>.ro x.cs) (imps ++ outs).length
 have hle:Ren.Le (z6 imps) (fun b=>((imps ++ outs)[b]?).map fun x=>⟨x.blk,x.off,none⟩):=fun b loc e=>by
  unfold z6 at e
  have hlt:b < imps.length:=by
   rcases Nat.lt_or_ge b imps.length with q | q
   ·exact q
   ·rw [List.getElem?_eq_none q] at e;cases e
  show ((imps ++ outs)[b]?).map _=_
  rw [List.getElem?_append_left hlt];exact e
 have hr:∀ (b:Nat) loc,((imps ++ outs)[b]?).map (fun x=>(⟨x.blk,x.off,none⟩:Loc))=some loc→∃ x,(imps ++ outs)[b]? = some x∧b < (imps ++ outs).length∧loc=⟨x.blk,x.off,none⟩∧t.get b=some (.ro x.cs):=by
  intro b loc e
  cases hx:(imps ++ outs)[b]? with
  | none=>rw [hx] at e;cases e
  | some x=>
   rw [hx] at e
   simp at e
   have hlt:=Kp hx
   exact ⟨x,rfl,hlt,e.symm,by rw [ht,if_pos hlt,hx];rfl⟩
 have low:∀ {g o:Nat} {v:Value},w.cell? ⟨g,o,none⟩=some v→g < w.heap.size:=fun {g o v} hv=>by
  unfold World.cell? at hv
  rcases Nat.lt_or_ge g w.heap.size with q | q
  ·exact q
  ·rw [Array.getElem?_eq_none q] at hv;cases hv
 refine ⟨fun b=>((imps ++ outs)[b]?).map fun x=>⟨x.blk,x.off,none⟩,{ next:=(imps ++ outs).length,t },⟨?_,?_,?_,Nat.le_refl _⟩,rfl,?_,hle,?_⟩
 ·intro b loc e
  obtain ⟨x,hx,hlt,rfl,hg⟩:=hr b loc e
  refine ⟨hlt,?_⟩
  show Dm _ _ _ (t.get b)
  rw [hg]
  cases hc:x.cs with
  | nil=>exact .inl rfl
  | cons v l=>
   obtain ⟨v',h1,_⟩:=hall x (List.mem_of_getElem? hx) 0 v (by rw [hc];rfl)
   exact .inr (low h1)
 ·intro b loc o e eo
  obtain ⟨x,hx,hlt,rfl,hg⟩:=hr b loc e
  rw [hg] at eo;cases eo
  refine ⟨rfl,fun i v ev=>?_⟩
  obtain ⟨v',h1,h2⟩:=hall x (List.mem_of_getElem? hx) i v ev
  unfold World.cell? at h1
  simp only at h1
  split at h1
  ·rename_i C e' f hC
   exact ⟨C,e',f,v',hC,by simpa using h1,h2.mono hle⟩
  ·cases h1
 ·intro b b' loc loc' e e' _ hl _
  obtain ⟨x,hx,hlt,rfl,hg⟩:=hr b loc e
  obtain ⟨o,h1,h2,h3⟩:=hl
  have:t.get b=some o:=h1
  rw [hg] at this;cases this
  cases h3
 ·intro b loc e
  obtain ⟨x,hx,hlt,rfl,hg⟩:=hr b loc e
  exact hlt
 ·intro b x hx
  have hlt:=Kp hx
  refine ⟨by simp only [hx,Option.map_some],?_⟩
  show t.get b=_
  rw [ht,if_pos hlt,hx];rfl

structure Zc2 {α:Type} (w:World) (v:Value) (f:α→List Value) (l:List α) (x:Imp):Prop where
 ok:∀ (i:Nat) u,x.cs[i]? = some u→w.cell? ⟨x.blk,x.off+i,none⟩=some u∧YQ u=true
 cs:x.cs=l.flatMap f
 v:((v=.slice none 0 0∨∃ a',v=.slice (some a') 0 0)∧l=[])∨∃ cap,v=.slice (some ⟨x.blk,x.off,none⟩) l.length cap∧l.length≤cap
theorem Zc2.rel {α:Type} {w:World} {v:Value} {f:α→List Value} {l:List α} {x:Imp} (g:Zc2 w v f l x) {r:Ren} {b:Nat} (hr:r b=some ⟨x.blk,x.off,none⟩) :
  ∃ a cap,VR r (.slice a l.length cap) v∧(∀ y,a=some ⟨y,0,none⟩→y=b)∧∀ H:Hp,b < H.next→H.t.get b=some (.ro x.cs)→Sl H a l.length cap (l.flatMap f):=by
 rcases g.v with ⟨rfl | ⟨a',rfl⟩,rfl⟩ | ⟨cap,rfl,hl⟩
 ·exact ⟨none,0,.nilSlice,fun y e=>by (cases e),fun H _ _=>.inl ⟨.inl rfl,rfl,rfl,rfl⟩⟩
 ·exact ⟨some ⟨0,0,some 0⟩,0,.weird (.inl rfl),fun y e=>by (cases e),fun H _ _=>.inl ⟨.inr rfl,rfl,rfl,rfl⟩⟩
 ·refine ⟨some ⟨b,0,none⟩,cap,?_,fun y e=>by (cases e;rfl),fun H hb hc=>.inr ⟨b,rfl,⟨hb,by unfold cellsOf;rw [hc,g.cs]⟩,hl⟩⟩
  have:=VR.slice (o:=0) (n:=l.length) (c:=cap) hr rfl hl
  simpa using this
structure RV where
 rv:Value
 l:List Int
 x:Imp
def RV.f (r:RV):List Value:=[r.rv]
def RV.Q (w:World) (r:RV):Prop:=Zc2 w r.rv (fun n:Int=>[iv n]) r.l r.x
end Go.Ax

/-! What is Yo as_ arguments. -/
namespace Go.Ax
open Go Go.RowKit Go.Proofs Go.ChangeShapes Go.WideShapes Go.Deep

theorem KO {P:Program} (pre:List Imp) {w:World} (h:∀ x∈pre,∀ (i:Nat) v,x.cs[i]? = some v→w.cell? ⟨x.blk,x.off+i,none⟩=some v∧YQ v=true) :
  ∃ (r:Ren) (H:Hp),Rel P r w.heap.size H w∧(∀ b loc,r b=some loc→b < H.next)∧(∀ (b:Nat) x,pre[b]? = some x→b < H.next∧r b=some ⟨x.blk,x.off,none⟩∧H.t.get b=some (.ro x.cs)):=by
 obtain ⟨r,H,h1,h2,h3,h4,h5⟩:=Zbd (P:=P) pre [] w h (fun x hx=>by simp at hx)
 refine ⟨r,H,h1,h3,fun b x hx=>?_⟩
 have:=Kp hx
 obtain ⟨a,c⟩:=h5 b x (by simpa using hx)
 exact ⟨by rw [h2];simpa using this,a,c⟩
end Go.Ax


import Derived.Test.YtngkkiijcpdffaaMe
set_option linter.all false
/-
 Pool: days that are open (written by program).
-/
namespace Go.Ax
open Go Go.RowKit Go.Proofs

noncomputable section
def cI (l:List Int):List Value:=l.map iv
theorem Uf {l:List Int}:(cI l).length=l.length:=by simp [cI]
theorem U8 {a b:List Int}:cI (a ++ b)=cI a ++ cI b:=by simp [cI]
theorem YI {l:List Int} {i:Nat} (h:i < l.length):(cI l)[0+i * 1]? = some (iv (l.getD i 0)):=by
 rw [Nat.mul_one,Nat.zero_add];simp [cI,h]
def nsB (reach D:Int) (n:Ns):Bool:=decide (n.r=reach) && inB D n.a n.b
def frB (ns:List Ns) (reach D:Int):Bool:=!ns.any (nsB reach D)
def cls (ns:List Ns) (reach:Int) (i:Nat):Nat→Bool:=fun k=>(ns.take i).any (nsB reach k)
def zV (ns:List Ns) (reach:Int) (i:Nat) (d:Int):Nat→Bool:=fun k=>cls ns reach i k || (decide ((ns.getD i Ns.z).r=reach) && decide ((ns.getD i Ns.z).a≤k) && decide ((k:Int) < d))
theorem ZbB {ns:List Ns} {reach:Int}:cls ns reach 0=fun _=>false:=by funext k;simp [cls]
theorem ZeO {ns:List Ns} {reach:Int} {i:Nat} (h:i < ns.length):cls ns reach (i+1)=fun k=>cls ns reach i k || nsB reach k (ns.getD i Ns.z):=by
 funext k
 unfold cls
 rw [Wi (z:=Ns.z) h,List.any_append,List.any_cons,List.any_nil,Bool.or_false]
theorem qE {ns:List Ns} {reach:Int} {i:Nat}:zV ns reach i (ns.getD i Ns.z).a=cls ns reach i:=by
 funext k
 unfold zV
 have:(decide ((ns.getD i Ns.z).a≤(k:Int)) && decide ((k:Int) < (ns.getD i Ns.z).a))=false:=by
  rw [Bool.and_eq_false_iff,decide_eq_false_iff_not,decide_eq_false_iff_not];omega
 rw [Bool.and_assoc,this,Bool.and_false,Bool.or_false]
theorem Zar {ns:List Ns} {reach d:Int} {i:Nat} (hr:(ns.getD i Ns.z).r=reach) (ha:(ns.getD i Ns.z).a≤d) (h0:0≤d):zV ns reach i (d+1)=qw (zV ns reach i d) d.toNat:=by
 funext k
 unfold qw zV
 by_cases e:k=d.toNat
 ·rw [if_pos e,decide_eq_true hr,decide_eq_true (show (ns.getD i Ns.z).a≤(k:Int) by omega),decide_eq_true (show (k:Int) < d+1 by omega)];simp
 ·rw [if_neg e]
  have:decide ((k:Int) < d+1)=decide ((k:Int) < d):=by
   by_cases q:(k:Int) < d
   ·rw [decide_eq_true q,decide_eq_true (show (k:Int) < d+1 by omega)]
   ·rw [decide_eq_false q,decide_eq_false (show ¬ (k:Int) < d+1 by omega)]
  rw [this]
theorem KB {ns:List Ns} {reach d:Int} {i:Nat} (h:i < ns.length) (hd:(ns.getD i Ns.z).r=reach→d=(ns.getD i Ns.z).b+1):zV ns reach i d=cls ns reach (i+1):=by
 rw [ZeO h]
 funext k
 unfold zV nsB inB
 by_cases hr:(ns.getD i Ns.z).r=reach
 ·have:decide ((k:Int) < d)=decide ((k:Int)≤(ns.getD i Ns.z).b):=by
   rw [hd hr]
   by_cases q:(k:Int)≤(ns.getD i Ns.z).b
   ·rw [decide_eq_true q,decide_eq_true (show (k:Int) < (ns.getD i Ns.z).b+1 by omega)]
   ·rw [decide_eq_false q,decide_eq_false (show ¬ (k:Int) < (ns.getD i Ns.z).b+1 by omega)]
  rw [this,Bool.and_assoc]
 ·rw [decide_eq_false hr];simp
theorem yB {ns:List Ns} {reach D:Int} (h:0≤D):(!cls ns reach ns.length D.toNat)=frB ns reach D:=by
 unfold cls frB
 rw [List.take_length,show ((D.toNat:Nat):Int)=D by omega]
theorem Acc.lowf {lo f f':Nat} {e:TypeId} {H:Hp} {v:Value} {n:Nat} {cs:List Value} (h:Acc lo f e H v n cs) (hf:f'≤f):Acc lo f' e H v n cs:=
 h.imp id fun ⟨b,e1,h0,h2,r⟩=>⟨b,e1,h0,Nat.le_trans hf h2,r⟩
def opl (ns:List Ns) (reach frm:Int):Nat→List Int
 | 0=>[]
 | k+1=>if frB ns reach (frm+k) then opl ns reach frm k ++ [frm+k] else opl ns reach frm k
theorem K4 {ns:List Ns} {reach frm:Int}:∀ {k:Nat},(opl ns reach frm k).length≤k
 | 0=>Nat.le_refl 0
 | k+1=>by
  have:=K4 (ns:=ns) (reach:=reach) (frm:=frm) (k:=k)
  unfold opl
  split
  ·rw [List.length_append,List.length_singleton];omega
  ·omega
section
variable {P:Program} {lo:Nat}
theorem QD {H:Hp} {t0 t1 e ep:TypeId} {size k cap2 f:Nat} {a:Option Addr} {v:Value} {cs news:List Value} (he:Z3 P t0=some (e,size)) (ht:P.underlying t1=some (.slice ep))
  (hs:Sl H a 1 cap2 news) (hl:news.length=1 * size) (hz:0 < size) (hone:news.all one=true) (hcl:cs.length=k * size) (hk:k < 1000000) (ha:Acc lo f e H v k cs) (hlo:lo≤H.next) (hf:f≤H.next) :
  ∃ H1 kd,(∀ (n:Nat) (S:Rg) (d:Option Tmp) (x y:Operand) (ty:TypeId) (p:String),evS S x=some v→evS S y=some (.slice a 1 cap2)→Zr P lo (frS n S) H ⟨d,.call ⟨.builtin .append,#[x,y],#[t0,t1]⟩,ty,p,#[],none⟩=some (.val (.slice (some ⟨H.next,0,none⟩) (k+1) (k+1)) H1,kd))∧(kd=.heavy∨∃ b,kd=.store b∧f≤b)∧
   Acc lo f e H1 (.slice (some ⟨H.next,0,none⟩) (k+1) (k+1)) (k+1) (cs ++ news)∧XK f H H1:=by
 rcases ha with ⟨rfl,rfl,rfl⟩ | ⟨b,rfl,h0,hb,hlb,hn,hg⟩
 ·refine ⟨H.new (.cells news e true),.heavy,?_,.inl rfl,?_,?_⟩
  ·intro n S d x y ty p hx hy
   unfold Zr
   simp only [evs,Z8,hx,hy,Yb,List.getElem?_toArray,List.getElem?_cons_zero,List.getElem?_cons_succ,he,ht,W3 hs hl,ZU]
   rfl
  ·refine .inr ⟨H.next,rfl,by omega,hf,hlo,Nat.lt_succ_self _,?_⟩
   show (H.t.set H.next _).get H.next=_
   rw [Tr.get_set,if_pos rfl];rfl
  ·exact XK.of (Z2 rfl).1 hf
 ·have h1:Nat.ble (0+(k+1) * size) cs.length=false:=by
   cases h:Nat.ble (0+(k+1) * size) cs.length with
   | false=>rfl
   | true=>have:=Nat.le_of_ble_eq_true h;rw [hcl,Nat.succ_mul] at this;omega
  have h2:Nat.beq (0+k * size) cs.length=true:=by rw [hcl,Nat.zero_add];exact Nat.beq_refl _
  have h3:Nat.ble (k+1) 1048576=true:=Nat.ble_eq_true_of_le (by omega)
  have h4:Nat.beq e e=true:=Nat.beq_refl e
  refine ⟨({ H with t:=H.t.set b .dead }:Hp).new (.cells (cs ++ news) e true),.store b,?_,.inr ⟨b,rfl,hb⟩,?_,?_⟩
  ·intro n S d x y ty p hx hy
   unfold Zr
   simp only [evs,Z8,hx,hy,Yb,List.getElem?_toArray,List.getElem?_cons_zero,List.getElem?_cons_succ,he,ht,W3 hs hl,ZU,hg,h1,h2,h3,h4,hone,Nat.ble_eq_true_of_le hlb,Bool.and_self,cond_true,cond_false,List.drop_zero,show Nat.beq 1 0=false from rfl]
  ·refine .inr ⟨H.next,rfl,by omega,hf,hlo,Nat.lt_succ_self _,?_⟩
   show ((H.t.set b .dead).set H.next _).get H.next=_
   rw [Tr.get_set,if_pos rfl]
  ·refine ⟨Nat.le_succ _,fun c hc=>?_,fun c xs hc hx=>?_⟩
   ·show ((H.t.set b .dead).set H.next _).get c=_
    rw [Tr.get_set,if_neg (by omega),Tr.get_set,if_neg (by omega)]
   ·have hx:((H.t.set b .dead).set H.next (.cells (cs ++ news) e true)).get c=some (.ro xs):=hx
    have hc:c < H.next+1:=hc
    rw [Tr.get_set] at hx
    split at hx
    ·cases hx
    ·rw [Tr.get_set] at hx
     split at hx
     ·cases hx
     ·exact ⟨by omega,hx⟩
end
section
variable {kn:Kn} {lo:Nat} {H:Hp}
theorem jP {na:Option Addr} {nn ncap:Nat} {reach:Int} (hlo:lo≤H.next):∃ H',FnX Try.prog kn lo 73 [.slice na nn ncap,iv reach] H (.func (.func 81) #[] #[pt H.next,pt (H.next+1)]) H'∧Rd H' H.next [.slice na nn ncap]∧Rd H' (H.next+1) [iv reach]∧H'.next=H.next+2∧Zk H H' []:=by
 have key:=Zp (kn:=kn) (lo:=lo) (H:=H) (args:=[.slice na nn ncap,iv reach]) (Q:=fun w H'=>w=(.func (.func 81) #[] #[pt H.next,pt (H.next+1)])∧Rd H' H.next [.slice na nn ncap]∧Rd H' (H.next+1) [iv reach]∧H'.next=H.next+2∧Zk H H' []) Try.func73 B73 N73 Z73 L73 (by simp) ?_
 ·obtain ⟨w,H',h,rfl,q⟩:=key;exact ⟨H',h,q⟩
 refine Zc (Yw (v:=.slice na nn ncap) rfl fun H1 k1 n1 c1=>Yw (v:=iv reach) rfl fun H2 k2 n2 c2=>Za rfl (Zb ?_))
 rw [n1] at c2
 refine Zc (Zd (v:=.func (.func 81) #[] #[pt H.next,pt H1.next]) rfl (by kernel_rfl) (Za rfl (Zb ?_)))
 exact ⟨True.intro,[.func (.func 81) #[] #[pt H.next,pt H1.next]],rfl,by rw [n1];rfl,(k2.cl c1 (by simp)).rd,c2.rd,by omega,k1.trans k2⟩
set_option maxRecDepth 100000 in
theorem j7 {J:(Nat→Bool)→Hp→Prop} {base:Nat} {Wy:List Nat} {l bL bG nn ncap:Nat} {na:Option Addr} {ns:List Ns} {reach:Int} (hm:ns.length=nn) (hm2:nn≤1000000) (hbd:ns.any X0=false) (hlb:lo≤base) (hW:∀ x∈Wy,x < base) (jm:∀ g H1 H2 W,J g H1→Zk H1 H2 W→(∀ x∈W,base≤x)→J g H2)
  (je:∀ g H1,J g H1→Rd H1 bL [.slice na nn ncap]∧Rd H1 bG [iv reach]∧Sl H1 na nn ncap (nsc ns)∧bL < base∧bG < base∧∀ b,na=some ⟨b,0,none⟩→b < base)
  (step:∀ g d H1,0≤d→d≤16384→J g H1→base≤H1.next→∃ H2,Xb Try.prog kn lo (.fn (.yield l) #[]) [iv d] H1 (.bool true) H2∧J (qw g d.toNat) H2∧Zk H1 H2 Wy)
  (hbn:base≤H.next) (hJ:J (fun _=>false) H) :
  ∃ H',FnX Try.prog kn lo 81 [.func (.yield l) #[] #[],pt bL,pt bG] H Zfi H'∧J (cls ns reach ns.length) H':=by
 have key:=Zp (kn:=kn) (lo:=lo) (H:=H) (args:=[.func (.yield l) #[] #[],pt bL,pt bG]) (Q:=fun w H'=>w=Zfi∧J (cls ns reach ns.length) H') Try.func81 B81 N81 Z81 L81 (by simp) ?_
 ·obtain ⟨w,H',h,rfl,q⟩:=key;exact ⟨H',h,q⟩
 obtain ⟨rL,rG,hs,lL,lG,fb⟩:=je _ _ hJ
 have fs:=hs.old
 refine Zc<|ZP (b:=bL) (o:=0) (v:=.slice na nn ncap) rfl rL rfl<|Zv (m:=nn) rfl<|Za rfl<|Zb ?_
 refine Zt (fn:=Try.f81) Zex N81 Zd0 (fun i:Nat=>[(0,.func (.yield l) #[] #[]),(1,pt bL),(2,pt bG),(7,.slice na nn ncap),(8,iv (nn:Int)),(9,iv (i:Int))])
  (fun k i H'=>i+k=nn∧J (cls ns reach i) H'∧base≤H'.next) nn 0 ⟨by omega,by rw [ZbB];exact hJ,hbn⟩ ⟨rfl,rfl,rfl,rfl,rfl,rfl,trivial⟩ ?_
 rintro k i L1 ⟨hik,hJ,hbn⟩
 obtain ⟨rL,rG,hs,lL,lG,fb⟩:=je _ _ hJ;have fs:=hs.old
 refine Zc<|Zx (a:=(i:Int)) (b:=(nn:Int)) rfl rfl<|Zb ?_
 refine And.intro (fun q1=>?_) (fun q1=>?_)
 ·have q1:(i:Int) < (nn:Int):=of_decide_eq_true q1
  have hi:i < nn:=by omega
  rcases id hs with ⟨_,h0s,_⟩ | ⟨sb,es,rs,_⟩
  ·omega
  have ls:=rs.1
  have lsb2:=fs sb es;have lsb3:=fb sb es;have hbi:=ZdF (QU hbd _ (YA (z:=Ns.z) (l:=ns) (i:=i) (by omega)))
  first | refine Zj ?_ | skip
  refine Zc<|YS (b:=sb) (o:=0) (k:=i) (j:=(i:Int)) (by rw [← es];rfl) rfl rfl hi<|Z4 (b:=sb) (o:=0+i * 3) rfl rs (Jk (by omega))<|YF ?_
  intro H1 kH1 nH1 c1
  have c1:Cl H1 L1.next [iv 0,iv 0,iv 0]:=c1
  have mH1:=kH1.1
  have hJ:=jm _ _ _ _ hJ kH1 (fun x hx=>by first | (simp at hx;done) | (simp at hx;omega))
  have rL:=kH1.rd rL (by simp)
  have rG:=kH1.rd rG (by simp)
  have hs:=kH1.sl0 hs
  have rs:=kH1.rd rs (by simp)
  refine Yk (b:=L1.next) (o:=0) rfl rfl c1 (by omega) rfl rfl (by simp) ?_
  intro H2 kH2 nH2 sH2
  have mH2:=kH2.1
  have hJ:=jm _ _ _ _ hJ kH2 (fun x hx=>by first | (simp at hx;done) | (simp at hx;omega))
  have rL:=kH2.rd rL (by first | (simp;done) | (simp;omega))
  have rG:=kH2.rd rG (by first | (simp;done) | (simp;omega))
  have hs:=kH2.sl hs (fun b e=>by have:=fs b e;first | (simp;done) | (simp;omega))
  have rs:=kH2.rd rs (by first | (simp;done) | (simp;omega))
  have c1:Cl H2 L1.next [iv ((ns.getD i Ns.z).r),iv ((ns.getD i Ns.z).a),iv ((ns.getD i Ns.z).b)]:=sH2
  refine Zb<|Zc<|Zu (b:=L1.next) (o:=0) rfl<|ZP (b:=L1.next) (o:=1) (v:=iv ((ns.getD i Ns.z).a)) rfl c1.rd rfl<|Za rfl<|Zb ?_
  rw [← qE] at hJ
  refine Zt (fn:=Try.f81) ZeE N81 Zeg (fun d:Int=>[(0,.func (.yield l) #[] #[]),(1,pt bL),(2,pt bG),(5,pt L1.next),(6,iv d),(7,.slice na nn ncap),(8,iv (nn:Int)),(9,iv (i:Int))])
   (fun k d H'=>(ns.getD i Ns.z).a≤d∧d≤(ns.getD i Ns.z).b+1∧k=((ns.getD i Ns.z).b+1 - d).toNat∧J (zV ns reach i d) H'∧L1.next < H'.next∧base≤L1.next∧Cl H' L1.next [iv (ns.getD i Ns.z).r,iv (ns.getD i Ns.z).a,iv (ns.getD i Ns.z).b]) _ (ns.getD i Ns.z).a ⟨by omega,by omega,rfl,hJ,by omega,by omega,c1⟩ ⟨rfl,rfl,rfl,rfl,rfl,rfl,rfl,rfl,trivial⟩ ?_
  rintro k2 d L2 ⟨hd1,hd2,rfl,hJ,hnx,hb5,c5⟩
  obtain ⟨rL,rG,hs,lL,lG,fb⟩:=je _ _ hJ;have fs:=hs.old
  refine Zc<|Zu (b:=L1.next) (o:=0) rfl<|ZP (b:=L1.next) (o:=0) (v:=iv ((ns.getD i Ns.z).r)) rfl c5.rd rfl<|ZP (b:=bG) (o:=0) (v:=iv reach) rfl rG rfl<|Xe (a:=(ns.getD i Ns.z).r) (b:=reach) rfl rfl ?_
  intro t2 g2;cases t2
  ·have g2:¬ (((ns.getD i Ns.z).r)=reach):=by simpa using g2
   refine Za rfl<|Zh rfl<|Zh rfl<|Zh rfl<|Zh rfl<|Zd (v:=.bool false) rfl rfl<|Zb<|ZQ ?_
   rw [KB (by omega) (fun q=>by omega)] at hJ
   first | (refine Zy ?_;show wC _ _ _ _ _ _ _ _ _) | skip
   show Zn _ _ _ _ _ _ _ _
   refine Zo (a:=(i:Int)) (b:=1) rfl rfl ⟨by omega,by omega⟩<|Za rfl<|Zb ?_
   exact ⟨k - 1,i+1,by omega,⟨by omega,hJ,by omega⟩,rfl,rfl,rfl,rfl,rfl,ivq (by omega),trivial⟩
  ·have g2:((ns.getD i Ns.z).r)=reach:=by simpa using g2
   refine Za rfl ?_
   refine Zl rfl (Za rfl ?_)
   refine Zl rfl (Zu (b:=L1.next) (o:=0) rfl ?_)
   refine Zl rfl (ZP (b:=L1.next) (o:=2) (v:=iv ((ns.getD i Ns.z).b)) rfl c5.rd rfl ?_)
   refine Zl rfl (WJ (a:=d) (b:=(ns.getD i Ns.z).b) rfl rfl ?_)
   intro t3 g3;cases t3
   ·have g3:¬ (d≤((ns.getD i Ns.z).b)):=of_decide_eq_false g3
    refine Zd (v:=.bool false) rfl rfl<|Zb<|ZQ ?_
    rw [KB (by omega) (fun q=>by omega)] at hJ
    first | (refine Zy ?_;show wC _ _ _ _ _ _ _ _ _) | skip
    show Zn _ _ _ _ _ _ _ _
    refine Zo (a:=(i:Int)) (b:=1) rfl rfl ⟨by omega,by omega⟩<|Za rfl<|Zb ?_
    exact ⟨k - 1,i+1,by omega,⟨by omega,hJ,by omega⟩,rfl,rfl,rfl,rfl,rfl,ivq (by omega),trivial⟩
   ·have g3:d≤((ns.getD i Ns.z).b):=of_decide_eq_true g3
    refine Zd (v:=.bool true) rfl rfl<|Zb<|ZK ?_
    first | refine Zj ?_ | skip
    refine Zc<|Za rfl<|Za rfl ?_
    obtain ⟨H3,fH3,hJ,kH3⟩:=step _ d L2 (by omega) (by omega) hJ (by omega)
    refine Zi (vs:=[iv d]) rfl fH3 ?_
    have mH3:=kH3.1;have c5:=kH3.cl c5 (fun hx=>by have:=hW _ hx;omega)
    refine Zd (v:=.bool false) rfl rfl<|Zb<|ZQ ?_
    first | refine Zj ?_ | skip
    show Zn _ _ _ _ _ _ _ _
    refine Za rfl<|Zo (a:=d) (b:=1) rfl rfl ⟨by omega,by omega⟩<|Za rfl<|Zb ?_
    exact ⟨_,d+1,by omega,⟨by omega,by omega,rfl,by rw [Zar (by omega) (by omega) (by omega)];exact hJ,by omega,by omega,c5⟩,rfl,rfl,rfl,rfl,ivq (by omega),rfl,rfl,rfl,trivial⟩
 ·have q1:¬ ((i:Int) < (nn:Int)):=of_decide_eq_false q1
  first | (refine Zy ?_;show wC _ _ _ _ _ _ _ _ _) | skip
  have e:i=ns.length:=by omega
  exact And.intro trivial (Exists.intro _ (And.intro rfl ⟨rfl,by rw [← e];exact hJ⟩))
abbrev jp:Code:=at_ Try.f52 [1,1,0,1,0,0]
abbrev K5:Code:=at_ Try.f52 [1,1,0,1,0,1]
abbrev S52 (h:Nat):Rg:=[(9,pt h)]
structure J52 (ns:List Ns) (reach:Int) (na:Option Addr) (nn ncap:Nat) (H0:Hp) (g:Nat→Bool) (H':Hp):Prop where
 acc:Cl H' H0.next (cB 16385 g)
 rL:Rd H' (H0.next+1) [.slice na nn ncap]
 rG:Rd H' (H0.next+2) [iv reach]
 lp:Lp Try.prog H' (H0.next+4) .ready none 34 (S52 H0.next) [16] jp K5 (H0.next+3)
 dfr:H'.t.get (H0.next+3)=some (.dfr (some []))
 ll:H0.next+5≤H'.next
 kp:Zk H0 H' []
section
variable {ns:List Ns} {reach:Int} {na:Option Addr} {nn ncap:Nat} {H0:Hp}
theorem J52.keep {g:Nat→Bool} {H1 H2:Hp} (j:J52 ns reach na nn ncap H0 g H1) {W:List Nat} (kk:Zk H1 H2 W) (hW:∀ b∈W,H0.next+5≤b):J52 ns reach na nn ncap H0 g H2:=by
 have nw:∀ x,x < H0.next+5→x ∉ W:=fun x hx q=>by have:=hW x q;omega
 have ll:=j.ll
 exact ⟨kk.cl j.acc (nw _ (by omega)),kk.rd j.rL (nw _ (by omega)),kk.rd j.rG (nw _ (by omega)),j.lp.keep kk (by omega) (nw _ (by omega)),by rw [kk.2 _ (by omega) (nw _ (by omega))];exact j.dfr,Nat.le_trans j.ll kk.1,j.kp.new kk (fun b q=>.inr (by have:=hW b q;omega))⟩
set_option maxRecDepth 100000 in
theorem ZcB (hlo:lo≤H0.next) {g:Nat→Bool} {d:Int} (hd0:0≤d) (hd1:d≤16384) (j:J52 ns reach na nn ncap H0 g H) (hnx:H0.next+5≤H.next) :
  ∃ H',Xb Try.prog kn lo (.fn (.yield (H0.next+4)) #[]) [iv d] H (.bool true) H'∧J52 ns reach na nn ncap H0 (qw g d.toNat) H'∧Zk H H' [H0.next,H0.next+4]:=by
 have L1:low Try.prog 34 jp=some R52x1:=N52 ▸ Ze8
 have L2:low Try.prog 34 K5=some R52x2:=N52 ▸ Zeq
 have key:=ZaE (kn:=kn) (P:=Try.prog) (lo:=lo) (S1:=(16,iv d) :: S52 H0.next) (args:=[iv d]) (Q:=fun t H'=>t=true∧J52 ns reach na nn ncap H0 (qw g d.toNat) H'∧Zk H H' [H0.next,H0.next+4]) j.lp (by omega) (by rfl) rfl (YN true _ L1 ?_)
 ·obtain ⟨t,H',h,rfl,q⟩:=key;exact ⟨H',h,q⟩
 have ll:=j.ll
 refine Z0<|Za rfl<|Zb ?_
 refine And.intro trivial (And.intro j.lp ?_)
 intro H3 s3
 have k3:=s3.keep
 have hn3:H3.next=H.next:=s3.1
 have lp3:=s3.lp j.lp
 have nl:∀ x,x≠H0.next+4→x ∉ [H0.next+4]:=fun x hx=>by simpa using hx
 have ca:=k3.cl j.acc (nl _ (by omega))
 refine YN true _ L2 ?_
 refine Xg<|Za rfl<|jI (b:=H0.next) (o:=0) (k:=d.toNat) (j:=d) rfl rfl (by omega) (by omega)<|ZcW (b:=H0.next) (o:=0+d.toNat * 1) rfl rfl ca (by omega) rfl rfl (by rw [Zbl];omega) ?_
 intro H4 k4 n4 c4
 rw [ZdL (by omega)] at c4
 have m4:=k4.1
 refine Zb ?_
 have lp4:=lp3.keep k4 (by omega) (by simp)
 refine ⟨lp4,fun H5 s5=>?_⟩
 have k5:=s5.keep
 have hn5:H5.next=H4.next:=s5.1
 have k05:Zk H H5 [H0.next,H0.next+4]:=((k3.mono (by simp)).trans (k4.mono (by simp))).trans (k5.mono (by simp))
 have n3:∀ x,x≠H0.next→x≠H0.next+4→x ∉ [H0.next,H0.next+4]:=fun x h1 h2=>by simp;omega
 exact ⟨rfl,⟨k5.cl c4 (nl _ (by omega)),k05.rd j.rL (n3 _ (by omega) (by omega)),k05.rd j.rG (n3 _ (by omega) (by omega)),s5.lp lp4,by rw [k05.2 _ (by omega) (n3 _ (by omega) (by omega))];exact j.dfr,by omega,j.kp.new k05 (fun b q=>.inr (by simp at q;omega))⟩,k05⟩
end
set_option maxRecDepth 100000 in
set_option maxHeartbeats 2000000 in
theorem yq {ns:List Ns} {reach frm to_:Int} {na:Option Addr} {nn ncap:Nat} (hs:Sl H na nn ncap (nsc ns)) (hl:ns.length=nn) (hn:nn≤1000) (hbd:ns.any X0=false) (hf:0≤frm∧frm≤16384) (ht:0≤to_∧to_≤16384) (hlo:lo≤H.next) :
  ∃ v H',FnX Try.prog kn lo 52 [.slice na nn ncap,iv reach,iv frm,iv to_] H v H'∧Acc lo H.next 3 H' v (opl ns reach frm (to_+1 - frm).toNat).length (cI (opl ns reach frm (to_+1 - frm).toNat))∧Zk H H' []:=by
 refine Zbj (kn:=kn) (lo:=lo) (H:=H) (args:=[.slice na nn ncap,iv reach,iv frm,iv to_]) (Q:=fun w H'=>Acc lo H.next 3 H' w (opl ns reach frm (to_+1 - frm).toNat).length (cI (opl ns reach frm (to_+1 - frm).toNat))∧Zk H H' []) Try.func52 B52 N52 Z52 L52 (by simp) ?_
 intro y hy
 refine Y7.lowR hy ?_
 refine Z0<|Za rfl<|Zb ?_
 intro y hy
 refine Y7.lowR hy ?_
 refine Z0<|YF ?_
 intro H1 k1 n1 c1
 rw [Zcg] at c1
 refine Zb ?_
 intro y hy
 refine Y7.lowL hy ?_
 intro z hz
 refine Y7.lowR hz ?_
 refine Z0<|Za rfl<|Za rfl ?_
 obtain ⟨H5,f5,g1,g2,n5,k5⟩:=jP (kn:=kn) (lo:=lo) (H:=H1) (na:=na) (nn:=nn) (ncap:=ncap) (reach:=reach) (by omega)
 refine Zi (vs:=[.slice na nn ncap,iv reach]) rfl (Ze f5)<|Zb ?_
 intro y hy
 refine Y7.lowB hy ?_
 rw [Zfb]
 refine Y7.range rfl ?_
 intro H7 k7 n7 hdf hlp
 have e5:H5.next=H.next+3:=by omega
 have hlp:Lp Try.prog H7 (H5.next+1) .ready none 34 [(9,pt H.next)] [16] jp K5 H5.next:=hlp.weak ⟨rfl,trivial⟩
 rw [e5] at hlp hdf n7
 have k17:Zk H1 H7 []:=k5.trans k7
 have k07:Zk H H7 []:=k1.trans k17
 have d1:=k17.cl c1 (by simp)
 rw [n1] at g1 g2
 have fs0:=hs.old
 have j0:J52 ns reach na nn ncap H (fun _=>false) H7:=⟨d1,k7.rd g1 (by simp),k7.rd g2 (by simp),hlp,hdf,by omega,k07⟩
 obtain ⟨H8,f8,j8⟩:=j7 (kn:=kn) (lo:=lo) (H:=H7) (J:=J52 ns reach na nn ncap H) (base:=H.next+5) (Wy:=[H.next,H.next+4]) (l:=H.next+4) (bL:=H.next+1) (bG:=H.next+2) (na:=na) (nn:=nn) (ncap:=ncap) (ns:=ns) (reach:=reach) hl (by omega) hbd (by omega) (fun x hx=>by simp at hx;omega)
  (fun g H1 H2 W j kk hw=>j.keep kk hw) (fun g H1 j=>⟨j.rL,j.rG,j.kp.sl0 hs,by omega,by omega,fun b e=>by have:=fs0 b e;omega⟩)
  (fun g d H1 h1 h2 j hb=>ZcB hlo h1 h2 j hb) (by omega) j0
 refine Exists.intro _ (Exists.intro H8 (And.intro (Xa rfl (by rw [n1,e5];simpa using f8)) ?_))
 have lp8:Lp Try.prog H8 (H5.next+1) .ready none 34 (S52 H.next) [16] jp K5 H5.next:=by rw [e5];exact j8.lp
 refine ⟨.ready,none,_,lp8,by simp,?_⟩
 intro H9 s9
 have k9:=s9.keep
 have hn9:H9.next=H8.next:=s9.1
 rw [e5] at k9
 have ll:=j8.ll
 have nl:∀ x,x≠H.next+4→x ∉ [H.next+3+1]:=fun x hx=>by simp;omega
 have hd:H9.t.get (H.next+3)=some (.dfr (some [])):=by rw [k9.2 _ (by omega) (nl _ (by omega))];exact j8.dfr
 have ca:=k9.cl j8.acc (nl _ (by omega))
 have hk:Zk H H9 []:=j8.kp.new k9 (fun b q=>.inr (by simp at q;omega))
 refine Zc<|Za rfl<|Zb<|Zc<|Za rfl<|Za rfl<|Zb ?_
 refine Zt (fn:=Try.f52) ZeG N52 ZdY (fun z:Nat × Value=>[(2,iv frm),(3,iv to_),(9,pt H.next),(11,z.2),(12,iv (frm+(z.1:Int)))])
  (fun k z H'=>z.1≤(to_+1 - frm).toNat∧k=(to_+1 - frm).toNat - z.1∧Zk H H' []∧H9.next≤H'.next∧Cl H' H.next (cB 16385 (cls ns reach ns.length))∧H'.t.get (H.next+3)=some (.dfr (some []))∧Acc lo H9.next 3 H' z.2 (opl ns reach frm z.1).length (cI (opl ns reach frm z.1))) _ (0,.slice none 0 0) ⟨Nat.zero_le _,rfl,hk,Nat.le_refl _,ca,hd,.inl ⟨rfl,rfl,rfl⟩⟩ ⟨rfl,rfl,rfl,rfl,ivq (by simp only [];omega),trivial⟩ ?_
 rintro k ⟨i,wv⟩ L1 ⟨hi1,hi2,hk,hnx,ca,hd,hacc⟩
 simp only [] at hi1 hi2 hacc;have mk:=hk.1;have kacc:=Zk.refl L1 [];have hol:=K4 (ns:=ns) (reach:=reach) (frm:=frm) (k:=i)
 refine Zc<|Za rfl<|Za rfl<|Wq (a:=(frm+(i:Int))) (b:=to_) rfl rfl<|Zb ?_
 refine And.intro (fun q1=>?_) (fun q1=>?_)
 ·have q1:(frm+(i:Int))≤to_:=of_decide_eq_true q1
  first | refine Zj ?_ | skip
  refine Zc<|Za rfl<|jI (b:=H.next) (o:=0) (k:=(frm+(i:Int)).toNat) (j:=(frm+(i:Int))) rfl rfl (by omega) (by omega)<|ZP (b:=H.next) (o:=0+((frm+(i:Int)).toNat) * 1) (v:=.bool (cls ns reach ns.length ((frm+(i:Int)).toNat))) rfl ca.rd (Zc1 (by omega))<|Zd (v:=.bool (!(cls ns reach ns.length ((frm+(i:Int)).toNat)))) rfl rfl<|Zb ?_
  refine And.intro (fun q2=>?_) (fun q2=>?_)
  ·have q2:¬ (cls ns reach ns.length ((frm+(i:Int)).toNat)=true):=by simpa using q2
   have hfr:frB ns reach (frm+(i:Int))=true:=by rw [← yB (by omega)];simpa using q2
   show Zn _ _ _ _ _ _ _ _
   refine Za rfl<|Za rfl ?_
   obtain ⟨H1,hH1⟩:∃ H1,L1.new (.cells [iv (frm+(i:Int))] 3 false)=H1:=⟨_,rfl⟩
   refine ZN (H':=H1) (k:=.heavy) rfl (by kernel_rfl) ((YE (v:=iv (frm+(i:Int))) UV zo3 rfl rfl rfl (by decide)).trans (by rw [← hH1];rfl)) (fun b e=>by cases e) ?_
   obtain ⟨kH1,nH1,c1⟩:=Z2 hH1;clear hH1
   have c1:Cl H1 L1.next [iv (frm+(i:Int))]:=c1
   have mH1:=kH1.1
   have hk:=hk.trans kH1
   have ca:=kH1.cl ca (by simp)
   have hd:=(show H1.t.get (H.next+3)=some (.dfr (some [])) from by rw [kH1.2 _ (by omega) (by first | (simp;done) | (simp;omega))];exact hd)
   have kacc:=kacc.trans kH1
   obtain ⟨H2,kdH2,eH2,dH2,aH2,kbH2⟩:=QD (P:=Try.prog) (lo:=lo) (k:=(opl ns reach frm i).length) (t1:=42) UV J8 (c1.sl (Nat.le_refl 1)) rfl (by decide) rfl (by rw [Uf];omega) (by omega) (hacc.keep kacc) (by omega) (by omega)
   refine ZN (k:=kdH2) rfl (by cases wv<;>kernel_rfl) (eH2 _ _ _ _ _ _ _ rfl rfl) (UT dH2 _) ?_
   have hk:=kbH2.keep hk (by omega)
   have ca:=kbH2.cl ca (by omega)
   have hd:=(show H2.t.get (H.next+3)=some (.dfr (some [])) from by rw [kbH2.2 _ (by omega)];exact hd)
   have mH2:=kbH2.1
   refine Za rfl<|Zb ?_
   show Zn _ _ _ _ _ _ _ _
   refine Za rfl<|Zo (a:=(frm+(i:Int))) (b:=1) rfl rfl ⟨by omega,by omega⟩<|Za rfl<|Zb ?_
   have hU:opl ns reach frm (i+1)=opl ns reach frm i ++ [frm+(i:Int)]:=by show (if frB ns reach (frm+i) then _ else _)=_;rw [if_pos hfr]
   have hacc2:Acc lo H9.next 3 H2 (.slice (some ⟨H1.next,0,none⟩) ((opl ns reach frm i).length+1) ((opl ns reach frm i).length+1)) (opl ns reach frm (i+1)).length (cI (opl ns reach frm (i+1))):=by rw [hU,List.length_append,U8];exact aH2
   exact ⟨_,(i+1,_),by omega,⟨by simp only [];omega,rfl,hk,by omega,ca,hd,hacc2⟩,rfl,rfl,rfl,rfl,ivq (by simp only [];omega),trivial⟩
  ·have q2:¬ (¬ (cls ns reach ns.length ((frm+(i:Int)).toNat)=true)):=by simpa using q2
   have hfr:frB ns reach (frm+(i:Int))=false:=by rw [← yB (by omega)];simpa using q2
   first | refine Zj ?_ | skip
   show Zn _ _ _ _ _ _ _ _
   refine Za rfl<|Zo (a:=(frm+(i:Int))) (b:=1) rfl rfl ⟨by omega,by omega⟩<|Za rfl<|Zb ?_
   have hU:opl ns reach frm (i+1)=opl ns reach frm i:=by show (if frB ns reach (frm+i) then _ else _)=_;rw [if_neg (by rw [hfr];simp)]
   exact ⟨_,(i+1,_),by omega,⟨by simp only [];omega,rfl,hk,by omega,ca,hd,by simp only [];rw [hU];exact hacc⟩,rfl,rfl,rfl,rfl,ivq (by simp only [];omega),trivial⟩
 ·have q1:¬ ((frm+(i:Int))≤to_):=of_decide_eq_false q1
  first | (refine Zy ?_;show wC _ _ _ _ _ _ _ _ _) | skip
  refine Zc<|Za rfl<|Za rfl<|Zb ?_
  have ein:i=(to_+1 - frm).toNat:=by omega
  rw [ein] at hacc
  refine And.intro trivial (Or.inr ⟨H.next+3,by rw [e5],by omega,hd,fun H12 hn12 hk12=>?_⟩)
  exact ⟨_,rfl,(hacc.keepW hk12 (by omega)).lowf (by omega),hk.new hk12 (fun b q=>.inr (by simp at q;omega))⟩
end
end
end Go.Ax

/-! Waiting loads: each as_ early as_ it can be. -/
namespace Go.Ax
open Go Go.RowKit
def Wv (days limit:Int) (h:List Po) (l:Int):List Int→Option (Int × List Int)
 | []=>none
 | D :: os=>if l+ps (h.filter (yg (D - days)))≤limit then some (D,os) else Wv days limit h l os
def YM (days limit:Int):List Po→List Int→List Int→Option (List Int)
 | _,_,[]=>some []
 | h,os,l :: ls=>match Wv days limit h l os with
  | none=>none
  | some (D,os')=>(YM days limit (h ++ [⟨D,l⟩]) os' ls).map (D :: ·)
def scE:Option (List Int)→List Int × Int
 | some p=>(p,0)
 | none=>([],4)
section
variable {days limit:Int}
theorem zr {h:List Po} {l D:Int} {os:List Int} (q:l+ps (h.filter (yg (D - days)))≤limit):Wv days limit h l (D :: os)=some (D,os):=by unfold Wv;rw [if_pos q]
theorem zm {h:List Po} {l D:Int} {os:List Int} (q:¬ l+ps (h.filter (yg (D - days)))≤limit):Wv days limit h l (D :: os)=Wv days limit h l os:=by
 rw [Wv,if_neg q]
theorem z6 {h:List Po} {os os' ls:List Int} {l D:Int} (hf:Wv days limit h l os=some (D,os')) :
  (YM days limit h os (l :: ls)).map (h.map (·.d) ++ ·)=(YM days limit (h ++ [⟨D,l⟩]) os' ls).map ((h ++ [(⟨D,l⟩:Po)]).map (·.d) ++ ·):=by
 rw [YM,hf]
 simp only []
 cases YM days limit (h ++ [⟨D,l⟩]) os' ls with
 | none=>rfl
 | some p=>simp
theorem ZaA {h:List Po} {os ls:List Int} {l:Int} (hf:Wv days limit h l os=none):YM days limit h os (l :: ls)=none:=by
 rw [YM,hf]
theorem jr {h:List Po} {os:List Int}:(YM days limit h os []).map (h.map (·.d) ++ ·)=some (h.map (·.d)):=by simp [YM]
theorem jW {os ls:List Int}:(YM days limit [] os ls).map (([]:List Po).map (·.d) ++ ·)=YM days limit [] os ls:=by
 cases YM days limit [] os ls<;>rfl
end
theorem Zem {h:List Po} {c c':Int} (hc:c≤c'):(h.filter (yg c)).filter (yg c')=h.filter (yg c'):=by
 rw [List.filter_filter]
 refine List.filter_congr fun p _=>?_
 rw [Bool.eq_iff_iff,Bool.and_eq_true,YD,YD]
 omega
theorem ju {h:List Po} {c c':Int} (hs:Srt h) (hc:c≤c'):(h.filter (yg c)).dropWhile (old c')=h.filter (yg c'):=by
 rw [QW (List.Pairwise.sublist List.filter_sublist hs),Zem hc]
theorem Zcp {h:List Po} {c D l:Int} (hD:c < D):(h ++ [(⟨D,l⟩:Po)]).filter (yg c)=h.filter (yg c) ++ [⟨D,l⟩]:=by
 rw [List.filter_append,List.filter_cons_of_pos (YD.2 hD)];rfl
theorem Srt.snoc {h:List Po} {D l:Int} (hs:Srt h) (hd:∀ p,p∈h→p.d≤D):Srt (h ++ [⟨D,l⟩]):=by
 unfold Srt
 rw [List.pairwise_append]
 exact ⟨hs,List.pairwise_singleton _ _,fun a ha b hb=>by rw [List.mem_singleton] at hb;subst hb;exact hd a ha⟩
def op (ns:List Ns) (reach:Int) (day:Int):Nat→List Int
 | 0=>[]
 | n+1=>if frB ns reach day then day :: op ns reach (day+1) n else op ns reach (day+1) n
theorem jg {ns:List Ns} {reach:Int}:∀ {n:Nat} {day:Int},op ns reach day (n+1)=op ns reach day n ++ (if frB ns reach (day+n) then [day+n] else [])
 | 0,day=>by
  show (if frB ns reach day then day :: op ns reach (day+1) 0 else op ns reach (day+1) 0)=_
  simp [op]
 | n+1,day=>by
  have ih:=jg (ns:=ns) (reach:=reach) (n:=n) (day:=day+1)
  have e:day+1+(n:Int)=day+((n+1:Nat):Int):=by omega
  rw [e] at ih
  rw [op,ih,op]
  split<;>simp
theorem zj {ns:List Ns} {reach frm:Int}:∀ {k:Nat},opl ns reach frm k=op ns reach frm k
 | 0=>rfl
 | k+1=>by
  rw [jg,← zj (k:=k)]
  show (if frB ns reach (frm+k) then opl ns reach frm k ++ [frm+k] else opl ns reach frm k)=_
  split<;>simp
theorem yu {ns:List Ns} {reach:Int}:∀ {n:Nat} {day D:Int},D∈op ns reach day n→day≤D∧D < day+n∧frB ns reach D=true
 | 0,_,_,h=>by simp [op] at h
 | n+1,day,D,h=>by
  rw [op] at h
  by_cases q:frB ns reach day=true
  ·rw [if_pos q] at h
   rcases List.mem_cons.1 h with rfl | h
   ·exact ⟨Int.le_refl _,by omega,q⟩
   ·have:=yu h;exact ⟨by omega,by omega,this.2.2⟩
  ·rw [if_neg q] at h
   have:=yu h;exact ⟨by omega,by omega,this.2.2⟩
theorem KF {ns:List Ns} {reach:Int}:∀ {n:Nat} {day:Int},(op ns reach day n).Pairwise (· < ·)
 | 0,_=>List.Pairwise.nil
 | n+1,day=>by
  rw [op]
  split
  ·exact List.pairwise_cons.2 ⟨fun D hD=>by have:=yu hD;omega,KF⟩
  ·exact KF
end Go.Ax

/-
 Pool: waiting: earliest,Schedule (written by program).
-/
namespace Go.Ax
open Go Go.RowKit Go.Proofs

noncomputable section
theorem i3s:∃ i,Try.prog.info? 3=some i∧i.size=1:=by
 have h:(Try.prog.info? 3).map (fun i=>i.size)=some 1:=by kernel_rfl
 cases e:Try.prog.info? 3 with
 | none=>rw [e] at h;cases h
 | some i=>rw [e] at h;simp at h;exact ⟨i,rfl,h⟩
theorem Acc.keepL {lo f:Nat} {e:TypeId} {H H1:Hp} {v:Value} {n:Nat} {cs:List Value} {W:List Nat} (h:Acc lo f e H v n cs) (k:Zk H H1 W) (hw:∀ b,b∈(bkv v).toList→b ∉ W):Acc lo f e H1 v n cs:=
 h.imp id fun ⟨b,e1,h0,hf,hl,hn,hg⟩=>⟨b,e1,h0,hf,hl,Nat.lt_of_lt_of_le hn k.1,by rw [k.2 b hn (hw b (by rw [e1];simp [bkv]))];exact hg⟩
theorem Acc.blk {lo f:Nat} {e:TypeId} {H:Hp} {v:Value} {n:Nat} {cs:List Value} (h:Acc lo f e H v n cs):∀ x,x∈(bkv v).toList→f≤x∧x < H.next:=by
 intro x hx
 rcases h with ⟨_,_,rfl⟩ | ⟨b,rfl,_,h2,_,h3,_⟩
 ·simp [bkv] at hx
 ·simp [bkv] at hx;subst hx;exact ⟨h2,h3⟩
theorem zl {l m:List Int} {i:Nat} (h:i < l.length):(cI (l ++ m))[0+i * 1]? = some (iv (l.getD i 0)):=by
 rw [YI (by rw [List.length_append];omega),List.getD_eq_getElem?_getD,List.getElem?_append_left h,← List.getD_eq_getElem?_getD]
theorem Za1 {l:List Int} {k:Nat}:(cI l).drop (k * 1)=cI (l.drop k):=by rw [Nat.mul_one];simp [cI]
structure Sst (days limit:Int) (loads os0:List Int) (h:List Po) (os:List Int) (cc:Int) (i:Nat):Prop where
 len:h.length=i
 srt:Srt h
 vl:Vl h
 dy:Dy h
 osd:∀ D,D∈os→0≤D∧D≤16384
 up:os.Pairwise (· < ·)
 cc:∀ D,D∈os→cc≤D - days
 lt:∀ p,p∈h→∀ D,D∈os→p.d≤D
 tot:(YM days limit h os (loads.drop i)).map (h.map (·.d) ++ ·)=YM days limit [] os0 loads
section
variable {days limit:Int} {loads os0 os:List Int} {h:List Po} {cc:Int} {i j:Nat}
theorem jv {os:List Int} (hu:os.Pairwise (· < ·)) {j:Nat} (hj:j < os.length):∀ D,D∈os.drop (j+1)→os.getD j 0 < D:=by
 intro D hD
 have h1:(os.drop j).Pairwise (· < ·):=List.Pairwise.sublist (List.drop_sublist j os) hu
 rw [XW (z:=0) hj] at h1
 exact (List.pairwise_cons.1 h1).1 D hD
theorem Sst.next (s:Sst days limit loads os0 h os cc i) (hd:1≤days) (hi:i < loads.length) (hj:j < os.length) (hl:0≤loads.getD i 0∧loads.getD i 0≤72057594037927936)
  (hf:Wv days limit h (loads.getD i 0) os=Wv days limit h (loads.getD i 0) (os.drop j)) (hc:loads.getD i 0+ps (h.filter (yg (os.getD j 0 - days)))≤limit) :
  Sst days limit loads os0 (h ++ [⟨os.getD j 0,loads.getD i 0⟩]) (os.drop (j+1)) (os.getD j 0 - days) (i+1):=by
 have hD:os.getD j 0∈os:=YA hj
 have hup:=jv s.up hj
 have hsub:∀ D,D∈os.drop (j+1)→D∈os:=fun D q=>List.mem_of_mem_drop q
 have e1:Wv days limit h (loads.getD i 0) os=some (os.getD j 0,os.drop (j+1)):=by
  rw [hf,XW (z:=0) hj,zr hc]
 refine ⟨by rw [List.length_append,s.len];rfl,s.srt.snoc fun p hp=>s.lt p hp _ hD,fun p hp=>?_,fun p hp=>?_,fun D q=>s.osd D (hsub D q),List.Pairwise.sublist (List.drop_sublist _ _) s.up,fun D q=>by have:=hup D q;omega,fun p hp D q=>?_,?_⟩
 ·rcases List.mem_append.1 hp with q | q
  ·exact s.vl p q
  ·rw [List.mem_singleton] at q;subst q;exact hl
 ·rcases List.mem_append.1 hp with q | q
  ·exact s.dy p q
  ·rw [List.mem_singleton] at q;subst q;exact s.osd _ hD
 ·rcases List.mem_append.1 hp with r | r
  ·exact s.lt p r D (hsub D q)
  ·rw [List.mem_singleton] at r;subst r;exact Int.le_of_lt (hup D q)
 ·rw [← s.tot,XW (z:=0) hi,z6 e1]
theorem Sst.none (s:Sst days limit loads os0 h os cc i) (hi:i < loads.length) (hf:Wv days limit h (loads.getD i 0) os=none):scE (YM days limit [] os0 loads)=([],4):=by
 rw [← s.tot,XW (z:=0) hi,ZaA hf];rfl
theorem Sst.done (s:Sst days limit loads os0 h os cc i) (hi:i=loads.length):scE (YM days limit [] os0 loads)=(h.map (·.d),0):=by
 rw [← s.tot,hi,List.drop_length,jr];rfl
end
section
variable {kn:Kn} {lo:Nat} {H:Hp}
set_option maxRecDepth 100000 in
theorem Zce {x m:Int} {mb:Nat} (cm:Rd H mb [iv m]) (hlo:lo≤H.next):∃ H',FnX Try.prog kn lo 71 [iv x,pt mb] H (.bool (XG m x)) H'∧Zk H H' []:=by
 have key:=Zp (kn:=kn) (lo:=lo) (H:=H) (args:=[iv x,pt mb]) (Q:=fun w H'=>w=(.bool (XG m x))∧Zk H H' []) Try.func71 B71 N71 Z71 L71 (by simp) ?_
 ·obtain ⟨w,H',h,rfl,q⟩:=key;exact ⟨H',h,q⟩
 have hk:=Zk.refl H []
 refine Zc<|Za rfl<|Zb<|Zc<|Za rfl<|ZP (b:=mb) (o:=0) (v:=iv m) rfl cm rfl<|ZD rfl (XH) ?_
 intro tH1 H1 hH1 kH1
 have mH1:=kH1.1
 have hk:=hk.trans kH1
 have cm:=kH1.rd cm (by simp)
 cases tH1
 ·have thH1:inB x 0 m=false:=hH1
  have uhH1:=Wn thH1
  refine Zd (v:=.bool true) rfl rfl<|Za rfl<|Zb ?_
  exact And.intro trivial (Exists.intro _ (And.intro rfl ⟨congrArg Value.bool (show true=XG m x from (by symm;simp only [XG, *];try rfl)),hk⟩))
 ·have thH1:inB x 0 m=true:=hH1
  have uhH1:=Y5 thH1
  refine Zd (v:=.bool false) rfl rfl<|Za rfl<|Zb ?_
  exact And.intro trivial (Exists.intro _ (And.intro rfl ⟨congrArg Value.bool (show false=XG m x from (by symm;simp only [XG, *];try rfl)),hk⟩))
theorem Zb8 {loads mre:List Int} {la:Option Addr} {n lcap:Nat} (hs:Sl H la n lcap (cI (loads ++ mre))) (hl:loads.length=n) (hn:n≤1000000) {m:Int} {mb:Nat} (cm:Rd H mb [iv m]) (hlo:lo≤H.next):∃ x H',FnX Try.prog kn lo 80 [.slice la n lcap,.func (.func 71) #[] #[pt mb]] H (iv x) H'∧decide (x ≥ 0)=loads.any (XG m)∧Zk H H' []:=by
 have key:=Zp (kn:=kn) (lo:=lo) (H:=H) (args:=[.slice la n lcap,.func (.func 71) #[] #[pt mb]]) (Q:=fun w H'=>∃ x,w=iv x∧decide (x ≥ 0)=loads.any (XG m)∧Zk H H' []) Try.func80 B80 N80 Z80 L80 (by simp) ?_
 ·obtain ⟨w,H',h,x,rfl,r⟩:=key;exact ⟨x,H',h,r⟩
 have hk:=Zk.refl H []
 have fs:=hs.old
 refine Zc<|Za rfl<|Zb<|Zc<|Za rfl<|Zv (m:=n) rfl<|Za rfl<|Zb ?_
 refine Zt (fn:=Try.f80) Zfl N80 ZeT (fun i:Nat=>[(0,.slice la n lcap),(1,.func (.func 71) #[] #[pt mb]),(7,iv (n:Int)),(8,iv (i:Int))])
  (fun k i H'=>i+k=n∧Zk H H' []∧Sl H' la n lcap (cI (loads ++ mre))∧Rd H' mb [iv m]∧∀ j,j < i→XG m (loads.getD j 0)=false) n 0 ⟨by omega,hk,hs,cm,fun j h=>absurd h (Nat.not_lt_zero j)⟩ ⟨rfl,rfl,rfl,rfl,trivial⟩ ?_
 rintro k i L1 ⟨hik,hk,hs,cm,hall⟩
 have mk:=hk.1
 refine Zc<|Zx (a:=(i:Int)) (b:=(n:Int)) rfl rfl<|Zb ?_
 refine And.intro (fun q1=>?_) (fun q1=>?_)
 ·have q1:(i:Int) < (n:Int):=of_decide_eq_true q1
  have hi:i < n:=by omega
  rcases id hs with ⟨_,h0s,_⟩ | ⟨sb,es,rs,_⟩
  ·omega
  have ls:=rs.1
  have lsb2:=fs sb es
  first | refine Zj ?_ | skip
  refine Zc<|Za rfl<|Za rfl<|Zb<|Zc<|Za rfl<|Za rfl<|Za rfl<|YS (b:=sb) (o:=0) (k:=i) (j:=(i:Int)) (by rw [← es];rfl) rfl rfl hi<|ZP (b:=sb) (o:=0+i * 1) (v:=iv (loads.getD i 0)) rfl rs (zl (by omega)) ?_
  obtain ⟨H1,fH1,kH1⟩:=Zce (kn:=kn) (lo:=lo) (H:=L1) (x:=(loads.getD i 0)) cm (by omega)
  obtain ⟨tH1,eH1⟩:∃ t,t=XG m (loads.getD i 0):=⟨_,rfl⟩
  rw [← eH1] at fH1
  refine Zi (vs:=[iv (loads.getD i 0)]) rfl (Xa rfl (by simpa using fH1)) ?_
  have mH1:=kH1.1
  have hk:=hk.trans kH1
  have hs:=kH1.sl0 hs
  have cm:=kH1.rd cm (by simp)
  have rs:=kH1.rd rs (by simp)
  cases tH1
  ·have hb:XG m (loads.getD i 0)=false:=eH1.symm
   refine Zb<|ZQ ?_
   first | refine Zj ?_ | skip
   show Zn _ _ _ _ _ _ _ _
   refine Zo (a:=(i:Int)) (b:=1) rfl rfl ⟨by omega,by omega⟩<|Za rfl<|Zb ?_
   exact ⟨k - 1,i+1,by omega,⟨by omega,hk,hs,cm,fun j hj=>by rcases Nat.lt_or_ge j i with c | c;exact hall j c;rw [show j=i by omega];exact hb⟩,rfl,rfl,rfl,ivq (by omega),trivial⟩
  ·have hb:XG m (loads.getD i 0)=true:=eH1.symm
   refine Zb<|ZK<|Zc<|Za rfl<|Za rfl<|Zb ?_
   exact And.intro trivial (Exists.intro _ (And.intro rfl ⟨(i:Int),rfl,by rw [Uy (z:=0) (j:=i) (by omega) hb];exact decide_eq_true (by omega),hk⟩))
 ·have q1:¬ ((i:Int) < (n:Int)):=of_decide_eq_false q1
  first | (refine Zy ?_;show wC _ _ _ _ _ _ _ _ _) | skip
  refine Zc<|Za rfl<|Zb ?_
  exact And.intro trivial (Exists.intro _ (And.intro rfl ⟨-1,rfl,by rw [VT (z:=0) (fun j hj=>hall j (by omega))];rfl,hk⟩))
set_option maxRecDepth 100000 in
theorem Zb3 {loads mre:List Int} {la:Option Addr} {n lcap:Nat} (hs:Sl H la n lcap (cI (loads ++ mre))) (hl:loads.length=n) (hn:n≤1000000) {m:Int} {mb:Nat} (cm:Rd H mb [iv m]) (hlo:lo≤H.next):∃ H',FnX Try.prog kn lo 70 [.slice la n lcap,.func (.func 71) #[] #[pt mb]] H (.bool (loads.any (XG m))) H'∧Zk H H' []:=by
 have key:=Zp (kn:=kn) (lo:=lo) (H:=H) (args:=[.slice la n lcap,.func (.func 71) #[] #[pt mb]]) (Q:=fun w H'=>w=(.bool (loads.any (XG m)))∧Zk H H' []) Try.func70 B70 N70 Z70 L70 (by simp) ?_
 ·obtain ⟨w,H',h,rfl,q⟩:=key;exact ⟨H',h,q⟩
 have hk:=Zk.refl H []
 refine Zc<|Za rfl<|Zb<|Zc<|Za rfl<|Za rfl ?_
 obtain ⟨x,H1,fH1,hx,kH1⟩:=Zb8 (kn:=kn) (lo:=lo) (H:=H) hs hl hn cm (by omega)
 refine Zi (vs:=[.slice la n lcap,.func (.func 71) #[] #[pt mb]]) rfl (Ze fH1) ?_
 have mH1:=kH1.1
 have hk:=hk.trans kH1
 refine Jo (a:=x) (b:=0) rfl rfl<|Za rfl<|Zb ?_
 exact And.intro trivial (Exists.intro _ (And.intro rfl ⟨congrArg Value.bool hx,hk⟩))
set_option maxRecDepth 100000 in
theorem Zaj {loads mre:List Int} {la:Option Addr} {n lcap:Nat} (hs:Sl H la n lcap (cI (loads ++ mre))) (hl:loads.length=n) (hn:n≤1000000) {m:Int} (hlo:lo≤H.next):∃ H',FnX Try.prog kn lo 50 [.slice la n lcap,iv m] H (.bool (!loads.any (XG m))) H'∧Zk H H' []:=by
 have key:=Zp (kn:=kn) (lo:=lo) (H:=H) (args:=[.slice la n lcap,iv m]) (Q:=fun w H'=>w=(.bool (!loads.any (XG m)))∧Zk H H' []) Try.func50 B50 N50 Z50 L50 (by simp) ?_
 ·obtain ⟨w,H',h,rfl,q⟩:=key;exact ⟨H',h,q⟩
 have hk:=Zk.refl H []
 have fs:=hs.old
 refine Zc<|Yw (v:=iv m) rfl ?_
 intro H1 kH1 nH1 c1
 have c1:Cl H1 H.next [iv m]:=c1
 have mH1:=kH1.1
 have hk:=hk.trans kH1
 have hs:=kH1.sl0 hs
 refine Za rfl<|Zb<|Zc<|Za rfl<|Zd (v:=.func (.func 71) #[] #[pt H.next]) rfl (by kernel_rfl) ?_
 obtain ⟨H2,fH2,kH2⟩:=Zb3 (kn:=kn) (lo:=lo) (H:=H1) hs hl hn c1.rd (by omega)
 refine Zi (vs:=[.slice la n lcap,.func (.func 71) #[] #[pt H.next]]) rfl (Ze fH2) ?_
 have mH2:=kH2.1
 have hk:=hk.trans kH2
 have hs:=kH2.sl0 hs
 have c1:=kH2.cl c1 (by simp)
 refine Zd (v:=.bool (!(loads.any (XG m)))) rfl rfl<|Za rfl<|Zb ?_
 exact And.intro trivial (Exists.intro _ (And.intro rfl ⟨rfl,hk⟩))
set_option maxRecDepth 100000 in
set_option maxHeartbeats 4000000 in
theorem yp {loads mre:List Int} {la:Option Addr} {n lcap:Nat} (hs:Sl H la n lcap (cI (loads ++ mre))) (hl:loads.length=n) (hn:n≤64) {os0:List Int} {oa:Option Addr} {om oc:Nat} {days limit:Int} (ho:Qu lo 0 3 H oa om oc (cI os0)) (hol:os0.length=om) (homx:om≤1000000) (hosd:∀ D,D∈os0→0≤D∧D≤16384) (hup:os0.Pairwise (· < ·)) (hv:∀ l,l∈loads→0≤l∧l≤72057594037927936) (hdy:1≤days∧days≤366) (hlim:0≤limit∧limit≤72057594037927936) (hlo:lo≤H.next) :
  ∃ v pl e H',FnX Try.prog kn lo 51 [.slice la n lcap,.slice oa om oc,iv days,iv limit] H (.tuple #[v,iv e]) H'∧scE (YM days limit [] os0 loads)=(pl,e)∧Acc lo H.next 3 H' v pl.length (cI pl)∧Zk H H' []:=by
 have key:=Zp (kn:=kn) (lo:=lo) (H:=H) (args:=[.slice la n lcap,.slice oa om oc,iv days,iv limit]) (Q:=fun w H'=>∃ v pl e,w=.tuple #[v,iv e]∧scE (YM days limit [] os0 loads)=(pl,e)∧Acc lo H.next 3 H' v pl.length (cI pl)∧Zk H H' []) Try.func51 B51 N51 Z51 L51 (by simp) ?_
 ·obtain ⟨w,H',h,v,pl,e,rfl,q⟩:=key;exact ⟨v,pl,e,H',h,q⟩
 have hk:=Zk.refl H []
 have fs:=hs.old
 have hob:∀ x,x∈YO oa→x < H.next:=fun x hx=>(ho.blk x hx).2.2
 refine Zc<|Za rfl<|Za rfl<|Zb ?_
 first | refine Zda ?_ | refine Zcq ?_
 refine Zc<|Za rfl<|Zd (v:=.agg #[iv days,.slice none 0 0]) rfl (by kernel_rfl)<|YF ?_
 intro H1 kH1 nH1 c1
 have c1:Cl H1 H.next [iv 0,.slice none 0 0]:=c1
 have mH1:=kH1.1
 have hk:=hk.trans kH1
 have hs:=kH1.sl0 hs
 have ho:=ho.keep kH1 (fun x hx=>by have:=hob x hx;simp)
 refine Yk (b:=H.next) (o:=0) rfl rfl c1 (by omega) rfl rfl (by simp) ?_
 intro H2 kH2 nH2 sH2
 have mH2:=kH2.1
 have hk:=hk.new kH2 (fun b hb=>by simp at hb ⊢;omega)
 have hs:=kH2.sl hs (fun b e=>by have:=fs b e;first | (simp;done) | (simp;omega))
 have ho:=ho.keep kH2 (fun x hx=>by have:=hob x hx;simp;omega)
 have c1:Cl H2 H.next [iv days,.slice none 0 0]:=sH2
 refine Zb<|Zc<|Za rfl<|Zb ?_
 first | refine Zj ?_ | skip
 refine Zc<|Za rfl<|Zv (m:=n) rfl<|Za rfl<|Zb ?_
 refine Zt (fn:=Try.f51) Zff N51 Ze9 (fun z:Nat × Value × Option Addr × Nat × Nat=>[(1,.slice z.2.2.1 z.2.2.2.1 z.2.2.2.2),(2,iv days),(3,iv limit),(10,pt H.next),(11,z.2.1),(18,.slice la n lcap),(19,iv (n:Int)),(20,iv (z.1:Int))])
  (fun k z H'=>z.1+k=n∧Zk H H' []∧H.next < H'.next∧Sl H' la n lcap (cI (loads ++ mre))∧∃ qa1 c1 h os cc,Cl H' H.next [iv days,.slice qa1 (h.filter (yg cc)).length c1]∧Qu lo (H.next+1) 95 H' qa1 (h.filter (yg cc)).length c1 (poc (h.filter (yg cc)))∧Acc lo (H.next+1) 3 H' z.2.1 h.length (cI (h.map (·.d)))∧Qu lo 0 3 H' z.2.2.1 z.2.2.2.1 z.2.2.2.2 (cI os)∧os.length=z.2.2.2.1∧z.2.2.2.1≤1000000∧(∀ x,x∈YO z.2.2.1→x < H.next)∧(∀ x,x∈YO qa1→x ∉ (bkv z.2.1).toList)∧Sst days limit loads os0 h os cc z.1) n (0,.slice none 0 0,oa,om,oc) ⟨by simp,hk,by omega,hs,none,0,[],os0,-400,c1,Qu.nil,.inl ⟨rfl,rfl,rfl⟩,ho,hol,homx,hob,fun x hx=>by simp [YO] at hx,⟨rfl,List.Pairwise.nil,fun p hp=>by simp at hp,fun p hp=>by simp at hp,hosd,hup,fun D hD=>by have:=hosd D hD;omega,fun p hp=>by simp at hp,jW⟩⟩ ⟨rfl,rfl,rfl,rfl,rfl,rfl,rfl,rfl,trivial⟩ ?_
 rintro k ⟨i,wv,oa,om,oc⟩ L1 ⟨hik,hk,hnx,hs,qa1,c1,h,os,cc,cw,hq,hacc,ho,hol,homx,hob,hdj,s⟩
 simp only [] at hik hacc ho hol homx hob s;have mk:=hk.1;have hqb:=hq.blk;have hab:=hacc.blk;have hhl:=s.len;have hfl:=List.length_filter_le (yg cc) h
 refine Zc<|Zx (a:=(i:Int)) (b:=(n:Int)) rfl rfl<|Zb ?_
 refine And.intro (fun q1=>?_) (fun q1=>?_)
 ·have q1:(i:Int) < (n:Int):=of_decide_eq_true q1
  have hi:i < n:=by omega
  rcases id hs with ⟨_,h0s,_⟩ | ⟨sb,es,rs,_⟩
  ·omega
  have ls:=rs.1
  have lsb2:=fs sb es;have hld:=hv (loads.getD i 0) (YA (z:=0) (l:=loads) (i:=i) (by omega))
  first | refine Zj ?_ | skip
  refine Zc<|YS (b:=sb) (o:=0) (k:=i) (j:=(i:Int)) (by rw [← es];rfl) rfl rfl hi<|ZP (b:=sb) (o:=0+i * 1) (v:=iv (loads.getD i 0)) rfl rs (zl (by omega))<|Za rfl<|Zb<|Zc<|Za rfl<|Zv (m:=om) rfl<|Za rfl<|Zb ?_
  refine Zt (fn:=Try.f51) Zet N51 Zfd (fun j:Nat=>[(1,.slice oa om oc),(2,iv days),(3,iv limit),(10,pt H.next),(11,wv),(18,.slice la n lcap),(19,iv (n:Int)),(20,iv (i:Int)),(13,iv (loads.getD i 0)),(24,.slice oa om oc),(25,iv (om:Int)),(26,iv (j:Int))])
   (fun m j H'=>j+m=om∧Zk H H' []∧H.next < H'.next∧Sl H' la n lcap (cI (loads ++ mre))∧(∃ qa2 c2 cc2,Cl H' H.next [iv days,.slice qa2 (h.filter (yg cc2)).length c2]∧Qu lo (H.next+1) 95 H' qa2 (h.filter (yg cc2)).length c2 (poc (h.filter (yg cc2)))∧(∀ x,x∈YO qa2→x ∉ (bkv wv).toList)∧∀ D,D∈os.drop j→cc2≤D - days)∧Acc lo (H.next+1) 3 H' wv h.length (cI (h.map (·.d)))∧Qu lo 0 3 H' oa om oc (cI os)∧Wv days limit h (loads.getD i 0) os=Wv days limit h (loads.getD i 0) (os.drop j)) om 0 ⟨by omega,hk,by omega,hs,⟨qa1,c1,cc,cw,hq,hdj,fun D hD=>s.cc D (by simpa using hD)⟩,hacc,ho,by simp⟩ ⟨rfl,rfl,rfl,rfl,rfl,rfl,rfl,rfl,rfl,rfl,rfl,rfl,trivial⟩ ?_
  rintro m j L2 ⟨hjm,hk,hnx,hs,⟨qa2,c2,cc2,cw,hq,hdj,hcc2⟩,hacc,ho,hf⟩
  have mk:=hk.1;have hqb:=hq.blk;have hab:=hacc.blk;have hhl:=s.len;have hfl:=List.length_filter_le (yg cc2) h
  refine Zc<|Zx (a:=(j:Int)) (b:=(om:Int)) rfl rfl<|Zb ?_
  refine And.intro (fun q2=>?_) (fun q2=>?_)
  ·have q2:(j:Int) < (om:Int):=of_decide_eq_true q2
   have hj:j < om:=by omega
   obtain ⟨pb,po,p0,ep_,fp,lp,rp,dp⟩:=ho.pos (by omega)
   have hpb:=hob pb (by rw [ep_];simp [YO])
   have hDm:(os.getD j 0)∈os:=YA (by omega)
   have hDr:=s.osd _ hDm;have hcd:cc2≤(os.getD j 0) - days:=hcc2 _ (by rw [XW (z:=0) (show j < os.length by omega)];simp)
   have hdw:=ju s.srt hcd;have hfl3:=List.length_filter_le (yg ((os.getD j 0) - days)) h
   first | refine Zj ?_ | skip
   refine Zc<|Za rfl<|YS (b:=pb) (o:=po) (k:=j) (j:=(j:Int)) (by rw [← ep_];rfl) rfl rfl hj<|ZP (b:=pb) (o:=po+j * 1) (v:=iv (os.getD j 0)) rfl rp (yr dp (YI (l:=os) (i:=j) (by omega)) (by omega))<|Za rfl<|Za rfl<|Zb<|Zc<|Za rfl ?_
   obtain ⟨H3,qa3,n3,c3,fH3,kH3,cw,hq,hl3,hab3⟩:=jJ (kn:=kn) (lo:=lo) (H:=L2) cw hq rfl (by omega) (by omega) (by omega) (by omega) (s.dy.sub fun p hp=>(List.mem_filter.1 hp).1) (D:=(os.getD j 0)) (by omega) hdy
   refine Zi (vs:=[pt H.next,iv (os.getD j 0)]) rfl (Ze fH3) ?_
   rw [hdw] at hq hl3;subst hl3
   have mH3:=kH3.1
   have hk:=hk.new kH3 (fun b hb=>by simp at hb ⊢;omega)
   have hs:=kH3.sl hs (fun b e=>by have:=fs b e;first | (simp;done) | (simp;omega))
   have hacc:=hacc.keepL kH3 (fun x hx=>by have:=hab x hx;simp;omega)
   have ho:=ho.keep kH3 (fun x hx=>by have:=hob x hx;simp;omega)
   have rp:=kH3.rd rp (by first | (simp;done) | (simp;omega))
   have hqb:=hq.blk;have hdj:∀ x,x∈YO qa3→x ∉ (bkv wv).toList:=fun x hx=>hdj x (by rw [← hab3];exact hx)
   refine Zb<|Zc ?_
   obtain ⟨H4,fH4,kH4⟩:=Jp (kn:=kn) (lo:=lo) (H:=H3) cw hq rfl (by omega) (by omega) (by omega) (by omega) (s.vl.sub fun p hp=>(List.mem_filter.1 hp).1)
   refine Zi (vs:=[pt H.next]) rfl (Ze fH4) ?_
   have mH4:=kH4.1
   have hk:=hk.trans kH4
   have hs:=kH4.sl0 hs
   have hacc:=hacc.keepL kH4 (fun x hx=>by have:=hab x hx;simp)
   have ho:=ho.keep kH4 (fun x hx=>by have:=hob x hx;simp)
   have rp:=kH4.rd rp (by simp)
   have cw:=kH4.cl cw (by simp)
   have hq:=hq.keep kH4 (fun x hx=>by have:=hqb x hx;simp)
   have hpl:=jB (l:=(h.filter (yg ((os.getD j 0) - days)))) fun p hp=>(s.vl p (List.mem_filter.1 hp).1).1;have hph:=jy (l:=(h.filter (yg ((os.getD j 0) - days)))) (s.vl.sub fun p hp=>(List.mem_filter.1 hp).1)
   refine Za rfl<|Zo (a:=(ps (h.filter (yg ((os.getD j 0) - days))))) (b:=(loads.getD i 0)) rfl rfl ⟨by omega,by omega⟩<|Za rfl<|Y2 (a:=(ps (h.filter (yg ((os.getD j 0) - days))))+(loads.getD i 0)) (b:=limit) rfl rfl<|Zb ?_
   refine And.intro (fun q3=>?_) (fun q3=>?_)
   ·have q3:((ps (h.filter (yg ((os.getD j 0) - days))))+(loads.getD i 0)) > limit:=of_decide_eq_true q3
    first | (refine Zy ?_;show wC _ _ _ _ _ _ _ _ _) | skip
    show Zn _ _ _ _ _ _ _ _
    refine Zo (a:=(j:Int)) (b:=1) rfl rfl ⟨by omega,by omega⟩<|Za rfl<|Zb ?_
    exact ⟨m - 1,j+1,by omega,⟨by omega,hk,by omega,hs,⟨_,_,(os.getD j 0) - days,cw,hq,hdj,fun D hD=>by have:=jv s.up (by omega) D hD;omega⟩,hacc,ho,by rw [hf,XW (z:=0) (by omega),zm (by omega)]⟩,rfl,rfl,rfl,rfl,rfl,rfl,rfl,rfl,rfl,rfl,rfl,ivq (by omega),trivial⟩
   ·have q3:¬ (((ps (h.filter (yg ((os.getD j 0) - days))))+(loads.getD i 0)) > limit):=of_decide_eq_false q3
    first | refine Zj ?_ | skip
    refine Zc<|Za rfl<|Za rfl<|Zd (v:=.agg #[iv (os.getD j 0),iv (loads.getD i 0)]) rfl (by kernel_rfl) ?_
    have habo:=hacc.blk
    obtain ⟨H5,qa4,n4,c4,fH5,kH5,cw,hq,hl4,hfr⟩:=U0 (kn:=kn) (lo:=lo) (H:=H4) cw hq rfl (by omega) (by omega) (by omega) (by omega) (s.dy.sub fun p hp=>(List.mem_filter.1 hp).1) (by omega) (p:=(⟨(os.getD j 0),(loads.getD i 0)⟩:Po)) (by exact hDr) hdy
    refine Zi (vs:=[pt H.next,.agg (Po.f (⟨(os.getD j 0),(loads.getD i 0)⟩:Po)).toArray]) rfl (Ze fH5) ?_
    have hd2:(h.filter (yg ((os.getD j 0) - days))).dropWhile (old (((⟨(os.getD j 0),(loads.getD i 0)⟩:Po)).d - days)) ++ [(⟨(os.getD j 0),(loads.getD i 0)⟩:Po)]=(h ++ [(⟨(os.getD j 0),(loads.getD i 0)⟩:Po)]).filter (yg ((os.getD j 0) - days)):=by rw [ju s.srt (Int.le_refl _),Zcp (by omega)]
    rw [hd2] at hq hl4;subst hl4
    have hk:=hk.new kH5 (fun x hx=>.inr (by rcases List.mem_cons.1 hx with e | hx;omega;(have:=hqb _ hx;omega)))
    have hs:=kH5.sl hs (fun x e0 hx=>by have:=fs x e0;rcases List.mem_cons.1 hx with e | hx;omega;(have:=hqb _ hx;omega))
    have ho:=ho.keep kH5 (fun x hx hx2=>by have:=hob x hx;rcases List.mem_cons.1 hx2 with e | hx2;omega;(have:=hqb _ hx2;omega))
    have hacc:=hacc.keepL kH5 (fun x hx hx2=>by have:=hab x hx;rcases List.mem_cons.1 hx2 with e | hx2;omega;exact hdj x hx2 hx)
    have mH5:=kH5.1;have hqb:=hq.blk;have hab:=hacc.blk
    have hdj:∀ x,x∈YO qa4→x ∉ (bkv wv).toList:=fun x hx hx2=>by have:=hfr x hx;have:=habo x hx2;omega
    refine Zb<|Zc<|Za rfl<|Za rfl ?_
    obtain ⟨H6,hH6⟩:∃ H6,H5.new (.cells [iv (os.getD j 0)] 3 false)=H6:=⟨_,rfl⟩
    refine ZN (H':=H6) (k:=.heavy) rfl (by kernel_rfl) ((YE (v:=iv (os.getD j 0)) UV zo3 rfl rfl rfl (by decide)).trans (by rw [← hH6];rfl)) (fun b e=>by cases e) ?_
    obtain ⟨kH6,nH6,c6⟩:=Z2 hH6;clear hH6
    have c6:Cl H6 H5.next [iv (os.getD j 0)]:=c6
    have mH6:=kH6.1
    have hk:=hk.trans kH6
    have hs:=kH6.sl0 hs
    have hacc:=hacc.keepL kH6 (fun x hx=>by have:=hab x hx;simp)
    have ho:=ho.keep kH6 (fun x hx=>by have:=hob x hx;simp)
    have cw:=kH6.cl cw (by simp)
    have hq:=hq.keep kH6 (fun x hx=>by have:=hqb x hx;simp)
    obtain ⟨ax,cx,hwv,hqa⟩:=Qu.of_acc hacc
    subst hwv
    obtain ⟨H7,kdH7,eH7,dH7,aH7,kbH7⟩:=Vs (P:=Try.prog) (lo:=lo) (t1:=42) UV J8 (c6.sl (Nat.le_refl 1)) rfl (by decide) rfl (by rw [Uf,List.length_map];omega) (by omega) hqa (by omega) (f:=H.next+1) (by omega)
    refine ZN (k:=kdH7) rfl (by kernel_rfl) (eH7 _ _ _ _ _ _ _ rfl rfl) (by intro x hx;rcases dH7 with q | ⟨bH7,q,_⟩<;>rw [q] at hx<;>cases hx) ?_
    have hqn:=hqa.blk;have hdj2:∀ x,x∈YO ax→x∈(bkv (.slice ax h.length cx)).toList:=fun x hx=>by cases ax with | none=>simp [YO] at hx | some a0=>simpa [YO,bkv] using hx
    have hk:=hk.new kbH7 (fun x hx=>.inr (by have:=hqn x hx;omega))
    have hs:=kbH7.sl hs (fun x e0 hx=>by have:=fs x e0;have:=hqn x hx;omega)
    have ho:=ho.keep kbH7 (fun x hx hx2=>by have:=hob x hx;have:=hqn x hx2;omega)
    have cw:=kbH7.cl cw (fun hx=>by have:=hqn _ hx;omega)
    have hq:=hq.keep kbH7 (fun x hx hx2=>hdj x hx (hdj2 x hx2))
    have mH7:=kbH7.1
    have hdj:∀ x,x∈YO qa4→x ∉ (bkv (.slice (some (⟨H6.next,0,none⟩:Addr)) (h.length+1) (h.length+1))).toList:=fun x hx hx2=>by have:=hqb x hx;simp [bkv] at hx2;omega
    have hacc2:Acc lo (H.next+1) 3 H7 (.slice (some ⟨H6.next,0,none⟩) (h.length+1) (h.length+1)) (h ++ [(⟨(os.getD j 0),(loads.getD i 0)⟩:Po)]).length (cI ((h ++ [(⟨(os.getD j 0),(loads.getD i 0)⟩:Po)]).map (·.d))):=by rcases aH7 with ⟨q,_⟩ | ⟨_,_,_,b9,o9,c9,q,_⟩ | ⟨b9,o9,c9,q,q0,qa1,qa2,qa3,qa4,q5,q6⟩<;>cases q;rw [List.drop_zero] at q6;subst q6;exact .inr ⟨H6.next,by rw [List.length_append];rfl,by rw [List.length_append];exact q0,qa1,qa2,qa3,by rw [List.map_append,U8];exact qa4⟩
    have hqb:=hq.blk
    refine Za rfl<|Zb<|Zc<|Za rfl<|Za rfl<|Zo (a:=(j:Int)) (b:=1) rfl rfl ⟨by omega,by omega⟩ ?_
    obtain ⟨i3,hi3,hs3⟩:=i3s
    obtain ⟨o2,oc2,ob2,hsl,hb2,ho,hab2⟩:=UN (lo:=lo) (k:=j+1) (j:=((j:Int)+1)) J8 hi3 hs3 (by omega) ho (by rw [Uf,hol,Nat.mul_one]) (by omega) (by omega) (by omega)
    refine ZN (k:=.read ob2) rfl (by kernel_rfl) (hsl _ _ _ _ _ _ _ rfl rfl) (fun b e=>by cases e;exact hb2) ?_
    rw [Za1] at ho;have hob:∀ x,x∈YO o2→x < H.next:=fun x hx=>hob x (by rw [← hab2];exact hx)
    refine Za rfl<|Zb ?_
    first | (refine Zy ?_;show wC _ _ _ _ _ _ _ _ _) | skip
    show Zn _ _ _ _ _ _ _ _
    refine Zo (a:=(i:Int)) (b:=1) rfl rfl ⟨by omega,by omega⟩<|Za rfl<|Zb ?_
    exact ⟨k - 1,(i+1,_,_,_,_),by omega,⟨by simp only [];omega,hk,by omega,hs,_,_,h ++ [⟨(os.getD j 0),(loads.getD i 0)⟩],os.drop (j+1),(os.getD j 0) - days,cw,hq,hacc2,ho,by simp only [];rw [List.length_drop,hol],by simp only [];omega,hob,hdj,s.next (by omega) (by omega) (by omega) hld hf (by omega)⟩,rfl,rfl,rfl,rfl,rfl,rfl,rfl,ivq (by simp only [];omega),trivial⟩
  ·have q2:¬ ((j:Int) < (om:Int)):=of_decide_eq_false q2
   have hfn:Wv days limit h (loads.getD i 0) os=none:=by rw [hf,List.drop_eq_nil_of_le (by omega)];rfl
   first | (refine Zy ?_;show wC _ _ _ _ _ _ _ _ _) | skip
   refine Zc<|Za rfl<|Za rfl<|Zb ?_
   exact And.intro trivial (Exists.intro _ (And.intro rfl ⟨_,[],4,rfl,s.none (by omega) hfn,.inl ⟨rfl,rfl,rfl⟩,hk⟩))
 ·have q1:¬ ((i:Int) < (n:Int)):=of_decide_eq_false q1
  first | (refine Zy ?_;show wC _ _ _ _ _ _ _ _ _) | skip
  refine Zc<|Za rfl<|Za rfl<|Za rfl<|Zb ?_
  exact And.intro trivial (Exists.intro _ (And.intro rfl ⟨_,h.map (·.d),0,rfl,s.done (by omega),by rw [List.length_map];exact hacc.lowf (by omega),hk⟩))
end
end
end Go.Ax

/-
 Pool: Schedule,and the document of it (written by program).
-/
namespace Go.Ax
open Go Go.RowKit Go.Proofs

noncomputable section
def seT (loads:List Int) (ns:List Ns) (reach days limit frm to_:Int):List Int × Int:=
 if 64 < loads.length then ([],3) else if vN ns=false then ([],1) else if loads.any (XG 72057594037927936)=true∨inB limit 0 72057594037927936=false∨inB reach 0 63=false∨inB days 1 366=false∨inB frm 0 16384=false∨inB to_ 0 16384=false then ([],2) else scE (YM days limit [] (op ns reach frm (to_+1 - frm).toNat) loads)
section
variable {loads:List Int} {ns:List Ns} {reach days limit frm to_:Int}
theorem ZaN (h:64 < loads.length):seT loads ns reach days limit frm to_=([],3):=by unfold seT;rw [if_pos h]
theorem ZaT (h:¬ 64 < loads.length) (k:vN ns=false):seT loads ns reach days limit frm to_=([],1):=by unfold seT;rw [if_neg h,if_pos k]
theorem WI (h:¬ 64 < loads.length) (k:vN ns=true) (q:loads.any (XG 72057594037927936)=true∨inB limit 0 72057594037927936=false∨inB reach 0 63=false∨inB days 1 366=false∨inB frm 0 16384=false∨inB to_ 0 16384=false):seT loads ns reach days limit frm to_=([],2):=by unfold seT;rw [if_neg h,if_neg (by rw [k];decide),if_pos q]
theorem qW (h:¬ 64 < loads.length) (k:vN ns=true) (q1:loads.any (XG 72057594037927936)=false) (q2:inB limit 0 72057594037927936=true) (q3:inB reach 0 63=true) (q4:inB days 1 366=true) (q5:inB frm 0 16384=true) (q6:inB to_ 0 16384=true):seT loads ns reach days limit frm to_=scE (YM days limit [] (op ns reach frm (to_+1 - frm).toNat) loads):=by
 unfold seT;rw [if_neg h,if_neg (by rw [k];decide),if_neg (by rw [q1,q2,q3,q4,q5,q6];decide)]
theorem yk:(∃ e,seT loads ns reach days limit frm to_=([],e)∧(e=1∨e=2∨e=3))∨(¬ 64 < loads.length∧vN ns=true∧loads.any (XG 72057594037927936)=false∧(0≤limit∧limit≤72057594037927936)∧(0≤reach∧reach≤63)∧(1≤days∧days≤366)∧(0≤frm∧frm≤16384)∧(0≤to_∧to_≤16384)∧seT loads ns reach days limit frm to_=scE (YM days limit [] (op ns reach frm (to_+1 - frm).toNat) loads)):=by
 by_cases h:64 < loads.length
 ·exact .inl ⟨3,ZaN h,.inr (.inr rfl)⟩
 cases k:vN ns with
 | false=>exact .inl ⟨1,ZaT h k,.inl rfl⟩
 | true=>
  by_cases q:loads.any (XG 72057594037927936)=true∨inB limit 0 72057594037927936=false∨inB reach 0 63=false∨inB days 1 366=false∨inB frm 0 16384=false∨inB to_ 0 16384=false
  ·exact .inl ⟨2,WI h k q,.inr (.inl rfl)⟩
  ·simp only [not_or,Bool.not_eq_true,Bool.not_eq_false] at q
   obtain ⟨q1,q2,q3,q4,q5,q6⟩:=q
   exact .inr ⟨h,rfl,q1,Y5 q2,Y5 q3,Y5 q4,Y5 q5,Y5 q6,qW h k q1 q2 q3 q4 q5 q6⟩
end
def py (h:List Po) (c:Int) (k:Nat):Int:=ps ((h.take k).filter (yg c))
structure Rst (ns:List Ns) (reach days limit to_:Int) (loads os0:List Int) (h:List Po) (day:Int) (i:Nat):Prop where
 len:h.length=i
 vl:Vl h
 dy:Dy h
 ld:∀ k,k < i→(h.getD k Po.z).l=loads.getD k 0
 tot:(YM days limit h (op ns reach day (to_+1 - day).toNat) (loads.drop i)).map (h.map (·.d) ++ ·)=YM days limit [] os0 loads
section
variable {ns:List Ns} {reach days limit to_ day D:Int} {loads os0:List Int} {h:List Po} {i:Nat}
theorem Rst.next (s:Rst ns reach days limit to_ loads os0 h day i) (hi:i < loads.length) (hl:0≤loads.getD i 0∧loads.getD i 0≤72057594037927936) (hD:0≤D∧D≤16384) (hDt:D≤to_) (hfr:frB ns reach D=true)
  (hf:Wv days limit h (loads.getD i 0) (op ns reach day (to_+1 - day).toNat)=Wv days limit h (loads.getD i 0) (op ns reach D (to_+1 - D).toNat)) (hc:loads.getD i 0+py h (D - days) i≤limit) :
  Rst ns reach days limit to_ loads os0 (h ++ [⟨D,loads.getD i 0⟩]) (D+1) (i+1):=by
 have e0:(to_+1 - D).toNat=(to_+1 - (D+1)).toNat+1:=by omega
 have e1:Wv days limit h (loads.getD i 0) (op ns reach day (to_+1 - day).toNat)=some (D,op ns reach (D+1) (to_+1 - (D+1)).toNat):=by
  rw [hf,e0,op,if_pos hfr]
  refine zr ?_
  unfold py at hc
  rwa [List.take_of_length_le (by rw [s.len];exact Nat.le_refl _)] at hc
 refine ⟨by rw [List.length_append,s.len];rfl,fun p hp=>?_,fun p hp=>?_,fun k hk=>?_,?_⟩
 ·rcases List.mem_append.1 hp with q | q
  ·exact s.vl p q
  ·rw [List.mem_singleton] at q;subst q;exact hl
 ·rcases List.mem_append.1 hp with q | q
  ·exact s.dy p q
  ·rw [List.mem_singleton] at q;subst q;exact hD
 ·rw [List.getD_eq_getElem?_getD,List.getElem?_append,s.len]
  by_cases q:k < i
  ·rw [if_pos q,← List.getD_eq_getElem?_getD];exact s.ld k q
  ·rw [if_neg q,show k - i=0 by omega,show k=i by omega];rfl
 ·rw [← s.tot,XW (z:=0) hi,z6 e1]
theorem Rst.done (s:Rst ns reach days limit to_ loads os0 h day i) (hi:i=loads.length):scE (YM days limit [] os0 loads)=(h.map (·.d),0):=by
 rw [← s.tot,hi,List.drop_length,jr];rfl
end
section
variable {kn:Kn} {lo:Nat} {H:Hp}
set_option maxRecDepth 100000 in
set_option maxHeartbeats 4000000 in
theorem XO {loads mre:List Int} {la:Option Addr} {n lcap:Nat} (hs:Sl H la n lcap (cI (loads ++ mre))) (hl:loads.length=n) (hn:n≤1000000) {ns:List Ns} {na:Option Addr} {nn ncap:Nat} (hsn:Sl H na nn ncap (nsc ns)) (hln:ns.length=nn) (hnn:nn≤1000000) {reach days limit frm to_:Int} (h35:kn.b 35=none) (hlo:lo≤H.next):∃ v H',FnX Try.prog kn lo 22 [.slice la n lcap,.slice na nn ncap,iv reach,iv days,iv limit,iv frm,iv to_] H (.tuple #[v,iv (seT loads ns reach days limit frm to_).2]) H'∧Acc lo H.next 3 H' v (seT loads ns reach days limit frm to_).1.length (cI (seT loads ns reach days limit frm to_).1)∧Zk H H' []:=by
 have key:=Zp (kn:=kn) (lo:=lo) (H:=H) (args:=[.slice la n lcap,.slice na nn ncap,iv reach,iv days,iv limit,iv frm,iv to_]) (Q:=fun w H'=>∃ v,w=.tuple #[v,iv (seT loads ns reach days limit frm to_).2]∧Acc lo H.next 3 H' v (seT loads ns reach days limit frm to_).1.length (cI (seT loads ns reach days limit frm to_).1)∧Zk H H' []) Try.func22 B22 N22 Z22 L22 (by simp) ?_
 ·obtain ⟨w,H',h,v,rfl,q⟩:=key;exact ⟨v,H',h,q⟩
 have hk:=Zk.refl H []
 have fs:=hs.old
 have fn:=hsn.old
 refine Zc<|Za rfl<|Za rfl<|Zb<|Zc<|Za rfl<|Zv (m:=n) rfl<|Y2 (a:=(n:Int)) (b:=64) rfl rfl<|Zb ?_
 refine And.intro (fun q1=>?_) (fun q1=>?_)
 ·have q1:(n:Int) > 64:=of_decide_eq_true q1
  refine Zc<|Za rfl<|Za rfl<|Zb ?_
  exact And.intro trivial (Exists.intro _ (And.intro rfl ⟨_,by rw [ZaN (by omega)];rfl,by rw [ZaN (by omega)];exact .inl ⟨rfl,rfl,rfl⟩,hk⟩))
 ·have q1:¬ ((n:Int) > 64):=of_decide_eq_false q1
  first | refine Zj ?_ | skip
  refine Zc<|Za rfl<|ZD rfl (ZeB hsn hln hnn (by omega)) ?_
  intro tH1 H1 hH1 kH1
  have mH1:=kH1.1
  have hk:=hk.trans kH1
  have hs:=kH1.sl0 hs
  have hsn:=kH1.sl0 hsn
  cases tH1
  ·have hvn:vN ns=false:=hH1
   refine Zd (v:=.bool true) rfl rfl<|Zb<|ZK<|Zc<|Za rfl<|Za rfl<|Zb ?_
   exact And.intro trivial (Exists.intro _ (And.intro rfl ⟨_,by rw [ZaT (by omega) hvn];rfl,by rw [ZaT (by omega) hvn];exact .inl ⟨rfl,rfl,rfl⟩,hk⟩))
  ·have hvn:vN ns=true:=hH1
   obtain ⟨hl32,hanyN⟩:=ZfE hvn
   refine Zd (v:=.bool false) rfl rfl<|Zb<|ZQ ?_
   first | refine Zj ?_ | skip
   refine Zc<|Za rfl<|ZD rfl (Zaj hs hl hn (m:=72057594037927936) (by omega)) ?_
   intro tH2 H2 hH2 kH2
   have mH2:=kH2.1
   have hk:=hk.trans kH2
   have hs:=kH2.sl0 hs
   have hsn:=kH2.sl0 hsn
   cases tH2
   ·have hvi:loads.any (XG 72057594037927936)=true:=by simpa using hH2
    refine Zd (v:=.bool true) rfl rfl<|Za rfl<|Zh rfl<|Zh rfl<|Zh rfl<|Zd (v:=.bool true) rfl rfl<|Za rfl<|Zh rfl<|Zh rfl<|Zh rfl<|Zd (v:=.bool true) rfl rfl<|Zb<|ZK<|Zc<|Za rfl<|Za rfl<|Zb ?_
    exact And.intro trivial (Exists.intro _ (And.intro rfl ⟨_,by rw [WI (by omega) hvn (by first | exact .inl (by assumption) | exact .inr (.inl (by assumption)) | exact .inr (.inr (.inl (by assumption))) | exact .inr (.inr (.inr (.inl (by assumption)))) | exact .inr (.inr (.inr (.inr (.inl (by assumption))))) | exact .inr (.inr (.inr (.inr (.inr (by assumption))))))];rfl,by rw [WI (by omega) hvn (by first | exact .inl (by assumption) | exact .inr (.inl (by assumption)) | exact .inr (.inr (.inl (by assumption))) | exact .inr (.inr (.inr (.inl (by assumption)))) | exact .inr (.inr (.inr (.inr (.inl (by assumption))))) | exact .inr (.inr (.inr (.inr (.inr (by assumption))))))];exact .inl ⟨rfl,rfl,rfl⟩,hk⟩))
   ·have hvi:loads.any (XG 72057594037927936)=false:=by simpa using hH2
    refine Zd (v:=.bool false) rfl rfl<|Za rfl ?_
    refine Zl rfl (Za rfl ?_)
    refine Zl rfl (ZD rfl (XH) ?_)
    intro tH3 H3 hH3 kH3
    have mH3:=kH3.1
    have hk:=hk.trans kH3
    have hs:=kH3.sl0 hs
    have hsn:=kH3.sl0 hsn
    cases tH3
    ·have thH3:inB limit 0 72057594037927936=false:=hH3
     have uhH3:=Wn thH3
     refine Zl rfl (Zd (v:=.bool true) rfl rfl ?_)
     refine Zd (v:=.bool true) rfl rfl<|Za rfl<|Zh rfl<|Zh rfl<|Zh rfl<|Zd (v:=.bool true) rfl rfl<|Zb<|ZK<|Zc<|Za rfl<|Za rfl<|Zb ?_
     exact And.intro trivial (Exists.intro _ (And.intro rfl ⟨_,by rw [WI (by omega) hvn (by first | exact .inl (by assumption) | exact .inr (.inl (by assumption)) | exact .inr (.inr (.inl (by assumption))) | exact .inr (.inr (.inr (.inl (by assumption)))) | exact .inr (.inr (.inr (.inr (.inl (by assumption))))) | exact .inr (.inr (.inr (.inr (.inr (by assumption))))))];rfl,by rw [WI (by omega) hvn (by first | exact .inl (by assumption) | exact .inr (.inl (by assumption)) | exact .inr (.inr (.inl (by assumption))) | exact .inr (.inr (.inr (.inl (by assumption)))) | exact .inr (.inr (.inr (.inr (.inl (by assumption))))) | exact .inr (.inr (.inr (.inr (.inr (by assumption))))))];exact .inl ⟨rfl,rfl,rfl⟩,hk⟩))
    ·have thH3:inB limit 0 72057594037927936=true:=hH3
     have uhH3:=Y5 thH3
     refine Zl rfl (Zd (v:=.bool false) rfl rfl ?_)
     refine Zd (v:=.bool false) rfl rfl<|Za rfl ?_
     refine Zl rfl (Za rfl ?_)
     refine Zl rfl (ZD rfl (XH) ?_)
     intro tH4 H4 hH4 kH4
     have mH4:=kH4.1
     have hk:=hk.trans kH4
     have hs:=kH4.sl0 hs
     have hsn:=kH4.sl0 hsn
     cases tH4
     ·have thH4:inB reach 0 63=false:=hH4
      have uhH4:=Wn thH4
      refine Zl rfl (Zd (v:=.bool true) rfl rfl ?_)
      refine Zd (v:=.bool true) rfl rfl<|Zb<|ZK<|Zc<|Za rfl<|Za rfl<|Zb ?_
      exact And.intro trivial (Exists.intro _ (And.intro rfl ⟨_,by rw [WI (by omega) hvn (by first | exact .inl (by assumption) | exact .inr (.inl (by assumption)) | exact .inr (.inr (.inl (by assumption))) | exact .inr (.inr (.inr (.inl (by assumption)))) | exact .inr (.inr (.inr (.inr (.inl (by assumption))))) | exact .inr (.inr (.inr (.inr (.inr (by assumption))))))];rfl,by rw [WI (by omega) hvn (by first | exact .inl (by assumption) | exact .inr (.inl (by assumption)) | exact .inr (.inr (.inl (by assumption))) | exact .inr (.inr (.inr (.inl (by assumption)))) | exact .inr (.inr (.inr (.inr (.inl (by assumption))))) | exact .inr (.inr (.inr (.inr (.inr (by assumption))))))];exact .inl ⟨rfl,rfl,rfl⟩,hk⟩))
     ·have thH4:inB reach 0 63=true:=hH4
      have uhH4:=Y5 thH4
      refine Zl rfl (Zd (v:=.bool false) rfl rfl ?_)
      refine Zd (v:=.bool false) rfl rfl<|Zb<|ZQ ?_
      first | refine Zj ?_ | skip
      refine Zc<|Za rfl<|ZD rfl (zb) ?_
      intro tH5 H5 hH5 kH5
      have mH5:=kH5.1
      have hk:=hk.trans kH5
      have hs:=kH5.sl0 hs
      have hsn:=kH5.sl0 hsn
      cases tH5
      ·have thH5:inB days 1 366=false:=hH5
       have uhH5:=Wn thH5
       refine Zd (v:=.bool true) rfl rfl<|Za rfl<|Zh rfl<|Zh rfl<|Zh rfl<|Zd (v:=.bool true) rfl rfl<|Za rfl<|Zh rfl<|Zh rfl<|Zh rfl<|Zd (v:=.bool true) rfl rfl<|Zb<|ZK<|Zc<|Za rfl<|Za rfl<|Zb ?_
       exact And.intro trivial (Exists.intro _ (And.intro rfl ⟨_,by rw [WI (by omega) hvn (by first | exact .inl (by assumption) | exact .inr (.inl (by assumption)) | exact .inr (.inr (.inl (by assumption))) | exact .inr (.inr (.inr (.inl (by assumption)))) | exact .inr (.inr (.inr (.inr (.inl (by assumption))))) | exact .inr (.inr (.inr (.inr (.inr (by assumption))))))];rfl,by rw [WI (by omega) hvn (by first | exact .inl (by assumption) | exact .inr (.inl (by assumption)) | exact .inr (.inr (.inl (by assumption))) | exact .inr (.inr (.inr (.inl (by assumption)))) | exact .inr (.inr (.inr (.inr (.inl (by assumption))))) | exact .inr (.inr (.inr (.inr (.inr (by assumption))))))];exact .inl ⟨rfl,rfl,rfl⟩,hk⟩))
      ·have thH5:inB days 1 366=true:=hH5
       have uhH5:=Y5 thH5
       refine Zd (v:=.bool false) rfl rfl<|Za rfl ?_
       refine Zl rfl (Za rfl ?_)
       refine Zl rfl (ZD rfl (XH) ?_)
       intro tH6 H6 hH6 kH6
       have mH6:=kH6.1
       have hk:=hk.trans kH6
       have hs:=kH6.sl0 hs
       have hsn:=kH6.sl0 hsn
       cases tH6
       ·have thH6:inB frm 0 16384=false:=hH6
        have uhH6:=Wn thH6
        refine Zl rfl (Zd (v:=.bool true) rfl rfl ?_)
        refine Zd (v:=.bool true) rfl rfl<|Za rfl<|Zh rfl<|Zh rfl<|Zh rfl<|Zd (v:=.bool true) rfl rfl<|Zb<|ZK<|Zc<|Za rfl<|Za rfl<|Zb ?_
        exact And.intro trivial (Exists.intro _ (And.intro rfl ⟨_,by rw [WI (by omega) hvn (by first | exact .inl (by assumption) | exact .inr (.inl (by assumption)) | exact .inr (.inr (.inl (by assumption))) | exact .inr (.inr (.inr (.inl (by assumption)))) | exact .inr (.inr (.inr (.inr (.inl (by assumption))))) | exact .inr (.inr (.inr (.inr (.inr (by assumption))))))];rfl,by rw [WI (by omega) hvn (by first | exact .inl (by assumption) | exact .inr (.inl (by assumption)) | exact .inr (.inr (.inl (by assumption))) | exact .inr (.inr (.inr (.inl (by assumption)))) | exact .inr (.inr (.inr (.inr (.inl (by assumption))))) | exact .inr (.inr (.inr (.inr (.inr (by assumption))))))];exact .inl ⟨rfl,rfl,rfl⟩,hk⟩))
       ·have thH6:inB frm 0 16384=true:=hH6
        have uhH6:=Y5 thH6
        refine Zl rfl (Zd (v:=.bool false) rfl rfl ?_)
        refine Zd (v:=.bool false) rfl rfl<|Za rfl ?_
        refine Zl rfl (Za rfl ?_)
        refine Zl rfl (ZD rfl (XH) ?_)
        intro tH7 H7 hH7 kH7
        have mH7:=kH7.1
        have hk:=hk.trans kH7
        have hs:=kH7.sl0 hs
        have hsn:=kH7.sl0 hsn
        cases tH7
        ·have thH7:inB to_ 0 16384=false:=hH7
         have uhH7:=Wn thH7
         refine Zl rfl (Zd (v:=.bool true) rfl rfl ?_)
         refine Zd (v:=.bool true) rfl rfl<|Zb<|ZK<|Zc<|Za rfl<|Za rfl<|Zb ?_
         exact And.intro trivial (Exists.intro _ (And.intro rfl ⟨_,by rw [WI (by omega) hvn (by first | exact .inl (by assumption) | exact .inr (.inl (by assumption)) | exact .inr (.inr (.inl (by assumption))) | exact .inr (.inr (.inr (.inl (by assumption)))) | exact .inr (.inr (.inr (.inr (.inl (by assumption))))) | exact .inr (.inr (.inr (.inr (.inr (by assumption))))))];rfl,by rw [WI (by omega) hvn (by first | exact .inl (by assumption) | exact .inr (.inl (by assumption)) | exact .inr (.inr (.inl (by assumption))) | exact .inr (.inr (.inr (.inl (by assumption)))) | exact .inr (.inr (.inr (.inr (.inl (by assumption))))) | exact .inr (.inr (.inr (.inr (.inr (by assumption))))))];exact .inl ⟨rfl,rfl,rfl⟩,hk⟩))
        ·have thH7:inB to_ 0 16384=true:=hH7
         have uhH7:=Y5 thH7
         refine Zl rfl (Zd (v:=.bool false) rfl rfl ?_)
         refine Zd (v:=.bool false) rfl rfl<|Zb<|ZQ ?_
         first | refine Zj ?_ | skip
         refine Zc<|Za rfl<|Za rfl<|Za rfl<|Za rfl<|Za rfl ?_
         obtain ⟨vo,H8,fH8,haccO,kH8⟩:=yq (kn:=kn) (lo:=lo) (H:=H7) (reach:=reach) (frm:=frm) (to_:=to_) hsn hln (by omega) hanyN (by omega) (by omega) (by omega)
         obtain ⟨oa,oc,rfl,hqo⟩:=Qu.of_acc haccO;have hqo:=hqo.mono (Nat.zero_le _);rw [zj] at hqo
         refine Zi (vs:=[.slice na nn ncap,iv reach,iv frm,iv to_]) rfl (Ze fH8) ?_
         have mH8:=kH8.1
         have hk:=hk.trans kH8
         have hs:=kH8.sl0 hs
         have hsn:=kH8.sl0 hsn
         have hol:(op ns reach frm (to_+1 - frm).toNat).length≤16385:=by rw [← zj];exact Nat.le_trans K4 (by omega)
         rw [zj]
         refine Za rfl<|Za rfl ?_
         obtain ⟨ve,pl,ee,H9,fH9,hse0,hacc,kH9⟩:=yp (kn:=kn) (lo:=lo) (H:=H8) hs hl (by omega) hqo rfl (by omega) (fun D hD=>by have:=yu hD;omega) KF (fun l hl2=>by have:=QU hvi l hl2;simp only [XG,Bool.not_eq_false'] at this;exact Y5 this) (days:=days) (limit:=limit) (by omega) (by omega) (by omega)
         refine Zi (vs:=[.slice la n lcap,.slice oa ((op ns reach frm (to_+1 - frm).toNat).length) oc,iv days,iv limit]) rfl (Ze fH9) ?_
         have mH9:=kH9.1
         have hk:=hk.trans kH9
         have hs:=kH9.sl0 hs
         have hsn:=kH9.sl0 hsn
         have hqo:=hqo.keep kH9 (fun x hx=>by simp)
         have hse:seT loads ns reach days limit frm to_=(pl,ee):=(qW (by omega) hvn hvi (by assumption) (by assumption) (by assumption) (by assumption) (by assumption)).trans hse0
         have hacc:=hacc.lowf (f':=H.next) (by omega)
         refine Zd (v:=ve) rfl (by kernel_rfl)<|Zd (v:=iv ee) rfl (by kernel_rfl)<|Za rfl<|Za rfl<|Zb ?_
         exact And.intro trivial (Exists.intro _ (And.intro rfl ⟨_,by rw [hse];rfl,by rw [hse];exact hacc,hk⟩))
set_option maxRecDepth 100000 in
theorem Q9 {ns:List Ns} {na:Option Addr} {nn ncap:Nat} (hsn:Sl H na nn ncap (nsc ns)) (hln:ns.length=nn) (hnn:nn≤1000000) {reach D:Int} (hlo:lo≤H.next):∃ H',FnX Try.prog kn lo 54 [.slice na nn ncap,iv reach,iv D] H (.bool (frB ns reach D)) H'∧Zk H H' []:=by
 have key:=Zp (kn:=kn) (lo:=lo) (H:=H) (args:=[.slice na nn ncap,iv reach,iv D]) (Q:=fun w H'=>w=(.bool (frB ns reach D))∧Zk H H' []) Try.func54 B54 N54 Z54 L54 (by simp) ?_
 ·obtain ⟨w,H',h,rfl,q⟩:=key;exact ⟨H',h,q⟩
 have hk:=Zk.refl H []
 have fn:=hsn.old
 refine Zc<|Za rfl<|Zb<|Zc<|Za rfl<|Zb ?_
 refine Zt (fn:=Try.f54) ZeF N54 Zep (fun i:Nat=>[(0,.slice na nn ncap),(1,iv reach),(2,iv D),(7,iv (i:Int))])
  (fun k i H'=>i+k=nn∧Zk H H' []∧Sl H' na nn ncap (nsc ns)∧∀ j,j < i→nsB reach D (ns.getD j Ns.z)=false) nn 0 ⟨by omega,hk,hsn,fun j h=>absurd h (Nat.not_lt_zero j)⟩ ⟨rfl,rfl,rfl,rfl,trivial⟩ ?_
 rintro k i L1 ⟨hik,hk,hsn,hall⟩
 have mk:=hk.1
 refine Zc<|Za rfl<|Za rfl<|Zv (m:=nn) rfl<|Zx (a:=(i:Int)) (b:=(nn:Int)) rfl rfl<|Zb ?_
 refine And.intro (fun q1=>?_) (fun q1=>?_)
 ·have q1:(i:Int) < (nn:Int):=of_decide_eq_true q1
  have hi:i < nn:=by omega
  rcases id hsn with ⟨_,h0s,_⟩ | ⟨sb,es,rs,_⟩
  ·omega
  have ls:=rs.1
  have lsb2:=fn sb es
  first | refine Zj ?_ | skip
  refine Yq<|Zg rfl<|Zg rfl<|ZC (b:=sb) (o:=0) (k:=i) (j:=(i:Int)) (by rw [← es];rfl) rfl rfl hi<|ZX (b:=sb) (o:=0+i * 3) rfl<|Yf (b:=sb) (o:=0+i * 3) (v:=iv ((ns.getD i Ns.z).r)) rfl rs (K9 (l:=ns) (i:=i) (j:=0) (by omega) rfl)<|Zg rfl<|J1 (a:=(ns.getD i Ns.z).r) (b:=reach) rfl rfl ?_
  intro t2 g2;cases t2
  ·have g2:¬ (((ns.getD i Ns.z).r)=reach):=by simpa using g2
   refine Zg rfl<|Zz rfl<|Zz rfl<|Zz rfl<|Zz rfl<|Zz rfl<|Zz rfl<|Zz rfl<|Zz rfl<|Zz rfl<|Zz rfl<|Zz rfl<|Zz rfl<|ZH (v:=.bool false) rfl rfl ?_
   refine ZL (by repeat' first | exact True.intro | exact (fun h=>h) | refine And.intro ?_ ?_ | (intro h;have h:(_:Nat)=_:=h;omega)) ?_
   refine ZQ ?_
   first | refine Zj ?_ | skip
   show Zn _ _ _ _ _ _ _ _
   refine Za rfl<|Zo (a:=(i:Int)) (b:=1) rfl rfl ⟨by omega,by omega⟩<|Za rfl<|Zb ?_
   have hb:nsB reach D (ns.getD i Ns.z)=false:=by unfold nsB;first | (rw [decide_eq_false (by assumption)];rfl) | (rw [show inB D (ns.getD i Ns.z).a (ns.getD i Ns.z).b=false by assumption];simp)
   exact ⟨k - 1,i+1,by omega,⟨by omega,hk,hsn,fun j hj=>by rcases Nat.lt_or_ge j i with c | c;exact hall j c;rw [show j=i by omega];exact hb⟩,rfl,rfl,rfl,ivq (by omega),trivial⟩
  ·have g2:((ns.getD i Ns.z).r)=reach:=by simpa using g2
   refine Zg rfl ?_
   refine ZE rfl (Zg rfl ?_)
   refine ZE rfl (Zg rfl ?_)
   refine ZE rfl (Zg rfl ?_)
   refine ZE rfl (ZC (b:=sb) (o:=0) (k:=i) (j:=(i:Int)) (by rw [← es];rfl) rfl rfl hi ?_)
   refine ZE rfl (ZX (b:=sb) (o:=0+i * 3) rfl ?_)
   refine ZE rfl (Yf (b:=sb) (o:=0+i * 3+1) (v:=iv ((ns.getD i Ns.z).a)) rfl rs (K9 (l:=ns) (i:=i) (j:=1) (by omega) rfl) ?_)
   refine ZE rfl (Zg rfl ?_)
   refine ZE rfl (Zg rfl ?_)
   refine ZE rfl (ZC (b:=sb) (o:=0) (k:=i) (j:=(i:Int)) (by rw [← es];rfl) rfl rfl hi ?_)
   refine ZE rfl (ZX (b:=sb) (o:=0+i * 3) rfl ?_)
   refine ZE rfl (Yf (b:=sb) (o:=0+i * 3+2) (v:=iv ((ns.getD i Ns.z).b)) rfl rs (K9 (l:=ns) (i:=i) (j:=2) (by omega) rfl) ?_)
   refine Za9 (Zcl) ?_
   intro tH1 H1 hH1 kH1
   have mH1:=kH1.1
   have hk:=hk.trans kH1
   have hsn:=kH1.sl0 hsn
   have rs:=kH1.rd rs (by simp)
   cases tH1
   ·have thH1:inB D ((ns.getD i Ns.z).a) ((ns.getD i Ns.z).b)=false:=hH1
    have uhH1:=Wn thH1
    refine ZH (v:=.bool false) rfl rfl ?_
    refine ZL (by repeat' first | exact True.intro | exact (fun h=>h) | refine And.intro ?_ ?_ | (intro h;have h:(_:Nat)=_:=h;omega)) ?_
    refine ZQ ?_
    first | refine Zj ?_ | skip
    show Zn _ _ _ _ _ _ _ _
    refine Za rfl<|Zo (a:=(i:Int)) (b:=1) rfl rfl ⟨by omega,by omega⟩<|Za rfl<|Zb ?_
    have hb:nsB reach D (ns.getD i Ns.z)=false:=by unfold nsB;first | (rw [decide_eq_false (by assumption)];rfl) | (rw [show inB D (ns.getD i Ns.z).a (ns.getD i Ns.z).b=false by assumption];simp)
    exact ⟨k - 1,i+1,by omega,⟨by omega,hk,hsn,fun j hj=>by rcases Nat.lt_or_ge j i with c | c;exact hall j c;rw [show j=i by omega];exact hb⟩,rfl,rfl,rfl,ivq (by omega),trivial⟩
   ·have thH1:inB D ((ns.getD i Ns.z).a) ((ns.getD i Ns.z).b)=true:=hH1
    have uhH1:=Y5 thH1
    refine ZH (v:=.bool true) rfl rfl ?_
    refine ZL (by repeat' first | exact True.intro | exact (fun h=>h) | refine And.intro ?_ ?_ | (intro h;have h:(_:Nat)=_:=h;omega)) ?_
    refine ZK<|Zc<|Za rfl<|Zb ?_
    have hb:nsB reach D (ns.getD i Ns.z)=true:=by unfold nsB;rw [decide_eq_true (by assumption),show inB D (ns.getD i Ns.z).a (ns.getD i Ns.z).b=true by assumption];rfl
    have hvf:frB ns reach D=false:=by unfold frB;rw [Uy (z:=Ns.z) (j:=i) (by omega) hb];rfl
    exact And.intro trivial (Exists.intro _ (And.intro rfl ⟨congrArg Value.bool hvf.symm,hk⟩))
 ·have q1:¬ ((i:Int) < (nn:Int)):=of_decide_eq_false q1
  first | (refine Zy ?_;show wC _ _ _ _ _ _ _ _ _) | skip
  refine Zc<|Za rfl<|Zb ?_
  have hvf:frB ns reach D=true:=by unfold frB;rw [VT (z:=Ns.z) (fun j hj=>hall j (by omega))];rfl
  exact And.intro trivial (Exists.intro _ (And.intro rfl ⟨congrArg Value.bool hvf.symm,hk⟩))
set_option maxRecDepth 100000 in
theorem Wm {xs m1 m2:List Int} {a1 a2:Option Addr} {n c1 c2:Nat} (ha:Sl H a1 n c1 (cI (xs ++ m1))) (hb:Sl H a2 n c2 (cI (xs ++ m2))) (hl:xs.length=n) (hn:n≤1000000) (hlo:lo≤H.next):∃ H',FnX Try.prog kn lo 24 [.slice a1 n c1,.slice a2 n c2] H (.bool true) H'∧Zk H H' []:=by
 have key:=Zp (kn:=kn) (lo:=lo) (H:=H) (args:=[.slice a1 n c1,.slice a2 n c2]) (Q:=fun w H'=>w=(.bool true)∧Zk H H' []) Try.func24 B24 N24 Z24 L24 (by simp) ?_
 ·obtain ⟨w,H',h,rfl,q⟩:=key;exact ⟨H',h,q⟩
 have hk:=Zk.refl H []
 have fa:=ha.old
 have fb:=hb.old
 refine Zc<|Za rfl<|Zb<|Zc<|Za rfl<|Zv (m:=n) rfl<|Za rfl<|Zv (m:=n) rfl<|X6 (a:=(n:Int)) (b:=(n:Int)) rfl rfl<|Zb ?_
 refine And.intro (fun q1=>?_) (fun q1=>?_)
 ·have q1:(n:Int)≠(n:Int):=by simpa using q1
  omega
 ·have q1:¬ ((n:Int)≠(n:Int)):=by simpa using q1
  first | refine Zj ?_ | skip
  refine Zc<|Za rfl<|Zb ?_
  refine Zt (fn:=Try.f24) ZeZ N24 Zev (fun i:Nat=>[(0,.slice a1 n c1),(1,.slice a2 n c2),(5,iv (i:Int))])
   (fun k i H'=>i+k=n∧Zk H H' []∧Sl H' a1 n c1 (cI (xs ++ m1))∧Sl H' a2 n c2 (cI (xs ++ m2))) n 0 ⟨by omega,hk,ha,hb⟩ ⟨rfl,rfl,rfl,trivial⟩ ?_
  rintro k i L1 ⟨hik,hk,ha,hb⟩
  have mk:=hk.1
  refine Zc<|Za rfl<|Za rfl<|Zv (m:=n) rfl<|Zx (a:=(i:Int)) (b:=(n:Int)) rfl rfl<|Zb ?_
  refine And.intro (fun q2=>?_) (fun q2=>?_)
  ·have q2:(i:Int) < (n:Int):=of_decide_eq_true q2
   have hi:i < n:=by omega
   rcases id ha with ⟨_,h0s,_⟩ | ⟨sb,es,rs,_⟩
   ·omega
   have ls:=rs.1
   rcases id hb with ⟨_,h0t,_⟩ | ⟨tb,et,rt,_⟩
   ·omega
   have lt:=rt.1
   have lsb2:=fa sb es;have ltb2:=fb tb et
   first | refine Zj ?_ | skip
   refine Yq<|Zg rfl<|Zg rfl<|ZC (b:=sb) (o:=0) (k:=i) (j:=(i:Int)) (by rw [← es];rfl) rfl rfl hi<|Yf (b:=sb) (o:=0+i * 1) (v:=iv (xs.getD i 0)) rfl rs (zl (by omega))<|Zg rfl<|Zg rfl<|ZC (b:=tb) (o:=0) (k:=i) (j:=(i:Int)) (by rw [← et];rfl) rfl rfl hi<|Yf (b:=tb) (o:=0+i * 1) (v:=iv (xs.getD i 0)) rfl rt (zl (by omega))<|ZaY (a:=(xs.getD i 0)) (b:=(xs.getD i 0)) rfl rfl ?_
   refine ZL (by repeat' first | exact True.intro | exact (fun h=>h) | refine And.intro ?_ ?_ | (intro h;have h:(_:Nat)=_:=h;omega)) ?_
   refine And.intro (fun q3=>?_) (fun q3=>?_)
   ·have q3:(xs.getD i 0)≠(xs.getD i 0):=by simpa using q3
    omega
   ·have q3:¬ ((xs.getD i 0)≠(xs.getD i 0)):=by simpa using q3
    first | refine Zj ?_ | skip
    show Zn _ _ _ _ _ _ _ _
    refine Za rfl<|Zo (a:=(i:Int)) (b:=1) rfl rfl ⟨by omega,by omega⟩<|Za rfl<|Zb ?_
    exact ⟨k - 1,i+1,by omega,⟨by omega,hk,ha,hb⟩,rfl,rfl,ivq (by omega),trivial⟩
  ·have q2:¬ ((i:Int) < (n:Int)):=of_decide_eq_false q2
   first | (refine Zy ?_;show wC _ _ _ _ _ _ _ _ _) | skip
   refine Zc<|Za rfl<|Zb ?_
   exact And.intro trivial (Exists.intro _ (And.intro rfl ⟨rfl,hk⟩))
theorem XF {loads:List Int} {la:Option Addr} {n lcap:Nat} (hs:Sl H la n lcap (cI loads)) (hl:loads.length=n) (hn:n≤1000000) {ns:List Ns} {na:Option Addr} {nn ncap:Nat} (hsn:Sl H na nn ncap (nsc ns)) (hln:ns.length=nn) (hnn:nn≤1000000) {reach days limit frm to_:Int} (h35:kn.b 35=none) (hlo:lo≤H.next):∃ v H',FnX Try.prog kn lo 22 [.slice la n lcap,.slice na nn ncap,iv reach,iv days,iv limit,iv frm,iv to_] H (.tuple #[v,iv (seT loads ns reach days limit frm to_).2]) H'∧Acc lo H.next 3 H' v (seT loads ns reach days limit frm to_).1.length (cI (seT loads ns reach days limit frm to_).1)∧Zk H H' []:=
 XO (mre:=[]) (by rw [List.append_nil];exact hs) hl hn hsn hln hnn h35 hlo
theorem Zai {xs:List Int} {a1 a2:Option Addr} {n c1 c2:Nat} (ha:Sl H a1 n c1 (cI xs)) (hb:Sl H a2 n c2 (cI xs)) (hl:xs.length=n) (hn:n≤1000000) (hlo:lo≤H.next):∃ H',FnX Try.prog kn lo 24 [.slice a1 n c1,.slice a2 n c2] H (.bool true) H'∧Zk H H' []:=
 Wm (m1:=[]) (m2:=[]) (by rw [List.append_nil];exact ha) (by rw [List.append_nil];exact hb) hl hn hlo
end
end
end Go.Ax

/-
 Pool: the examples of the document (written by program).
-/
namespace Go.Ax
open Go Go.RowKit Go.Proofs

noncomputable section
def smp:List Dc:=[⟨10,1000,1200,50,60⟩,⟨12,500,500,100,100⟩,⟨15,2000,2000,30,40⟩]
theorem Zdx:paT smp 6 150000=(15,15,0):=by kernel_rfl
theorem ZdG:alT smp 6 250000 13=(48000,0):=by kernel_rfl
theorem ZdH:mxT ⟨1000,2000,10000,11000⟩ ⟨500,500,20000,20000⟩=((12000,14000),0):=by kernel_rfl
theorem ZdE:moT ⟨1000,2000,10000,11000⟩ 20000 20000 13000=(285,0):=by kernel_rfl
theorem Zdr:seT [60,60,60] [⟨4,8,9⟩] 4 3 100 5 20=([5,10,13],0):=by kernel_rfl
theorem Zdf:baT ⟨1000,1100,500,500,200,300,40,50,10,12⟩=((600,1000),(400,600),0):=by kernel_rfl
section
variable {kn:Kn} {lo:Nat} {H:Hp}
set_option maxRecDepth 100000 in
theorem Yt {a b:Int} (hlo:lo≤H.next):∃ H',FnX Try.prog kn lo 31 [iv a,iv b] H (.agg #[iv a,iv b]) H'∧Zk H H' []:=by
 have key:=Zp (kn:=kn) (lo:=lo) (H:=H) (args:=[iv a,iv b]) (Q:=fun w H'=>w=(.agg #[iv a,iv b])∧Zk H H' []) Try.func31 B31 N31 Z31 L31 (by simp) ?_
 ·obtain ⟨w,H',h,rfl,q⟩:=key;exact ⟨H',h,q⟩
 have hk:=Zk.refl H []
 refine Zc<|YF ?_
 intro H1 kH1 nH1 c1
 have c1:Cl H1 H.next [iv 0,iv 0]:=c1
 have mH1:=kH1.1
 have hk:=hk.trans kH1
 refine Zb<|Zc<|Za rfl<|Za rfl<|Zd (v:=.agg #[iv a,iv b]) rfl (by kernel_rfl)<|Yk (b:=H.next) (o:=0) rfl rfl c1 (by omega) rfl rfl (by simp) ?_
 intro H2 kH2 nH2 sH2
 have mH2:=kH2.1
 have hk:=hk.new kH2 (fun b hb=>by simp at hb ⊢;omega)
 have c1:Cl H2 H.next [iv a,iv b]:=sH2
 refine Zb ?_
 exact And.intro trivial (Exists.intro _ (And.intro (JT rfl a31 JM rfl c1) ⟨rfl,hk⟩))
theorem KH (hlo:lo≤H.next):∃ b H',FnX Try.prog kn lo 30 [] H (.slice (some ⟨b,0,none⟩) 3 3) H'∧Zk H H' []∧H.next≤b∧Rd H' b (dcc smp):=by
 have key:=Zp (kn:=kn) (lo:=lo) (H:=H) (args:=[]) (Q:=fun w H'=>∃ b,w=.slice (some ⟨b,0,none⟩) 3 3∧Zk H H' []∧H.next≤b∧Rd H' b (dcc smp)) Try.func30 B30 N30 Z30 L30 (by simp) ?_
 ·obtain ⟨w,H',h,b,rfl,q⟩:=key;exact ⟨b,H',h,q⟩
 have hk:=Zk.refl H []
 refine Zc<|Za rfl<|Zb<|Zc ?_
 obtain ⟨H1,fH1,kH1⟩:=Yt (kn:=kn) (lo:=lo) (H:=H) (a:=1000) (b:=1200) (by omega)
 refine Zi (vs:=[iv 1000,iv 1200]) rfl (Ze fH1) ?_
 have mH1:=kH1.1
 have hk:=hk.trans kH1
 obtain ⟨H2,fH2,kH2⟩:=Yt (kn:=kn) (lo:=lo) (H:=H1) (a:=50) (b:=60) (by omega)
 refine Zi (vs:=[iv 50,iv 60]) rfl (Ze fH2) ?_
 have mH2:=kH2.1
 have hk:=hk.trans kH2
 refine Zd (v:=.agg #[iv 10,iv 1000,iv 1200,iv 50,iv 60]) rfl (by kernel_rfl) ?_
 obtain ⟨H3,fH3,kH3⟩:=Yt (kn:=kn) (lo:=lo) (H:=H2) (a:=500) (b:=500) (by omega)
 refine Zi (vs:=[iv 500,iv 500]) rfl (Ze fH3) ?_
 have mH3:=kH3.1
 have hk:=hk.trans kH3
 obtain ⟨H4,fH4,kH4⟩:=Yt (kn:=kn) (lo:=lo) (H:=H3) (a:=100) (b:=100) (by omega)
 refine Zi (vs:=[iv 100,iv 100]) rfl (Ze fH4) ?_
 have mH4:=kH4.1
 have hk:=hk.trans kH4
 refine Zd (v:=.agg #[iv 12,iv 500,iv 500,iv 100,iv 100]) rfl (by kernel_rfl) ?_
 obtain ⟨H5,fH5,kH5⟩:=Yt (kn:=kn) (lo:=lo) (H:=H4) (a:=2000) (b:=2000) (by omega)
 refine Zi (vs:=[iv 2000,iv 2000]) rfl (Ze fH5) ?_
 have mH5:=kH5.1
 have hk:=hk.trans kH5
 obtain ⟨H6,fH6,kH6⟩:=Yt (kn:=kn) (lo:=lo) (H:=H5) (a:=30) (b:=40) (by omega)
 refine Zi (vs:=[iv 30,iv 40]) rfl (Ze fH6) ?_
 have mH6:=kH6.1
 have hk:=hk.trans kH6
 refine Zd (v:=.agg #[iv 15,iv 2000,iv 2000,iv 30,iv 40]) rfl (by kernel_rfl) ?_
 obtain ⟨H7,hH7⟩:∃ H7,H6.new (.cells [iv 10,iv 1000,iv 1200,iv 50,iv 60,iv 12,iv 500,iv 500,iv 100,iv 100,iv 15,iv 2000,iv 2000,iv 30,iv 40] 52 false)=H7:=⟨_,rfl⟩
 refine ZN (H':=H7) (k:=.heavy) rfl (by kernel_rfl) ((Zbk (a:=⟨10,1000,1200,50,60⟩) (b:=⟨12,500,500,100,100⟩) (c:=⟨15,2000,2000,30,40⟩) rfl rfl rfl).trans (by first | (rw [← hH7];done) | (rw [← hH7];rfl))) (fun b e=>by cases e) ?_
 obtain ⟨kH7,nH7,c7⟩:=Z2 hH7;clear hH7
 have c7:Cl H7 H6.next [iv 10,iv 1000,iv 1200,iv 50,iv 60,iv 12,iv 500,iv 500,iv 100,iv 100,iv 15,iv 2000,iv 2000,iv 30,iv 40]:=c7
 have mH7:=kH7.1
 have hk:=hk.trans kH7
 refine Za rfl<|Zb ?_
 exact And.intro trivial (Exists.intro _ (And.intro rfl ⟨H6.next,rfl,hk,by omega,c7.rd⟩))
set_option maxHeartbeats 4000000 in
set_option maxRecDepth 100000 in
theorem Yz (hkn:∀ f,kn.b f=none) (hlo:lo≤H.next):∃ H',FnX Try.prog kn lo 11 [] H (.bool true) H'∧Zk H H' []:=by
 have key:=Zp (kn:=kn) (lo:=lo) (H:=H) (args:=[]) (Q:=fun w H'=>w=(.bool true)∧Zk H H' []) Try.func11 B11 N11 Z11 L11 (by simp) ?_
 ·obtain ⟨w,H',h,rfl,q⟩:=key;exact ⟨H',h,q⟩
 have hk:=Zk.refl H []
 refine Zc<|Za rfl<|Zb<|Zc ?_
 obtain ⟨bz2,H1,fH1,kH1,hbz2,rdz2⟩:=KH (kn:=kn) (lo:=lo) (H:=H) (by omega)
 refine Zi (vs:=[]) rfl (ZF (hkn 30) fH1) ?_
 have mH1:=kH1.1
 have hk:=hk.trans kH1
 have slz2:Sl H1 (some ⟨bz2,0,none⟩) 3 3 (dcc smp):=.inr ⟨bz2,rfl,rdz2,Nat.le_refl _⟩;have fsz2:=slz2.old
 obtain ⟨H3,fH3,kH3⟩:=Zal (kn:=kn) (lo:=lo) (H:=H1) slz2 rfl (by omega) (by omega) (hkn 35) (days:=6) (limit:=150000)
 rw [Zdx] at fH3
 refine Zi (vs:=[.slice (some ⟨bz2,0,none⟩) 3 3,iv 6,iv 150000]) rfl (Ze fH3) ?_
 have mH3:=kH3.1
 have hk:=hk.trans kH3
 have slz2:=kH3.sl0 slz2
 refine Za rfl<|Zd (v:=iv 15) rfl (by kernel_rfl)<|Zd (v:=iv 15) rfl (by kernel_rfl)<|Zd (v:=iv 0) rfl (by kernel_rfl)<|Za rfl<|Za rfl<|Za rfl<|Zb<|Zc ?_
 obtain ⟨bz5,H4,fH4,kH4,hbz5,rdz5⟩:=KH (kn:=kn) (lo:=lo) (H:=H3) (by omega)
 refine Zi (vs:=[]) rfl (ZF (hkn 30) fH4) ?_
 have mH4:=kH4.1
 have hk:=hk.trans kH4
 have slz2:=kH4.sl0 slz2
 have slz5:Sl H4 (some ⟨bz5,0,none⟩) 3 3 (dcc smp):=.inr ⟨bz5,rfl,rdz5,Nat.le_refl _⟩;have fsz5:=slz5.old
 obtain ⟨H6,fH6,kH6⟩:=Zat (kn:=kn) (lo:=lo) (H:=H4) slz5 rfl (by omega) (by omega) (hkn 35) (days:=6) (limit:=250000) (day:=13)
 rw [ZdG] at fH6
 refine Zi (vs:=[.slice (some ⟨bz5,0,none⟩) 3 3,iv 6,iv 250000,iv 13]) rfl (Ze fH6) ?_
 have mH6:=kH6.1
 have hk:=hk.trans kH6
 have slz2:=kH6.sl0 slz2
 have slz5:=kH6.sl0 slz5
 refine Za rfl<|Zd (v:=iv 48000) rfl (by kernel_rfl)<|Zd (v:=iv 0) rfl (by kernel_rfl)<|Za rfl<|Za rfl<|Zb<|Zc ?_
 obtain ⟨H7,fH7,kH7⟩:=Yt (kn:=kn) (lo:=lo) (H:=H6) (a:=1000) (b:=2000) (by omega)
 refine Zi (vs:=[iv 1000,iv 2000]) rfl (Ze fH7) ?_
 have mH7:=kH7.1
 have hk:=hk.trans kH7
 have slz2:=kH7.sl0 slz2
 have slz5:=kH7.sl0 slz5
 obtain ⟨H8,fH8,kH8⟩:=Yt (kn:=kn) (lo:=lo) (H:=H7) (a:=10000) (b:=11000) (by omega)
 refine Zi (vs:=[iv 10000,iv 11000]) rfl (Ze fH8) ?_
 have mH8:=kH8.1
 have hk:=hk.trans kH8
 have slz2:=kH8.sl0 slz2
 have slz5:=kH8.sl0 slz5
 refine Zd (v:=.agg #[iv 1000,iv 2000,iv 10000,iv 11000]) rfl (by kernel_rfl) ?_
 obtain ⟨H9,fH9,kH9⟩:=Yt (kn:=kn) (lo:=lo) (H:=H8) (a:=500) (b:=500) (by omega)
 refine Zi (vs:=[iv 500,iv 500]) rfl (Ze fH9) ?_
 have mH9:=kH9.1
 have hk:=hk.trans kH9
 have slz2:=kH9.sl0 slz2
 have slz5:=kH9.sl0 slz5
 obtain ⟨H10,fH10,kH10⟩:=Yt (kn:=kn) (lo:=lo) (H:=H9) (a:=20000) (b:=20000) (by omega)
 refine Zi (vs:=[iv 20000,iv 20000]) rfl (Ze fH10) ?_
 have mH10:=kH10.1
 have hk:=hk.trans kH10
 have slz2:=kH10.sl0 slz2
 have slz5:=kH10.sl0 slz5
 refine Zd (v:=.agg #[iv 500,iv 500,iv 20000,iv 20000]) rfl (by kernel_rfl) ?_
 obtain ⟨H11,fH11,kH11⟩:=Zc8 (kn:=kn) (lo:=lo) (H:=H10) (hkn 35) (a:=(⟨1000,2000,10000,11000⟩:Fw)) (b:=(⟨500,500,20000,20000⟩:Fw)) (by omega)
 rw [ZdH] at fH11
 refine Zi (vs:=[.agg (Fw.f (⟨1000,2000,10000,11000⟩:Fw)).toArray,.agg (Fw.f (⟨500,500,20000,20000⟩:Fw)).toArray]) rfl (Ze fH11) ?_
 have mH11:=kH11.1
 have hk:=hk.trans kH11
 have slz2:=kH11.sl0 slz2
 have slz5:=kH11.sl0 slz5
 refine Za rfl<|Zd (v:=.agg #[iv 12000,iv 14000]) rfl (by kernel_rfl)<|Zd (v:=iv 0) rfl (by kernel_rfl)<|YF ?_
 intro H12 kH12 nH12 c12
 have c12:Cl H12 H11.next [iv 0,iv 0]:=c12
 have mH12:=kH12.1
 have hk:=hk.trans kH12
 have slz2:=kH12.sl0 slz2
 have slz5:=kH12.sl0 slz5
 refine Yk (b:=H11.next) (o:=0) rfl rfl c12 (by omega) rfl rfl (by simp) ?_
 intro H13 kH13 nH13 sH13
 have mH13:=kH13.1
 have hk:=hk.new kH13 (fun b hb=>by simp at hb ⊢;omega)
 have slz2:=kH13.sl slz2 (fun b e=>by have:=fsz2 b e;first | (simp;done) | (simp;omega))
 have slz5:=kH13.sl slz5 (fun b e=>by have:=fsz5 b e;first | (simp;done) | (simp;omega))
 have c12:Cl H13 H11.next [iv 12000,iv 14000]:=sH13
 refine Za rfl<|Zb<|Zc ?_
 obtain ⟨H14,fH14,kH14⟩:=Yt (kn:=kn) (lo:=lo) (H:=H13) (a:=1000) (b:=2000) (by omega)
 refine Zi (vs:=[iv 1000,iv 2000]) rfl (Ze fH14) ?_
 have mH14:=kH14.1
 have hk:=hk.trans kH14
 have slz2:=kH14.sl0 slz2
 have slz5:=kH14.sl0 slz5
 have c12:=kH14.cl c12 (by simp)
 obtain ⟨H15,fH15,kH15⟩:=Yt (kn:=kn) (lo:=lo) (H:=H14) (a:=10000) (b:=11000) (by omega)
 refine Zi (vs:=[iv 10000,iv 11000]) rfl (Ze fH15) ?_
 have mH15:=kH15.1
 have hk:=hk.trans kH15
 have slz2:=kH15.sl0 slz2
 have slz5:=kH15.sl0 slz5
 have c12:=kH15.cl c12 (by simp)
 refine Zd (v:=.agg #[iv 1000,iv 2000,iv 10000,iv 11000]) rfl (by kernel_rfl) ?_
 obtain ⟨H16,fH16,kH16⟩:=Yt (kn:=kn) (lo:=lo) (H:=H15) (a:=20000) (b:=20000) (by omega)
 refine Zi (vs:=[iv 20000,iv 20000]) rfl (Ze fH16) ?_
 have mH16:=kH16.1
 have hk:=hk.trans kH16
 have slz2:=kH16.sl0 slz2
 have slz5:=kH16.sl0 slz5
 have c12:=kH16.cl c12 (by simp)
 obtain ⟨H17,fH17,kH17⟩:=Zct (kn:=kn) (lo:=lo) (H:=H16) (a:=(⟨1000,2000,10000,11000⟩:Fw)) (l:=20000) (h:=20000) (limit:=13000) (by omega)
 rw [ZdE] at fH17
 refine Zi (vs:=[.agg (Fw.f (⟨1000,2000,10000,11000⟩:Fw)).toArray,.agg #[iv 20000,iv 20000],iv 13000]) rfl (Ze fH17) ?_
 have mH17:=kH17.1
 have hk:=hk.trans kH17
 have slz2:=kH17.sl0 slz2
 have slz5:=kH17.sl0 slz5
 have c12:=kH17.cl c12 (by simp)
 refine Za rfl<|Zd (v:=iv 285) rfl (by kernel_rfl)<|Zd (v:=iv 0) rfl (by kernel_rfl)<|Za rfl<|Za rfl<|Zb<|Zc ?_
 obtain ⟨H18,hH18⟩:∃ H18,H17.new (.cells [iv 60,iv 60,iv 60] 3 false)=H18:=⟨_,rfl⟩
 refine ZN (H':=H18) (k:=.heavy) rfl (by kernel_rfl) ((z0 (a:=60) (b:=60) (c:=60) rfl rfl rfl).trans (by first | (rw [← hH18];done) | (rw [← hH18];rfl))) (fun b e=>by cases e) ?_
 obtain ⟨kH18,nH18,c18⟩:=Z2 hH18;clear hH18
 have c18:Cl H18 H17.next [iv 60,iv 60,iv 60]:=c18
 have mH18:=kH18.1
 have hk:=hk.trans kH18
 have slz2:=kH18.sl0 slz2
 have slz5:=kH18.sl0 slz5
 have c12:=kH18.cl c12 (by simp)
 refine Zd (v:=.agg #[iv 4,iv 8,iv 9]) rfl (by kernel_rfl) ?_
 obtain ⟨H19,hH19⟩:∃ H19,H18.new (.cells [iv 4,iv 8,iv 9] 68 false)=H19:=⟨_,rfl⟩
 refine ZN (H':=H19) (k:=.heavy) rfl (by kernel_rfl) ((YE (v:=.agg #[iv 4,iv 8,iv 9]) ZfC Zfz rfl rfl rfl (by decide)).trans (by rw [← hH19];rfl)) (fun b e=>by cases e) ?_
 obtain ⟨kH19,nH19,c19⟩:=Z2 hH19;clear hH19
 have c19:Cl H19 H18.next [iv 4,iv 8,iv 9]:=c19
 have mH19:=kH19.1
 have hk:=hk.trans kH19
 have slz2:=kH19.sl0 slz2
 have slz5:=kH19.sl0 slz5
 have c12:=kH19.cl c12 (by simp)
 have c18:=kH19.cl c18 (by simp)
 obtain ⟨vs_,H20,fH20,hacs,kH20⟩:=XF (kn:=kn) (lo:=lo) (H:=H19) (loads:=[60,60,60]) (la:=some ⟨H17.next,0,none⟩) (n:=3) (lcap:=3) (c18.sl (Nat.le_refl 3)) rfl (by omega) (ns:=[⟨4,8,9⟩]) (na:=some ⟨H18.next,0,none⟩) (nn:=1) (ncap:=1) (c19.sl (Nat.le_refl 1)) rfl (by omega) (reach:=4) (days:=3) (limit:=100) (frm:=5) (to_:=20) (hkn 35) (by omega)
 rw [Zdr] at fH20 hacs
 refine Zi (vs:=[.slice (some ⟨H17.next,0,none⟩) 3 3,.slice (some ⟨H18.next,0,none⟩) 1 1,iv 4,iv 3,iv 100,iv 5,iv 20]) rfl (Ze fH20) ?_
 have mH20:=kH20.1
 have hk:=hk.trans kH20
 have slz2:=kH20.sl0 slz2
 have slz5:=kH20.sl0 slz5
 have c12:=kH20.cl c12 (by simp)
 have c18:=kH20.cl c18 (by simp)
 have c19:=kH20.cl c19 (by simp)
 obtain ⟨sa_,sc_,rfl,hsc,_⟩:=hacs.sl;have fsc:=hsc.old
 refine Za rfl<|Zd (v:=.slice sa_ 3 sc_) rfl (by kernel_rfl)<|Zd (v:=iv 0) rfl (by kernel_rfl)<|Za rfl<|Za rfl<|Zb<|Zc ?_
 obtain ⟨H21,fH21,kH21⟩:=Yt (kn:=kn) (lo:=lo) (H:=H20) (a:=1000) (b:=1100) (by omega)
 refine Zi (vs:=[iv 1000,iv 1100]) rfl (Ze fH21) ?_
 have mH21:=kH21.1
 have hk:=hk.trans kH21
 have slz2:=kH21.sl0 slz2
 have slz5:=kH21.sl0 slz5
 have c12:=kH21.cl c12 (by simp)
 have c18:=kH21.cl c18 (by simp)
 have c19:=kH21.cl c19 (by simp)
 have hsc:=kH21.sl0 hsc
 obtain ⟨H22,fH22,kH22⟩:=Yt (kn:=kn) (lo:=lo) (H:=H21) (a:=500) (b:=500) (by omega)
 refine Zi (vs:=[iv 500,iv 500]) rfl (Ze fH22) ?_
 have mH22:=kH22.1
 have hk:=hk.trans kH22
 have slz2:=kH22.sl0 slz2
 have slz5:=kH22.sl0 slz5
 have c12:=kH22.cl c12 (by simp)
 have c18:=kH22.cl c18 (by simp)
 have c19:=kH22.cl c19 (by simp)
 have hsc:=kH22.sl0 hsc
 obtain ⟨H23,fH23,kH23⟩:=Yt (kn:=kn) (lo:=lo) (H:=H22) (a:=200) (b:=300) (by omega)
 refine Zi (vs:=[iv 200,iv 300]) rfl (Ze fH23) ?_
 have mH23:=kH23.1
 have hk:=hk.trans kH23
 have slz2:=kH23.sl0 slz2
 have slz5:=kH23.sl0 slz5
 have c12:=kH23.cl c12 (by simp)
 have c18:=kH23.cl c18 (by simp)
 have c19:=kH23.cl c19 (by simp)
 have hsc:=kH23.sl0 hsc
 obtain ⟨H24,fH24,kH24⟩:=Yt (kn:=kn) (lo:=lo) (H:=H23) (a:=40) (b:=50) (by omega)
 refine Zi (vs:=[iv 40,iv 50]) rfl (Ze fH24) ?_
 have mH24:=kH24.1
 have hk:=hk.trans kH24
 have slz2:=kH24.sl0 slz2
 have slz5:=kH24.sl0 slz5
 have c12:=kH24.cl c12 (by simp)
 have c18:=kH24.cl c18 (by simp)
 have c19:=kH24.cl c19 (by simp)
 have hsc:=kH24.sl0 hsc
 obtain ⟨H25,fH25,kH25⟩:=Yt (kn:=kn) (lo:=lo) (H:=H24) (a:=10) (b:=12) (by omega)
 refine Zi (vs:=[iv 10,iv 12]) rfl (Ze fH25) ?_
 have mH25:=kH25.1
 have hk:=hk.trans kH25
 have slz2:=kH25.sl0 slz2
 have slz5:=kH25.sl0 slz5
 have c12:=kH25.cl c12 (by simp)
 have c18:=kH25.cl c18 (by simp)
 have c19:=kH25.cl c19 (by simp)
 have hsc:=kH25.sl0 hsc
 refine Zd (v:=.agg #[iv 1000,iv 1100,iv 500,iv 500,iv 200,iv 300,iv 40,iv 50,iv 10,iv 12]) rfl (by kernel_rfl) ?_
 obtain ⟨H26,fH26,kH26⟩:=qA (kn:=kn) (lo:=lo) (H:=H25) (hkn 35) (x:=(⟨1000,1100,500,500,200,300,40,50,10,12⟩:Ph)) (by omega)
 rw [Zdf] at fH26
 refine Zi (vs:=[.agg (Ph.f (⟨1000,1100,500,500,200,300,40,50,10,12⟩:Ph)).toArray]) rfl (Ze fH26) ?_
 have mH26:=kH26.1
 have hk:=hk.trans kH26
 have slz2:=kH26.sl0 slz2
 have slz5:=kH26.sl0 slz5
 have c12:=kH26.cl c12 (by simp)
 have c18:=kH26.cl c18 (by simp)
 have c19:=kH26.cl c19 (by simp)
 have hsc:=kH26.sl0 hsc
 refine Za rfl<|Zd (v:=.agg #[iv 600,iv 1000]) rfl (by kernel_rfl)<|Zd (v:=.agg #[iv 400,iv 600]) rfl (by kernel_rfl)<|Zd (v:=iv 0) rfl (by kernel_rfl)<|YF ?_
 intro H27 kH27 nH27 c27
 have c27:Cl H27 H26.next [iv 0,iv 0]:=c27
 have mH27:=kH27.1
 have hk:=hk.trans kH27
 have slz2:=kH27.sl0 slz2
 have slz5:=kH27.sl0 slz5
 have c12:=kH27.cl c12 (by simp)
 have c18:=kH27.cl c18 (by simp)
 have c19:=kH27.cl c19 (by simp)
 have hsc:=kH27.sl0 hsc
 refine YF ?_
 intro H28 kH28 nH28 c28
 have c28:Cl H28 H27.next [iv 0,iv 0]:=c28
 have mH28:=kH28.1
 have hk:=hk.trans kH28
 have slz2:=kH28.sl0 slz2
 have slz5:=kH28.sl0 slz5
 have c12:=kH28.cl c12 (by simp)
 have c18:=kH28.cl c18 (by simp)
 have c19:=kH28.cl c19 (by simp)
 have hsc:=kH28.sl0 hsc
 have c27:=kH28.cl c27 (by simp)
 refine Yk (b:=H26.next) (o:=0) rfl rfl c27 (by omega) rfl rfl (by simp) ?_
 intro H29 kH29 nH29 sH29
 have mH29:=kH29.1
 have hk:=hk.new kH29 (fun b hb=>by simp at hb ⊢;omega)
 have slz2:=kH29.sl slz2 (fun b e=>by have:=fsz2 b e;first | (simp;done) | (simp;omega))
 have slz5:=kH29.sl slz5 (fun b e=>by have:=fsz5 b e;first | (simp;done) | (simp;omega))
 have c12:=kH29.cl c12 (by first | (simp;done) | (simp;omega))
 have c18:=kH29.cl c18 (by first | (simp;done) | (simp;omega))
 have c19:=kH29.cl c19 (by first | (simp;done) | (simp;omega))
 have hsc:=kH29.sl hsc (fun b e=>by have:=fsc b e;first | (simp;done) | (simp;omega))
 have c28:=kH29.cl c28 (by first | (simp;done) | (simp;omega))
 have c27:Cl H29 H26.next [iv 600,iv 1000]:=sH29
 refine Yk (b:=H27.next) (o:=0) rfl rfl c28 (by omega) rfl rfl (by simp) ?_
 intro H30 kH30 nH30 sH30
 have mH30:=kH30.1
 have hk:=hk.new kH30 (fun b hb=>by simp at hb ⊢;omega)
 have slz2:=kH30.sl slz2 (fun b e=>by have:=fsz2 b e;first | (simp;done) | (simp;omega))
 have slz5:=kH30.sl slz5 (fun b e=>by have:=fsz5 b e;first | (simp;done) | (simp;omega))
 have c12:=kH30.cl c12 (by first | (simp;done) | (simp;omega))
 have c18:=kH30.cl c18 (by first | (simp;done) | (simp;omega))
 have c19:=kH30.cl c19 (by first | (simp;done) | (simp;omega))
 have hsc:=kH30.sl hsc (fun b e=>by have:=fsc b e;first | (simp;done) | (simp;omega))
 have c27:=kH30.cl c27 (by first | (simp;done) | (simp;omega))
 have c28:Cl H30 H27.next [iv 400,iv 600]:=sH30
 refine Za rfl<|Zb<|Yq<|Zg rfl<|X4 (a:=15) (b:=15) rfl rfl ?_
 intro t1 g1;obtain rfl:t1=false:=by rw [← g1];rfl
 refine Zg rfl ?_
 refine ZE rfl (Zg rfl ?_)
 refine ZE rfl (X4 (a:=15) (b:=15) rfl rfl ?_)
 intro t2 g2;obtain rfl:t2=false:=by rw [← g2];rfl
 refine ZH (v:=.bool false) rfl rfl<|Zg rfl ?_
 refine ZE rfl (Zg rfl ?_)
 refine ZE rfl (X4 (a:=0) (b:=0) rfl rfl ?_)
 intro t3 g3;obtain rfl:t3=false:=by rw [← g3];rfl
 refine ZH (v:=.bool false) rfl rfl<|Zg rfl ?_
 refine ZE rfl (Zg rfl ?_)
 refine ZE rfl (X4 (a:=48000) (b:=48000) rfl rfl ?_)
 intro t4 g4;obtain rfl:t4=false:=by rw [← g4];rfl
 refine ZH (v:=.bool false) rfl rfl<|Zg rfl ?_
 refine ZE rfl (Zg rfl ?_)
 refine ZE rfl (X4 (a:=0) (b:=0) rfl rfl ?_)
 intro t5 g5;obtain rfl:t5=false:=by rw [← g5];rfl
 refine ZH (v:=.bool false) rfl rfl<|Zg rfl ?_
 refine ZE rfl (Z1 (b:=H11.next) (o:=0) rfl c12.rd (show row 2 _ _=some [iv 12000,iv 14000] from rfl) ?_)
 obtain ⟨H31,fH31,kH31⟩:=Yt (kn:=kn) (lo:=H30.next) (H:=H30) (a:=12000) (b:=14000) (Nat.le_refl _)
 refine ZE rfl (YV (vs:=[iv 12000,iv 14000]) rfl rfl (Ze fH31) ?_)
 have mH31:=kH31.1
 have hk:=hk.trans kH31
 have slz2:=kH31.sl0 slz2
 have slz5:=kH31.sl0 slz5
 have c12:=kH31.cl c12 (by simp)
 have c18:=kH31.cl c18 (by simp)
 have c19:=kH31.cl c19 (by simp)
 have hsc:=kH31.sl0 hsc
 have c27:=kH31.cl c27 (by simp)
 have c28:=kH31.cl c28 (by simp)
 refine ZE rfl (ZH (v:=.bool false) rfl (by kernel_rfl) ?_)
 refine ZH (v:=.bool false) rfl rfl<|Zg rfl ?_
 refine ZE rfl (Zg rfl ?_)
 refine ZE rfl (X4 (a:=0) (b:=0) rfl rfl ?_)
 intro t6 g6;obtain rfl:t6=false:=by rw [← g6];rfl
 refine ZH (v:=.bool false) rfl rfl<|Zg rfl ?_
 refine ZE rfl (Zg rfl ?_)
 refine ZE rfl (X4 (a:=285) (b:=285) rfl rfl ?_)
 intro t7 g7;obtain rfl:t7=false:=by rw [← g7];rfl
 refine ZH (v:=.bool false) rfl rfl<|Zg rfl ?_
 refine ZE rfl (Zg rfl ?_)
 refine ZE rfl (X4 (a:=0) (b:=0) rfl rfl ?_)
 intro t8 g8;obtain rfl:t8=false:=by rw [← g8];rfl
 refine ZH (v:=.bool false) rfl rfl ?_
 refine ZL (by repeat' first | exact True.intro | exact (fun h=>h) | refine And.intro ?_ ?_ | (intro h;have h:(_:Nat)=_:=h;omega)) ?_
 refine ZQ ?_
 first | refine Zj ?_ | skip
 refine Yq<|Zg rfl ?_
 obtain ⟨H32,hH32⟩:∃ H32,H31.new (.cells [iv 5,iv 10,iv 13] 3 false)=H32:=⟨_,rfl⟩
 refine Ui (H':=H32) (k:=.heavy) rfl (by kernel_rfl) ((z0 (a:=5) (b:=10) (c:=13) rfl rfl rfl).trans (by first | (rw [← hH32];done) | (rw [← hH32];rfl))) (fun b e=>by cases e) ?_
 obtain ⟨kH32,nH32,c32⟩:=Z2 hH32;clear hH32
 have c32:Cl H32 H31.next [iv 5,iv 10,iv 13]:=c32
 have mH32:=kH32.1
 have hk:=hk.trans kH32
 have slz2:=kH32.sl0 slz2
 have slz5:=kH32.sl0 slz5
 have c12:=kH32.cl c12 (by simp)
 have c18:=kH32.cl c18 (by simp)
 have c19:=kH32.cl c19 (by simp)
 have hsc:=kH32.sl0 hsc
 have c27:=kH32.cl c27 (by simp)
 have c28:=kH32.cl c28 (by simp)
 obtain ⟨H33,fH33,kH33⟩:=Zai (kn:=kn) (lo:=lo) (H:=H32) (xs:=[5,10,13]) (n:=3) hsc (c32.sl (Nat.le_refl 3)) rfl (by omega) (by omega)
 refine Wt (vs:=[.slice sa_ 3 sc_,.slice (some ⟨H31.next,0,none⟩) 3 3]) rfl (Ze fH33) ?_
 have mH33:=kH33.1
 have hk:=hk.trans kH33
 have slz2:=kH33.sl0 slz2
 have slz5:=kH33.sl0 slz5
 have c12:=kH33.cl c12 (by simp)
 have c18:=kH33.cl c18 (by simp)
 have c19:=kH33.cl c19 (by simp)
 have hsc:=kH33.sl0 hsc
 have c27:=kH33.cl c27 (by simp)
 have c28:=kH33.cl c28 (by simp)
 have c32:=kH33.cl c32 (by simp)
 refine Zg rfl ?_
 refine ZE rfl (Zg rfl ?_)
 refine ZE rfl (J1 (a:=0) (b:=0) rfl rfl ?_)
 intro t9 g9;obtain rfl:t9=true:=by rw [← g9];rfl
 refine ZH (v:=.bool true) rfl rfl<|Zg rfl ?_
 refine ZE rfl (Z1 (b:=H26.next) (o:=0) rfl c27.rd (show row 2 _ _=some [iv 600,iv 1000] from rfl) ?_)
 obtain ⟨H34,fH34,kH34⟩:=Yt (kn:=kn) (lo:=H33.next) (H:=H33) (a:=600) (b:=1000) (Nat.le_refl _)
 refine ZE rfl (YV (vs:=[iv 600,iv 1000]) rfl rfl (Ze fH34) ?_)
 have mH34:=kH34.1
 have hk:=hk.trans kH34
 have slz2:=kH34.sl0 slz2
 have slz5:=kH34.sl0 slz5
 have c12:=kH34.cl c12 (by simp)
 have c18:=kH34.cl c18 (by simp)
 have c19:=kH34.cl c19 (by simp)
 have hsc:=kH34.sl0 hsc
 have c27:=kH34.cl c27 (by simp)
 have c28:=kH34.cl c28 (by simp)
 have c32:=kH34.cl c32 (by simp)
 refine ZE rfl (ZH (v:=.bool true) rfl (by kernel_rfl) ?_)
 refine ZH (v:=.bool true) rfl rfl<|Zg rfl ?_
 refine ZE rfl (Z1 (b:=H27.next) (o:=0) rfl c28.rd (show row 2 _ _=some [iv 400,iv 600] from rfl) ?_)
 obtain ⟨H35,fH35,kH35⟩:=Yt (kn:=kn) (lo:=H34.next) (H:=H34) (a:=400) (b:=600) (Nat.le_refl _)
 refine ZE rfl (YV (vs:=[iv 400,iv 600]) rfl rfl (Ze fH35) ?_)
 have mH35:=kH35.1
 have hk:=hk.trans kH35
 have slz2:=kH35.sl0 slz2
 have slz5:=kH35.sl0 slz5
 have c12:=kH35.cl c12 (by simp)
 have c18:=kH35.cl c18 (by simp)
 have c19:=kH35.cl c19 (by simp)
 have hsc:=kH35.sl0 hsc
 have c27:=kH35.cl c27 (by simp)
 have c28:=kH35.cl c28 (by simp)
 have c32:=kH35.cl c32 (by simp)
 refine ZE rfl (ZH (v:=.bool true) rfl (by kernel_rfl) ?_)
 refine ZH (v:=.bool true) rfl rfl<|Zg rfl ?_
 refine ZE rfl (Zg rfl ?_)
 refine ZE rfl (J1 (a:=0) (b:=0) rfl rfl ?_)
 intro t10 g10;obtain rfl:t10=true:=by rw [← g10];rfl
 refine ZH (v:=.bool true) rfl rfl<|Zg rfl ?_
 refine ZL (by repeat' first | exact True.intro | exact (fun h=>h) | refine And.intro ?_ ?_ | (intro h;have h:(_:Nat)=_:=h;omega)) ?_
 exact And.intro trivial (Exists.intro _ (And.intro rfl ⟨rfl,hk⟩))
end
end
end Go.Ax

/-
 Pool: two spans compared (written by program).
-/
namespace Go.Ax
open Go Go.RowKit Go.Proofs

end Go.Ax

/-
 Pool: a value picked in a span (written by program).
-/
namespace Go.Ax
open Go Go.RowKit Go.Proofs

section
variable {kn:Kn} {lo:Nat} {H:Hp}
end
end Go.Ax

/-
 Pool: the law PermitBalance (written by program).
-/
namespace Go.Ax
open Go Go.RowKit Go.Proofs

section
variable {kn:Kn} {lo:Nat} {H:Hp}
end
end Go.Ax

/-
 Pool: what is true,and the order of discharges (written by program).
-/
namespace Go.Ax
open Go Go.RowKit Go.Proofs

def ws (ds:List Dc) (f:Nat→Int) (days D:Int):Nat→Int
 | 0=>0
 | k+1=>if D - days < (ds.getD k Dc.z).d∧(ds.getD k Dc.z).d≤D then ws ds f days D k+f k else ws ds f days D k
section
variable {ds:List Dc} {days limit D:Int} {f g:Nat→Int}
end
def tl (f:Nat→Int) (n i:Nat):List Int:=(List.range n).map fun j=>if j < i then f j else 0
end Go.Ax

/-
 Pool: the schedule is good,and no other one is earlier (written by program).
-/
namespace Go.Ax
open Go Go.RowKit Go.Proofs

def Le2:List Po→List Po→Prop
 | [],[]=>True
 | a :: l,b :: m=>a.l=b.l∧a.d≤b.d∧Le2 l m
 | _,_=>False
theorem Le2.snoc:∀ {l m:List Po} {a b:Po},Le2 l m→a.l=b.l→a.d≤b.d→Le2 (l ++ [a]) (m ++ [b])
 | [],[],_,_,_,h1,h2=>⟨h1,h2,trivial⟩
 | x :: l,y :: m,_,_,h,h1,h2=>⟨h.1,h.2.1,Le2.snoc h.2.2 h1 h2⟩
theorem Le2.sum:∀ {l m:List Po} {c:Int},Le2 l m→(∀ p,p∈l→0≤p.l)→ps (l.filter (yg c))≤ps (m.filter (yg c))
 | [],[],_,_,_=>Int.le_refl _
 | x :: l,y :: m,c,h,hv=>by
  have ih:=Le2.sum (c:=c) h.2.2 fun p hp=>hv p (by simp [hp])
  have h1:=h.1
  have h2:=h.2.1
  have h0:=hv x (by simp)
  by_cases k:c < x.d
  ·rw [List.filter_cons_of_pos (YD.2 k),List.filter_cons_of_pos (YD.2 (by omega))]
   simp only [ps];omega
  ·rw [List.filter_cons_of_neg (fun q=>k (YD.1 q))]
   by_cases k2:c < y.d
   ·rw [List.filter_cons_of_pos (YD.2 k2)];simp only [ps];omega
   ·rw [List.filter_cons_of_neg (fun q=>k2 (YD.1 q))];exact ih
def LeI:List Int→List Int→Prop
 | [],[]=>True
 | a :: l,b :: m=>a≤b∧LeI l m
 | _,_=>False
theorem LeI.len:∀ {l m:List Int},LeI l m→l.length=m.length
 | [],[],_=>rfl
 | x :: l,y :: m,h=>by simp [LeI.len h.2]
theorem LeI.at:∀ {l m:List Int} {i:Nat},LeI l m→i < l.length→l.getD i 0≤m.getD i 0
 | x :: l,y :: m,0,h,_=>h.1
 | x :: l,y :: m,i+1,h,hi=>by
  have:=LeI.at (i:=i) h.2 (by simpa using hi)
  simpa using this
def gq (days limit:Int):List Po→List Int→List Int→Prop
 | _,[],[]=>True
 | h,q :: qs,l :: ls=>l+ps (h.filter (yg (q - days)))≤limit∧gq days limit (h ++ [⟨q,l⟩]) qs ls
 | _,_,_=>False
theorem Zbn {days limit l q:Int} {h:List Po}:∀ {os:List Int},os.Pairwise (· < ·)→q∈os→l+ps (h.filter (yg (q - days)))≤limit→∃ D os',Wv days limit h l os=some (D,os')∧D≤q∧D∈os∧(∀ x,x∈os→D < x→x∈os')∧os'.Pairwise (· < ·)∧(∀ x,x∈os'→x∈os)
 | [],_,hq,_=>by cases hq
 | D :: os,hp,hq,hg=>by
  obtain ⟨h1,h2⟩:=List.pairwise_cons.1 hp
  by_cases c:l+ps (h.filter (yg (D - days)))≤limit
  ·refine ⟨D,os,zr c,?_,by simp,fun x hx hd=>?_,h2,fun x hx=>by simp [hx]⟩
   ·rcases List.mem_cons.1 hq with e | e
    ·omega
    ·have:=h1 q e;omega
   ·rcases List.mem_cons.1 hx with e | e
    ·omega
    ·exact e
  ·have hq2:q∈os:=by
    rcases List.mem_cons.1 hq with e | e
    ·subst e;exact absurd hg c
    ·exact e
   obtain ⟨E,os',e1,e2,e3,e4,e5,e6⟩:=Zbn h2 hq2 hg
   refine ⟨E,os',by rw [zm c];exact e1,e2,by simp [e3],fun x hx hd=>?_,e5,fun x hx=>by simp [e6 x hx]⟩
   rcases List.mem_cons.1 hx with e | e
   ·have:=h1 E e3;omega
   ·exact e4 x e hd
theorem qK {days a b:Int} (hab:a≤b):∀ {h:List Po} {qs ls:List Int},gq days a h qs ls→gq days b h qs ls
 | _,[],[],_=>trivial
 | _,_ :: _,_ :: _,g=>⟨by have:=g.1;omega,qK hab g.2⟩
theorem qF {days limit:Int}:∀ {ls:List Int} {h hq:List Po} {os qs:List Int},(∀ l,l∈ls→0≤l)→(∀ p,p∈h→0≤p.l)→Le2 h hq→os.Pairwise (· < ·)→qs.Pairwise (· < ·)→(∀ q,q∈qs→q∈os)→gq days limit hq qs ls→∃ p,YM days limit h os ls=some p∧LeI p qs
 | [],h,hq,os,[],_,_,_,_,_,_,_=>⟨[],rfl,trivial⟩
 | l :: ls,h,hq,os,q :: qs,hl,hv,hle,hos,hqs,hin,g=>by
  have hs:=hle.sum (c:=q - days) hv
  obtain ⟨D,os',e1,e2,e3,e4,e5,e6⟩:=Zbn (days:=days) (limit:=limit) (l:=l) (h:=h) hos (hin q (by simp)) (by have:=g.1;omega)
  obtain ⟨k1,k2⟩:=List.pairwise_cons.1 hqs
  obtain ⟨p,f1,f2⟩:=qF (ls:=ls) (h:=h ++ [⟨D,l⟩]) (hq:=hq ++ [⟨q,l⟩]) (os:=os') (qs:=qs) (fun x hx=>hl x (by simp [hx])) (fun x hx=>by
   rcases List.mem_append.1 hx with hx | hx
   ·exact hv x hx
   ·simp at hx;subst hx;exact hl l (by simp)) (hle.snoc rfl e2) e5 k2 (fun x hx=>e4 x (hin x (by simp [hx])) (by have:=k1 x hx;omega)) g.2
  refine ⟨D :: p,?_,e2,f2⟩
  rw [YM,e1]
  simp only [f1]
  rfl
theorem ZaR {days limit l D:Int} {h:List Po}:∀ {os os':List Int},Wv days limit h l os=some (D,os')→os.Pairwise (· < ·)→D∈os∧l+ps (h.filter (yg (D - days)))≤limit∧(∀ x,x∈os'→x∈os∧D < x)∧os'.Pairwise (· < ·)
 | [],_,e,_=>by simp [Wv] at e
 | E :: os,os',e,hp=>by
  obtain ⟨h1,h2⟩:=List.pairwise_cons.1 hp
  by_cases c:l+ps (h.filter (yg (E - days)))≤limit
  ·rw [zr c] at e
   simp only [Option.some.injEq,Prod.mk.injEq] at e
   obtain ⟨rfl,rfl⟩:=e
   exact ⟨by simp,c,fun x hx=>⟨by simp [hx],h1 x hx⟩,h2⟩
  ·rw [zm c] at e
   obtain ⟨k1,k2,k3,k4⟩:=ZaR e h2
   exact ⟨by simp [k1],k2,fun x hx=>⟨by simp [(k3 x hx).1],(k3 x hx).2⟩,k4⟩
theorem ya {days limit:Int}:∀ {ls:List Int} {h:List Po} {os p:List Int},YM days limit h os ls=some p→os.Pairwise (· < ·)→gq days limit h p ls∧(∀ x,x∈p→x∈os)∧p.Pairwise (· < ·)
 | [],h,os,p,e,_=>by
  simp [YM] at e;subst e
  exact ⟨trivial,fun x hx=>by simp at hx,List.Pairwise.nil⟩
 | l :: ls,h,os,p,e,hp=>by
  unfold YM at e
  split at e
  ·cases e
  ·rename_i D os' e1
   rw [Option.map_eq_some_iff] at e
   obtain ⟨q,e2,rfl⟩:=e
   obtain ⟨k1,k2,k3,k4⟩:=ZaR e1 hp
   obtain ⟨g1,g2,g3⟩:=ya e2 k4
   refine ⟨⟨k2,g1⟩,fun x hx=>?_,List.pairwise_cons.2 ⟨fun x hx=>(k3 x (g2 x hx)).2,g3⟩⟩
   rcases List.mem_cons.1 hx with rfl | hx
   ·exact k1
   ·exact (k3 x (g2 x hx)).1
theorem zH {days limit:Int}:∀ {ls:List Int} {h:List Po} {os r:List Int},YM days limit h os ls=some r→r.length=ls.length
 | [],h,os,r,e=>by simp [YM] at e;subst e;rfl
 | l :: ls,h,os,r,e=>by
  unfold YM at e
  split at e
  ·cases e
  ·rw [Option.map_eq_some_iff] at e
   obtain ⟨q,e1,rfl⟩:=e
   simp [zH e1]
theorem yl {days limit:Int}:∀ {ls:List Int} {h:List Po} {os p:List Int} {l:Int},YM days limit h os (ls ++ [l])=some p→YM days limit h os ls=some p.dropLast
 | [],h,os,p,l,e=>by
  rw [List.nil_append] at e
  unfold YM at e
  split at e
  ·cases e
  ·rw [Option.map_eq_some_iff] at e
   obtain ⟨q,e2,rfl⟩:=e
   simp [YM] at e2;subst e2
   rfl
 | x :: ls,h,os,p,l,e=>by
  rw [List.cons_append] at e
  unfold YM at e ⊢
  split at e
  ·cases e
  ·rw [Option.map_eq_some_iff] at e
   obtain ⟨q,e2,rfl⟩:=e
   have hl:q.length=(ls ++ [l]).length:=zH e2
   rw [yl e2]
   have hq:q≠[]:=fun c=>by subst c;simp at hl
   simp [List.dropLast_cons_of_ne_nil hq]
end Go.Ax

/-
 Pool: whether a list of days is a schedule (written by program).
-/
namespace Go.Ax
open Go Go.RowKit Go.Proofs

def gs (loads plan:List Int) (days:Int) (i:Nat):Nat→Int
 | 0=>0
 | k+1=>if plan.getD k 0 > plan.getD i 0 - days then gs loads plan days i k+loads.getD k 0 else gs loads plan days i k
theorem Zbf {loads plan:List Int} {days:Int} {i:Nat} (hv:∀ j,j < loads.length→0≤loads.getD j 0∧loads.getD j 0≤72057594037927936):∀ {k:Nat},k≤loads.length→0≤gs loads plan days i k∧gs loads plan days i k≤(k:Int) * 72057594037927936
 | 0,_=>by simp [gs]
 | k+1,h=>by
  have ih:=Zbf (plan:=plan) (days:=days) (i:=i) hv (k:=k) (by omega)
  have:=hv k (by omega)
  have e:((k+1:Nat):Int) * 72057594037927936=(k:Int) * 72057594037927936+72057594037927936:=by omega
  unfold gs
  rw [e]
  split<;>omega
structure GoAt (loads plan:List Int) (ns:List Ns) (reach days limit frm to_:Int) (i:Nat):Prop where
 a:frm≤plan.getD i 0∧plan.getD i 0≤to_
 b:0 < i→plan.getD (i - 1) 0 < plan.getD i 0
 c:frB ns reach (plan.getD i 0)=true
 d:gs loads plan days i (i+1)≤limit
def Goo (loads plan:List Int) (ns:List Ns) (reach days limit frm to_:Int):Prop:=plan.length=loads.length∧∀ i,i < plan.length→GoAt loads plan ns reach days limit frm to_ i
section
variable {kn:Kn} {lo:Nat} {H:Hp}
set_option maxRecDepth 100000 in
set_option maxHeartbeats 2000000 in
theorem VW {loads:List Int} {la:Option Addr} {n lcap:Nat} (hs:Sl H la n lcap (cI loads)) (hl:loads.length=n) (hn:n≤64) {plan:List Int} {pa:Option Addr} {m pc:Nat} (hp:Sl H pa m pc (cI plan)) (hpl:plan.length=m) (hm:m≤64) {ns:List Ns} {na:Option Addr} {nn ncap:Nat} (hsn:Sl H na nn ncap (nsc ns)) (hln:ns.length=nn) (hnn:nn≤1000000) {reach days limit frm to_:Int} (hv:∀ j,j < loads.length→0≤loads.getD j 0∧loads.getD j 0≤72057594037927936) (hdy:1≤days∧days≤366) (hfr:0≤frm) (hto:to_≤16384) (hlo:lo≤H.next) :
  ∃ t H',FnX Try.prog kn lo 28 [.slice la n lcap,.slice pa m pc,.slice na nn ncap,iv reach,iv days,iv limit,iv frm,iv to_] H (.bool t) H'∧(t=true→Goo loads plan ns reach days limit frm to_)∧(Goo loads plan ns reach days limit frm to_→t=true)∧Zk H H' []:=by
 have key:=Zp (kn:=kn) (lo:=lo) (H:=H) (args:=[.slice la n lcap,.slice pa m pc,.slice na nn ncap,iv reach,iv days,iv limit,iv frm,iv to_]) (Q:=fun w H'=>(∃ t,w=.bool t∧(t=true→Goo loads plan ns reach days limit frm to_)∧(Goo loads plan ns reach days limit frm to_→t=true))∧Zk H H' []) Try.func28 B28 N28 Z28 L28 (by simp) ?_
 ·obtain ⟨w,H',h,⟨t,rfl,q1,q2⟩,q⟩:=key;exact ⟨t,H',h,q1,q2,q⟩
 have hk:=Zk.refl H []
 have fs:=hs.old
 have fp:=hp.old
 have fn:=hsn.old
 refine Zc<|Za rfl<|Zb<|Zc<|Za rfl<|Zv (m:=m) rfl<|Za rfl<|Zv (m:=n) rfl<|X6 (a:=(m:Int)) (b:=(n:Int)) rfl rfl<|Zb ?_
 refine And.intro (fun q1=>?_) (fun q1=>?_)
 ·have q1:(m:Int)≠(n:Int):=by simpa using q1
  refine Zc<|Za rfl<|Zb ?_
  exact And.intro trivial (Exists.intro _ (And.intro rfl ⟨⟨false,rfl,fun c=>(by cases c),fun c=>by first | (have:=c.1;omega) | (have z:=c.2 i (by omega);have z1:=z.a;have z2:=z.d;omega) | (have z:=c.2 i (by omega);have z1:=z.b (by omega);omega) | (have z:=(c.2 i (by omega)).c;simp_all)⟩,hk⟩))
 ·have q1:¬ ((m:Int)≠(n:Int)):=by simpa using q1
  first | refine Zj ?_ | skip
  refine Zc<|Za rfl<|Zb ?_
  refine Zt (fn:=Try.f28) Zfp N28 ZeY (fun i:Nat=>[(0,.slice la n lcap),(1,.slice pa m pc),(2,.slice na nn ncap),(3,iv reach),(4,iv days),(5,iv limit),(6,iv frm),(7,iv to_),(17,iv (i:Int))])
   (fun k i H'=>i+k=m∧Zk H H' []∧Sl H' la n lcap (cI loads)∧Sl H' pa m pc (cI plan)∧Sl H' na nn ncap (nsc ns)∧∀ j,j < i→GoAt loads plan ns reach days limit frm to_ j) m 0 ⟨by omega,hk,hs,hp,hsn,fun j h=>absurd h (Nat.not_lt_zero j)⟩ ⟨rfl,rfl,rfl,rfl,rfl,rfl,rfl,rfl,rfl,trivial⟩ ?_
  rintro ko i L1 ⟨hik,hk,hs,hp,hsn,hall⟩
  have mk:=hk.1
  refine Zc<|Za rfl<|Za rfl<|Zv (m:=m) rfl<|Zx (a:=(i:Int)) (b:=(m:Int)) rfl rfl<|Zb ?_
  refine And.intro (fun q2=>?_) (fun q2=>?_)
  ·have q2:(i:Int) < (m:Int):=of_decide_eq_true q2
   have hi:i < m:=by omega
   rcases id hp with ⟨_,h0p,_⟩ | ⟨pb,ep,rp,_⟩
   ·omega
   have lp:=rp.1
   have lpb2:=fp pb ep
   first | refine Zj ?_ | skip
   refine Yq<|Zg rfl<|Zg rfl<|ZC (b:=pb) (o:=0) (k:=i) (j:=(i:Int)) (by rw [← ep];rfl) rfl (by omega) (by omega)<|Yf (b:=pb) (o:=0+i * 1) (v:=iv (plan.getD i 0)) rfl rp (YI (by omega))<|Zg rfl<|yh (a:=(plan.getD i 0)) (b:=frm) rfl rfl ?_
   intro t3 g3;cases t3
   ·have g3:¬ ((plan.getD i 0) < frm):=of_decide_eq_false g3
    refine Zg rfl ?_
    refine ZE rfl (Zg rfl ?_)
    refine ZE rfl (Zg rfl ?_)
    refine ZE rfl (ZC (b:=pb) (o:=0) (k:=i) (j:=(i:Int)) (by rw [← ep];rfl) rfl (by omega) (by omega) ?_)
    refine ZE rfl (Yf (b:=pb) (o:=0+i * 1) (v:=iv (plan.getD i 0)) rfl rp (YI (by omega)) ?_)
    refine ZE rfl (Zg rfl ?_)
    refine ZE rfl (UB (a:=(plan.getD i 0)) (b:=to_) rfl rfl ?_)
    intro t4 g4;cases t4
    ·have g4:¬ ((plan.getD i 0) > to_):=of_decide_eq_false g4
     refine ZH (v:=.bool false) rfl rfl<|Zg rfl ?_
     refine ZE rfl (Zg rfl ?_)
     refine ZE rfl (UB (a:=(i:Int)) (b:=0) rfl rfl ?_)
     intro t5 g5;cases t5
     ·have g5:¬ ((i:Int) > 0):=of_decide_eq_false g5
      refine ZE rfl (Zg rfl ?_)
      refine Zz rfl<|Zz rfl<|Zz rfl<|Zz rfl<|Zz rfl<|Zz rfl<|Zz rfl<|Zz rfl<|Zz rfl<|Zz rfl ?_
      refine ZE rfl (ZH (v:=.bool false) rfl rfl ?_)
      refine ZH (v:=.bool false) rfl rfl<|Zg rfl ?_
      refine ZE rfl (Zg rfl ?_)
      refine ZE rfl (Zg rfl ?_)
      refine ZE rfl (Zg rfl ?_)
      refine ZE rfl (Zg rfl ?_)
      refine ZE rfl (ZC (b:=pb) (o:=0) (k:=i) (j:=(i:Int)) (by rw [← ep];rfl) rfl (by omega) (by omega) ?_)
      refine ZE rfl (Yf (b:=pb) (o:=0+i * 1) (v:=iv (plan.getD i 0)) rfl rp (YI (by omega)) ?_)
      refine Za9 (Q9 hsn hln (by omega) (reach:=reach) (D:=(plan.getD i 0)) (by first | omega | (simp only [cond_true];omega) | (simp only [cond_false];omega))) ?_
      intro tH1 H1 hH1 kH1
      have mH1:=kH1.1
      have hk:=hk.trans kH1
      have hs:=kH1.sl0 hs
      have hp:=kH1.sl0 hp
      have hsn:=kH1.sl0 hsn
      have rp:=kH1.rd rp (by simp)
      cases tH1
      ·have hfr:frB ns reach (plan.getD i 0)=false:=hH1
       refine ZE rfl (ZH (v:=.bool true) rfl rfl ?_)
       refine ZH (v:=.bool true) rfl rfl ?_
       refine ZL (by repeat' first | exact True.intro | exact (fun h=>h) | refine And.intro ?_ ?_ | (intro h;have h:(_:Nat)=_:=h;omega)) ?_
       refine ZK<|Zc<|Za rfl<|Zb ?_
       exact And.intro trivial (Exists.intro _ (And.intro rfl ⟨⟨false,rfl,fun c=>(by cases c),fun c=>by first | (have:=c.1;omega) | (have z:=c.2 i (by omega);have z1:=z.a;have z2:=z.d;omega) | (have z:=c.2 i (by omega);have z1:=z.b (by omega);omega) | (have z:=(c.2 i (by omega)).c;simp_all)⟩,hk⟩))
      ·have hfr:frB ns reach (plan.getD i 0)=true:=hH1
       refine ZE rfl (ZH (v:=.bool false) rfl rfl ?_)
       refine ZH (v:=.bool false) rfl rfl ?_
       refine ZL (by repeat' first | exact True.intro | exact (fun h=>h) | refine And.intro ?_ ?_ | (intro h;have h:(_:Nat)=_:=h;omega)) ?_
       refine ZQ ?_
       first | refine Zj ?_ | skip
       refine Zc<|Za rfl<|Zb<|Zc<|Za rfl<|Zb ?_
       refine Zt (fn:=Try.f28) ZcQ N28 ZcU (fun k:Nat=>[(0,.slice la n lcap),(1,.slice pa m pc),(2,.slice na nn ncap),(3,iv reach),(4,iv days),(5,iv limit),(6,iv frm),(7,iv to_),(17,iv (i:Int)),(18,iv (gs loads plan days i k)),(19,iv (k:Int))])
        (fun z k H'=>k+z=i+1∧Zk H H' []∧Sl H' la n lcap (cI loads)∧Sl H' pa m pc (cI plan)∧Sl H' na nn ncap (nsc ns)) (i+1) 0 ⟨by omega,hk,hs,hp,hsn⟩ ⟨rfl,rfl,rfl,rfl,rfl,rfl,rfl,rfl,rfl,rfl,rfl,trivial⟩ ?_
       rintro k2 k L2 ⟨hik2,hk,hs,hp,hsn⟩
       have mk:=hk.1;have hgi:=Zbf (plan:=plan) (days:=days) (i:=i) hv (k:=k) (by omega)
       refine Zc<|Za rfl<|Za rfl<|Wq (a:=(k:Int)) (b:=(i:Int)) rfl rfl<|Zb ?_
       refine And.intro (fun q6=>?_) (fun q6=>?_)
       ·have q6:(k:Int)≤(i:Int):=of_decide_eq_true q6
        have hki:k≤i:=(by omega);have hlk:=hv k (by omega)
        rcases id hp with ⟨_,h0p,_⟩ | ⟨pb,ep,rp,_⟩
        ·omega
        have lp:=rp.1
        have lpb2:=fp pb ep
        rcases id hs with ⟨_,h0s,_⟩ | ⟨sb,es,rs,_⟩
        ·omega
        have ls:=rs.1
        have lsb2:=fs sb es
        first | refine Zj ?_ | skip
        refine Yq<|Zg rfl<|Zg rfl<|ZC (b:=pb) (o:=0) (k:=k) (j:=(k:Int)) (by rw [← ep];rfl) rfl (by omega) (by omega)<|Yf (b:=pb) (o:=0+k * 1) (v:=iv (plan.getD k 0)) rfl rp (YI (by omega))<|Zg rfl<|Zg rfl<|ZC (b:=pb) (o:=0) (k:=i) (j:=(i:Int)) (by rw [← ep];rfl) rfl (by omega) (by omega)<|Yf (b:=pb) (o:=0+i * 1) (v:=iv (plan.getD i 0)) rfl rp (YI (by omega))<|Zg rfl<|XT (a:=(plan.getD i 0)) (b:=days) rfl rfl ⟨by omega,by omega⟩<|WW (a:=(plan.getD k 0)) (b:=(plan.getD i 0) - days) rfl rfl ?_
        refine ZL (by repeat' first | exact True.intro | exact (fun h=>h) | refine And.intro ?_ ?_ | (intro h;have h:(_:Nat)=_:=h;omega)) ?_
        refine And.intro (fun q7=>?_) (fun q7=>?_)
        ·have q7:(plan.getD k 0) > ((plan.getD i 0) - days):=of_decide_eq_true q7
         show Zn _ _ _ _ _ _ _ _
         refine Za rfl<|Za rfl<|Za rfl<|YS (b:=sb) (o:=0) (k:=k) (j:=(k:Int)) (by rw [← es];rfl) rfl rfl (by omega)<|ZP (b:=sb) (o:=0+k * 1) (v:=iv (loads.getD k 0)) rfl rs (YI (by omega))<|Zo (a:=(gs loads plan days i k)) (b:=(loads.getD k 0)) rfl rfl ⟨by omega,by omega⟩<|Za rfl<|Zb ?_
         show Zn _ _ _ _ _ _ _ _
         refine Za rfl<|Zo (a:=(k:Int)) (b:=1) rfl rfl ⟨by omega,by omega⟩<|Za rfl<|Zb ?_
         have e3:(gs loads plan days i (k+1))=(gs loads plan days i k)+loads.getD k 0:=by show (if _ then _ else _)=_;rw [if_pos (by assumption)]
         exact ⟨k2 - 1,k+1,by omega,⟨by omega,hk,hs,hp,hsn⟩,rfl,rfl,rfl,rfl,rfl,rfl,rfl,rfl,rfl,ivq e3.symm,ivq (by omega),trivial⟩
        ·have q7:¬ ((plan.getD k 0) > ((plan.getD i 0) - days)):=of_decide_eq_false q7
         first | refine Zj ?_ | skip
         show Zn _ _ _ _ _ _ _ _
         refine Za rfl<|Zo (a:=(k:Int)) (b:=1) rfl rfl ⟨by omega,by omega⟩<|Za rfl<|Zb ?_
         have e3:(gs loads plan days i (k+1))=(gs loads plan days i k):=by show (if _ then _ else _)=_;rw [if_neg (by assumption)]
         exact ⟨k2 - 1,k+1,by omega,⟨by omega,hk,hs,hp,hsn⟩,rfl,rfl,rfl,rfl,rfl,rfl,rfl,rfl,rfl,ivq e3.symm,ivq (by omega),trivial⟩
       ·have q6:¬ ((k:Int)≤(i:Int)):=of_decide_eq_false q6
        have eki:k=i+1:=by omega
        rw [eki]
        first | (refine Zy ?_;show wC _ _ _ _ _ _ _ _ _) | skip
        refine Zc<|Za rfl<|Za rfl<|Y2 (a:=(gs loads plan days i (i+1))) (b:=limit) rfl rfl<|Zb ?_
        refine And.intro (fun q8=>?_) (fun q8=>?_)
        ·have q8:(gs loads plan days i (i+1)) > limit:=of_decide_eq_true q8
         refine Zc<|Za rfl<|Zb ?_
         exact And.intro trivial (Exists.intro _ (And.intro rfl ⟨⟨false,rfl,fun c=>(by cases c),fun c=>by first | (have:=c.1;omega) | (have z:=c.2 i (by omega);have z1:=z.a;have z2:=z.d;omega) | (have z:=c.2 i (by omega);have z1:=z.b (by omega);omega) | (have z:=(c.2 i (by omega)).c;simp_all)⟩,hk⟩))
        ·have q8:¬ ((gs loads plan days i (i+1)) > limit):=of_decide_eq_false q8
         first | refine Zj ?_ | skip
         show Zn _ _ _ _ _ _ _ _
         refine Za rfl<|Zo (a:=(i:Int)) (b:=1) rfl rfl ⟨by omega,by omega⟩<|Za rfl<|Zb ?_
         have hg:GoAt loads plan ns reach days limit frm to_ i:=⟨by omega,fun _=>by omega,by assumption,by omega⟩
         exact ⟨ko - 1,i+1,by omega,⟨by omega,hk,hs,hp,hsn,fun j hj=>by rcases Nat.lt_or_ge j i with c | c;exact hall j c;rw [show j=i by omega];exact hg⟩,rfl,rfl,rfl,rfl,rfl,rfl,rfl,rfl,ivq (by omega),trivial⟩
     ·have g5:(i:Int) > 0:=of_decide_eq_true g5
      refine ZE rfl (Zg rfl ?_)
      refine ZE rfl (Zg rfl ?_)
      refine ZE rfl (Zg rfl ?_)
      refine ZE rfl (ZC (b:=pb) (o:=0) (k:=i) (j:=(i:Int)) (by rw [← ep];rfl) rfl (by omega) (by omega) ?_)
      refine ZE rfl (Yf (b:=pb) (o:=0+i * 1) (v:=iv (plan.getD i 0)) rfl rp (YI (by omega)) ?_)
      refine ZE rfl (Zg rfl ?_)
      refine ZE rfl (Zg rfl ?_)
      refine ZE rfl (XT (a:=(i:Int)) (b:=1) rfl rfl ⟨by omega,by omega⟩ ?_)
      refine ZE rfl (ZC (b:=pb) (o:=0) (k:=i - 1) (j:=(i:Int) - 1) (by rw [← ep];rfl) rfl (by omega) (by omega) ?_)
      refine ZE rfl (Yf (b:=pb) (o:=0+(i - 1) * 1) (v:=iv (plan.getD (i - 1) 0)) rfl rp (YI (by omega)) ?_)
      refine ZE rfl (yI (a:=(plan.getD i 0)) (b:=(plan.getD (i - 1) 0)) rfl rfl ?_)
      intro t9 g9;cases t9
      ·have g9:¬ ((plan.getD i 0)≤(plan.getD (i - 1) 0)):=of_decide_eq_false g9
       refine ZE rfl (ZH (v:=.bool false) rfl rfl ?_)
       refine ZH (v:=.bool false) rfl rfl<|Zg rfl ?_
       refine ZE rfl (Zg rfl ?_)
       refine ZE rfl (Zg rfl ?_)
       refine ZE rfl (Zg rfl ?_)
       refine ZE rfl (Zg rfl ?_)
       refine ZE rfl (ZC (b:=pb) (o:=0) (k:=i) (j:=(i:Int)) (by rw [← ep];rfl) rfl (by omega) (by omega) ?_)
       refine ZE rfl (Yf (b:=pb) (o:=0+i * 1) (v:=iv (plan.getD i 0)) rfl rp (YI (by omega)) ?_)
       refine Za9 (Q9 hsn hln (by omega) (reach:=reach) (D:=(plan.getD i 0)) (by first | omega | (simp only [cond_true];omega) | (simp only [cond_false];omega))) ?_
       intro tH2 H2 hH2 kH2
       have mH2:=kH2.1
       have hk:=hk.trans kH2
       have hs:=kH2.sl0 hs
       have hp:=kH2.sl0 hp
       have hsn:=kH2.sl0 hsn
       have rp:=kH2.rd rp (by simp)
       cases tH2
       ·have hfr:frB ns reach (plan.getD i 0)=false:=hH2
        refine ZE rfl (ZH (v:=.bool true) rfl rfl ?_)
        refine ZH (v:=.bool true) rfl rfl ?_
        refine ZL (by repeat' first | exact True.intro | exact (fun h=>h) | refine And.intro ?_ ?_ | (intro h;have h:(_:Nat)=_:=h;omega)) ?_
        refine ZK<|Zc<|Za rfl<|Zb ?_
        exact And.intro trivial (Exists.intro _ (And.intro rfl ⟨⟨false,rfl,fun c=>(by cases c),fun c=>by first | (have:=c.1;omega) | (have z:=c.2 i (by omega);have z1:=z.a;have z2:=z.d;omega) | (have z:=c.2 i (by omega);have z1:=z.b (by omega);omega) | (have z:=(c.2 i (by omega)).c;simp_all)⟩,hk⟩))
       ·have hfr:frB ns reach (plan.getD i 0)=true:=hH2
        refine ZE rfl (ZH (v:=.bool false) rfl rfl ?_)
        refine ZH (v:=.bool false) rfl rfl ?_
        refine ZL (by repeat' first | exact True.intro | exact (fun h=>h) | refine And.intro ?_ ?_ | (intro h;have h:(_:Nat)=_:=h;omega)) ?_
        refine ZQ ?_
        first | refine Zj ?_ | skip
        refine Zc<|Za rfl<|Zb<|Zc<|Za rfl<|Zb ?_
        refine Zt (fn:=Try.f28) ZcQ N28 ZcU (fun k:Nat=>[(0,.slice la n lcap),(1,.slice pa m pc),(2,.slice na nn ncap),(3,iv reach),(4,iv days),(5,iv limit),(6,iv frm),(7,iv to_),(17,iv (i:Int)),(18,iv (gs loads plan days i k)),(19,iv (k:Int))])
         (fun z k H'=>k+z=i+1∧Zk H H' []∧Sl H' la n lcap (cI loads)∧Sl H' pa m pc (cI plan)∧Sl H' na nn ncap (nsc ns)) (i+1) 0 ⟨by omega,hk,hs,hp,hsn⟩ ⟨rfl,rfl,rfl,rfl,rfl,rfl,rfl,rfl,rfl,rfl,rfl,trivial⟩ ?_
        rintro k2 k L2 ⟨hik2,hk,hs,hp,hsn⟩
        have mk:=hk.1;have hgi:=Zbf (plan:=plan) (days:=days) (i:=i) hv (k:=k) (by omega)
        refine Zc<|Za rfl<|Za rfl<|Wq (a:=(k:Int)) (b:=(i:Int)) rfl rfl<|Zb ?_
        refine And.intro (fun q10=>?_) (fun q10=>?_)
        ·have q10:(k:Int)≤(i:Int):=of_decide_eq_true q10
         have hki:k≤i:=(by omega);have hlk:=hv k (by omega)
         rcases id hp with ⟨_,h0p,_⟩ | ⟨pb,ep,rp,_⟩
         ·omega
         have lp:=rp.1
         have lpb2:=fp pb ep
         rcases id hs with ⟨_,h0s,_⟩ | ⟨sb,es,rs,_⟩
         ·omega
         have ls:=rs.1
         have lsb2:=fs sb es
         first | refine Zj ?_ | skip
         refine Yq<|Zg rfl<|Zg rfl<|ZC (b:=pb) (o:=0) (k:=k) (j:=(k:Int)) (by rw [← ep];rfl) rfl (by omega) (by omega)<|Yf (b:=pb) (o:=0+k * 1) (v:=iv (plan.getD k 0)) rfl rp (YI (by omega))<|Zg rfl<|Zg rfl<|ZC (b:=pb) (o:=0) (k:=i) (j:=(i:Int)) (by rw [← ep];rfl) rfl (by omega) (by omega)<|Yf (b:=pb) (o:=0+i * 1) (v:=iv (plan.getD i 0)) rfl rp (YI (by omega))<|Zg rfl<|XT (a:=(plan.getD i 0)) (b:=days) rfl rfl ⟨by omega,by omega⟩<|WW (a:=(plan.getD k 0)) (b:=(plan.getD i 0) - days) rfl rfl ?_
         refine ZL (by repeat' first | exact True.intro | exact (fun h=>h) | refine And.intro ?_ ?_ | (intro h;have h:(_:Nat)=_:=h;omega)) ?_
         refine And.intro (fun q11=>?_) (fun q11=>?_)
         ·have q11:(plan.getD k 0) > ((plan.getD i 0) - days):=of_decide_eq_true q11
          show Zn _ _ _ _ _ _ _ _
          refine Za rfl<|Za rfl<|Za rfl<|YS (b:=sb) (o:=0) (k:=k) (j:=(k:Int)) (by rw [← es];rfl) rfl rfl (by omega)<|ZP (b:=sb) (o:=0+k * 1) (v:=iv (loads.getD k 0)) rfl rs (YI (by omega))<|Zo (a:=(gs loads plan days i k)) (b:=(loads.getD k 0)) rfl rfl ⟨by omega,by omega⟩<|Za rfl<|Zb ?_
          show Zn _ _ _ _ _ _ _ _
          refine Za rfl<|Zo (a:=(k:Int)) (b:=1) rfl rfl ⟨by omega,by omega⟩<|Za rfl<|Zb ?_
          have e3:(gs loads plan days i (k+1))=(gs loads plan days i k)+loads.getD k 0:=by show (if _ then _ else _)=_;rw [if_pos (by assumption)]
          exact ⟨k2 - 1,k+1,by omega,⟨by omega,hk,hs,hp,hsn⟩,rfl,rfl,rfl,rfl,rfl,rfl,rfl,rfl,rfl,ivq e3.symm,ivq (by omega),trivial⟩
         ·have q11:¬ ((plan.getD k 0) > ((plan.getD i 0) - days)):=of_decide_eq_false q11
          first | refine Zj ?_ | skip
          show Zn _ _ _ _ _ _ _ _
          refine Za rfl<|Zo (a:=(k:Int)) (b:=1) rfl rfl ⟨by omega,by omega⟩<|Za rfl<|Zb ?_
          have e3:(gs loads plan days i (k+1))=(gs loads plan days i k):=by show (if _ then _ else _)=_;rw [if_neg (by assumption)]
          exact ⟨k2 - 1,k+1,by omega,⟨by omega,hk,hs,hp,hsn⟩,rfl,rfl,rfl,rfl,rfl,rfl,rfl,rfl,rfl,ivq e3.symm,ivq (by omega),trivial⟩
        ·have q10:¬ ((k:Int)≤(i:Int)):=of_decide_eq_false q10
         have eki:k=i+1:=by omega
         rw [eki]
         first | (refine Zy ?_;show wC _ _ _ _ _ _ _ _ _) | skip
         refine Zc<|Za rfl<|Za rfl<|Y2 (a:=(gs loads plan days i (i+1))) (b:=limit) rfl rfl<|Zb ?_
         refine And.intro (fun q12=>?_) (fun q12=>?_)
         ·have q12:(gs loads plan days i (i+1)) > limit:=of_decide_eq_true q12
          refine Zc<|Za rfl<|Zb ?_
          exact And.intro trivial (Exists.intro _ (And.intro rfl ⟨⟨false,rfl,fun c=>(by cases c),fun c=>by first | (have:=c.1;omega) | (have z:=c.2 i (by omega);have z1:=z.a;have z2:=z.d;omega) | (have z:=c.2 i (by omega);have z1:=z.b (by omega);omega) | (have z:=(c.2 i (by omega)).c;simp_all)⟩,hk⟩))
         ·have q12:¬ ((gs loads plan days i (i+1)) > limit):=of_decide_eq_false q12
          first | refine Zj ?_ | skip
          show Zn _ _ _ _ _ _ _ _
          refine Za rfl<|Zo (a:=(i:Int)) (b:=1) rfl rfl ⟨by omega,by omega⟩<|Za rfl<|Zb ?_
          have hg:GoAt loads plan ns reach days limit frm to_ i:=⟨by omega,fun _=>by omega,by assumption,by omega⟩
          exact ⟨ko - 1,i+1,by omega,⟨by omega,hk,hs,hp,hsn,fun j hj=>by rcases Nat.lt_or_ge j i with c | c;exact hall j c;rw [show j=i by omega];exact hg⟩,rfl,rfl,rfl,rfl,rfl,rfl,rfl,rfl,ivq (by omega),trivial⟩
      ·have g9:(plan.getD i 0)≤(plan.getD (i - 1) 0):=of_decide_eq_true g9
       refine ZE rfl (ZH (v:=.bool true) rfl rfl ?_)
       refine ZH (v:=.bool true) rfl rfl<|Zg rfl<|Zz rfl<|Zz rfl<|Zz rfl<|Zz rfl<|Zz rfl<|Zz rfl<|Zz rfl<|Zz rfl<|ZH (v:=.bool true) rfl rfl ?_
       refine ZL (by repeat' first | exact True.intro | exact (fun h=>h) | refine And.intro ?_ ?_ | (intro h;have h:(_:Nat)=_:=h;omega)) ?_
       refine ZK<|Zc<|Za rfl<|Zb ?_
       exact And.intro trivial (Exists.intro _ (And.intro rfl ⟨⟨false,rfl,fun c=>(by cases c),fun c=>by first | (have:=c.1;omega) | (have z:=c.2 i (by omega);have z1:=z.a;have z2:=z.d;omega) | (have z:=c.2 i (by omega);have z1:=z.b (by omega);omega) | (have z:=(c.2 i (by omega)).c;simp_all)⟩,hk⟩))
    ·have g4:(plan.getD i 0) > to_:=of_decide_eq_true g4
     refine ZH (v:=.bool true) rfl rfl<|Zg rfl<|Zz rfl<|Zz rfl<|Zz rfl<|XA rfl<|XA rfl<|XA rfl<|XA rfl<|XA rfl<|XA rfl<|XA rfl<|XA rfl<|XA rfl<|XA rfl<|Zz rfl<|ZH (v:=.bool true) rfl rfl<|Zg rfl<|Zz rfl<|Zz rfl<|Zz rfl<|Zz rfl<|Zz rfl<|Zz rfl<|Zz rfl<|Zz rfl<|ZH (v:=.bool true) rfl rfl ?_
     refine ZL (by repeat' first | exact True.intro | exact (fun h=>h) | refine And.intro ?_ ?_ | (intro h;have h:(_:Nat)=_:=h;omega)) ?_
     refine ZK<|Zc<|Za rfl<|Zb ?_
     exact And.intro trivial (Exists.intro _ (And.intro rfl ⟨⟨false,rfl,fun c=>(by cases c),fun c=>by first | (have:=c.1;omega) | (have z:=c.2 i (by omega);have z1:=z.a;have z2:=z.d;omega) | (have z:=c.2 i (by omega);have z1:=z.b (by omega);omega) | (have z:=(c.2 i (by omega)).c;simp_all)⟩,hk⟩))
   ·have g3:(plan.getD i 0) < frm:=of_decide_eq_true g3
    refine Zg rfl<|Zz rfl<|Zz rfl<|Zz rfl<|Zz rfl<|Zz rfl<|Zz rfl<|ZH (v:=.bool true) rfl rfl<|Zg rfl<|Zz rfl<|Zz rfl<|Zz rfl<|XA rfl<|XA rfl<|XA rfl<|XA rfl<|XA rfl<|XA rfl<|XA rfl<|XA rfl<|XA rfl<|XA rfl<|Zz rfl<|ZH (v:=.bool true) rfl rfl<|Zg rfl<|Zz rfl<|Zz rfl<|Zz rfl<|Zz rfl<|Zz rfl<|Zz rfl<|Zz rfl<|Zz rfl<|ZH (v:=.bool true) rfl rfl ?_
    refine ZL (by repeat' first | exact True.intro | exact (fun h=>h) | refine And.intro ?_ ?_ | (intro h;have h:(_:Nat)=_:=h;omega)) ?_
    refine ZK<|Zc<|Za rfl<|Zb ?_
    exact And.intro trivial (Exists.intro _ (And.intro rfl ⟨⟨false,rfl,fun c=>(by cases c),fun c=>by first | (have:=c.1;omega) | (have z:=c.2 i (by omega);have z1:=z.a;have z2:=z.d;omega) | (have z:=c.2 i (by omega);have z1:=z.b (by omega);omega) | (have z:=(c.2 i (by omega)).c;simp_all)⟩,hk⟩))
  ·have q2:¬ ((i:Int) < (m:Int)):=of_decide_eq_false q2
   first | (refine Zy ?_;show wC _ _ _ _ _ _ _ _ _) | skip
   refine Zc<|Za rfl<|Zb ?_
   exact And.intro trivial (Exists.intro _ (And.intro rfl ⟨⟨true,rfl,fun _=>⟨by omega,fun j hj=>hall j (by omega)⟩,fun _=>rfl⟩,hk⟩))
end
end Go.Ax

/-
 Pool: the law PermitWaits (written by program).
-/
namespace Go.Ax
open Go Go.RowKit Go.Proofs

theorem QJ {days limit:Int}:∀ {ls:List Int} {h:List Po} {os r:List Int},YM days limit h os ls=some r→r.length=ls.length
 | [],h,os,r,e=>by simp [YM] at e;subst e;rfl
 | l :: ls,h,os,r,e=>by
  unfold YM at e
  split at e
  ·cases e
  ·rw [Option.map_eq_some_iff] at e
   obtain ⟨q,e1,rfl⟩:=e
   simp [QJ e1]
section
variable {kn:Kn} {lo:Nat} {H:Hp}
end
end Go.Ax

/-
 Pool: schedules that are good,told by numbers (written by program).
-/
namespace Go.Ax
open Go Go.RowKit Go.Proofs

theorem Zbu {ns:List Ns} {reach D:Int} (hf:frB ns reach D=true):∀ {n:Nat} {day:Int},day≤D→D < day+n→D∈op ns reach day n
 | 0,_,h1,h2=>by omega
 | n+1,day,h1,h2=>by
  rw [op]
  by_cases c:day=D
  ·subst c;rw [if_pos hf];simp
  ·have:=Zbu hf (n:=n) (day:=day+1) (by omega) (by omega)
   split
   ·simp [this]
   ·exact this
def zp:List Int→List Int→Nat→List Po
 | _,_,0=>[]
 | q :: qs,l :: ls,k+1=>⟨q,l⟩ :: zp qs ls k
 | _,_,_+1=>[]
theorem Zez:∀ {qs ls:List Int} {k:Nat},k < qs.length→k < ls.length→zp qs ls (k+1)=zp qs ls k ++ [⟨qs.getD k 0,ls.getD k 0⟩]
 | [],_,k,h,_=>absurd h (Nat.not_lt_zero k)
 | _ :: _,[],k,_,h=>absurd h (Nat.not_lt_zero k)
 | q :: qs,l :: ls,0,_,_=>by simp [zp]
 | q :: qs,l :: ls,k+1,h1,h2=>by
  have ih:=Zez (qs:=qs) (ls:=ls) (k:=k) (by simpa using h1) (by simpa using h2)
  rw [zp,ih,zp]
  simp
theorem yQ {days limit:Int}:∀ {qs ls:List Int} {h:List Po},qs.length=ls.length→(gq days limit h qs ls↔∀ i,i < ls.length→ls.getD i 0+ps ((h ++ zp qs ls i).filter (yg (qs.getD i 0 - days)))≤limit)
 | [],[],h,_=>⟨fun _ i hi=>absurd hi (Nat.not_lt_zero i),fun _=>trivial⟩
 | q :: qs,l :: ls,h,e=>by
  have ih:=yQ (days:=days) (limit:=limit) (qs:=qs) (ls:=ls) (h:=h ++ [⟨q,l⟩]) (by simpa using e)
  constructor
  ·rintro ⟨g1,g2⟩ i hi
   match i,hi with
   | 0,_=>simpa [zp] using g1
   | i+1,hi=>
    have:=ih.1 g2 i (by simpa using hi)
    simpa [zp] using this
  ·intro g
   refine ⟨?_,ih.2 fun i hi=>?_⟩
   ·have:=g 0 (by simp)
    simpa [zp] using this
   ·have:=g (i+1) (by simpa using hi)
    simpa [zp] using this
theorem Zbm {loads plan:List Int} {days:Int} {i:Nat} (hl:plan.length=loads.length):∀ {k:Nat},k≤loads.length→gs loads plan days i k=ps ((zp plan loads k).filter (yg (plan.getD i 0 - days)))
 | 0,_=>by simp [gs,zp,ps]
 | k+1,h=>by
  have ih:=Zbm hl (days:=days) (i:=i) (k:=k) (by omega)
  rw [Zez (by omega) (by omega),List.filter_append,WU,← ih]
  by_cases c:plan.getD k 0 > plan.getD i 0 - days
  ·rw [show gs loads plan days i (k+1)=gs loads plan days i k+loads.getD k 0 from if_pos c,List.filter_cons_of_pos (YD.2 (show plan.getD i 0 - days < _ from c))];simp [ps]
  ·rw [show gs loads plan days i (k+1)=gs loads plan days i k from if_neg c,List.filter_cons_of_neg (fun q=>c (YD.1 q))];simp [ps]
theorem jG {loads plan:List Int} {days:Int} {i:Nat} (hd:1≤days):gs loads plan days i (i+1)=gs loads plan days i i+loads.getD i 0:=by
 rw [gs,if_pos (by omega)]
theorem ZaX {loads plan:List Int} {ns:List Ns} {reach days limit frm to_:Int} (hd:1≤days) (g:Goo loads plan ns reach days limit frm to_):gq days limit [] plan loads∧plan.Pairwise (· < ·)∧∀ q,q∈plan→q∈op ns reach frm (to_+1 - frm).toNat:=by
 obtain ⟨hl,hg⟩:=g
 refine ⟨(yQ hl).2 fun i hi=>?_,?_,fun q hq=>?_⟩
 ·have:=(hg i (by omega)).d
  rw [jG hd,Zbm hl (by omega)] at this
  simp only [List.nil_append]
  omega
 ·have hm:∀ i j,i < j→j < plan.length→plan.getD i 0 < plan.getD j 0:=by
   intro i j hij hj
   induction j with
   | zero=>omega
   | succ j ih=>
    have h1:=(hg (j+1) hj).b (by omega)
    rw [Nat.add_sub_cancel] at h1
    rcases Nat.lt_or_ge i j with c | c
    ·have:=ih c (by omega);omega
    ·rw [show i=j by omega];exact h1
  rw [List.pairwise_iff_getElem]
  intro i j hi hj hij
  have:=hm i j hij hj
  rwa [List.getD_eq_getElem?_getD,List.getElem?_eq_getElem hi,List.getD_eq_getElem?_getD,List.getElem?_eq_getElem hj] at this
 ·obtain ⟨i,hi,rfl⟩:=Vy (z:=(0:Int)) hq
  obtain ⟨a,_,c,_⟩:=hg i hi
  exact Zbu c a.1 (by omega)
theorem Zds {loads plan:List Int} {ns:List Ns} {reach days limit frm to_:Int} (hd:1≤days) (hl:plan.length=loads.length) (g:gq days limit [] plan loads) (hp:plan.Pairwise (· < ·)) (hi:∀ q,q∈plan→q∈op ns reach frm (to_+1 - frm).toNat):Goo loads plan ns reach days limit frm to_:=by
 refine ⟨hl,fun i h=>?_⟩
 have hm:=yu (hi _ (YA (z:=(0:Int)) h))
 refine ⟨by omega,fun h0=>?_,hm.2.2,?_⟩
 ·have:=List.pairwise_iff_getElem.1 hp (i - 1) i (by omega) h (by omega)
  rw [List.getD_eq_getElem?_getD,List.getElem?_eq_getElem (by omega),List.getD_eq_getElem?_getD,List.getElem?_eq_getElem h]
  exact this
 ·rw [jG hd,Zbm hl (by omega)]
  have:=(yQ hl).1 g i (by omega)
  simp only [List.nil_append] at this
  omega
section
variable {loads p:List Int} {ns:List Ns} {reach days limit frm to_ e:Int}
theorem Zei (h:seT loads ns reach days limit frm to_=(p,e)):(p.length=0∧(e=1∨e=2∨e=3))∨(loads.length≤64∧(0≤limit∧limit≤72057594037927936)∧(1≤days∧days≤366)∧(0≤frm∧frm≤16384)∧(0≤to_∧to_≤16384)∧((e=0∧p.length=loads.length)∨(e=4∧p.length=0))):=by
 rcases yk (loads:=loads) (ns:=ns) (reach:=reach) (days:=days) (limit:=limit) (frm:=frm) (to_:=to_) with ⟨x,q,z⟩ | ⟨h0,_,_,h1,_,h2,h3,h4,q⟩
 ·rw [q] at h
  simp only [Prod.mk.injEq] at h
  obtain ⟨rfl,rfl⟩:=h
  exact .inl ⟨rfl,z⟩
 ·rw [q] at h
  refine .inr ⟨by omega,h1,h2,h3,h4,?_⟩
  cases k:YM days limit [] (op ns reach frm (to_+1 - frm).toNat) loads with
  | none=>rw [k] at h;simp only [scE,Prod.mk.injEq] at h;obtain ⟨rfl,rfl⟩:=h;exact .inr ⟨rfl,rfl⟩
  | some r=>rw [k] at h;simp only [scE,Prod.mk.injEq] at h;obtain ⟨rfl,rfl⟩:=h;exact .inl ⟨rfl,QJ k⟩
theorem V3 (h:seT loads ns reach days limit frm to_=(p,e)) (he:e=0∨e=4):¬ 64 < loads.length∧vN ns=true∧loads.any (XG 72057594037927936)=false∧(0≤limit∧limit≤72057594037927936)∧(0≤reach∧reach≤63)∧(1≤days∧days≤366)∧(0≤frm∧frm≤16384)∧(0≤to_∧to_≤16384)∧scE (YM days limit [] (op ns reach frm (to_+1 - frm).toNat) loads)=(p,e):=by
 rcases yk (loads:=loads) (ns:=ns) (reach:=reach) (days:=days) (limit:=limit) (frm:=frm) (to_:=to_) with ⟨x,q,z⟩ | ⟨h0,h5,h6,h1,h7,h2,h3,h4,q⟩
 ·rw [q] at h
  simp only [Prod.mk.injEq] at h
  omega
 ·rw [q] at h
  exact ⟨h0,h5,h6,h1,h7,h2,h3,h4,h⟩
theorem K2 (h:loads.any (XG 72057594037927936)=false):∀ l,l∈loads→0≤l∧l≤72057594037927936:=by
 intro l hl
 rw [List.any_eq_false] at h
 have:=h l hl
 simp only [XG,Bool.not_eq_true',Bool.not_eq_false] at this
 exact Y5 this
theorem WG {n a b:Int} (h:a≤n∧n≤b):inB n a b=true:=by simp [inB];omega
theorem QI (h:seT loads ns reach days limit frm to_=(p,0)):Goo loads p ns reach days limit frm to_∧YM days limit [] (op ns reach frm (to_+1 - frm).toNat) loads=some p:=by
 obtain ⟨_,_,_,_,_,h2,_,_,q⟩:=V3 h (.inl rfl)
 cases k:YM days limit [] (op ns reach frm (to_+1 - frm).toNat) loads with
 | none=>rw [k] at q;simp [scE] at q
 | some r=>
  rw [k] at q;simp only [scE,Prod.mk.injEq] at q;obtain ⟨rfl,_⟩:=q
  obtain ⟨g1,g2,g3⟩:=ya k KF
  exact ⟨Zds h2.1 (QJ k) g1 g3 g2,rfl⟩
theorem UF {q:List Int} (h:seT loads ns reach days limit frm to_=(p,e)) (he:e=0∨e=4) (g:Goo loads q ns reach days limit frm to_):e=0∧LeI p q:=by
 obtain ⟨_,_,hb,_,_,h2,_,_,z⟩:=V3 h he
 obtain ⟨g1,g2,g3⟩:=ZaX h2.1 g
 obtain ⟨r,f1,f2⟩:=qF (limit:=limit) (h:=[]) (hq:=[]) (fun l hl=>(K2 hb l hl).1) (fun p hp=>by cases hp) trivial KF g2 g3 g1
 rw [f1] at z
 simp only [scE,Prod.mk.injEq] at z
 obtain ⟨rfl,rfl⟩:=z
 exact ⟨rfl,f2⟩
theorem QO {l2:Int} (h:seT loads ns reach days limit frm to_=(p,0)) (h1:limit≤l2) (h2:l2≤72057594037927936):∃ a,seT loads ns reach days l2 frm to_=(a,0)∧LeI a p:=by
 obtain ⟨h0,h5,h6,hL,h7,hd,h3,h4,_⟩:=V3 h (.inl rfl)
 obtain ⟨g,_⟩:=QI h
 obtain ⟨g1,g2,g3⟩:=ZaX hd.1 g
 obtain ⟨r,f1,f2⟩:=qF (limit:=l2) (h:=[]) (hq:=[]) (fun l hl=>(K2 h6 l hl).1) (fun p hp=>by cases hp) trivial KF g2 g3 (qK h1 g1)
 exact ⟨r,by rw [qW h0 h5 h6 (WG ⟨by omega,h2⟩) (WG h7) (WG hd) (WG h3) (WG h4),f1];rfl,f2⟩
theorem QN (h:seT loads ns reach days limit frm to_=(p,0)) (hn:0 < loads.length):seT (loads.take (loads.length - 1)) ns reach days limit frm to_=(p.take (loads.length - 1),0):=by
 obtain ⟨h0,h5,h6,hL,h7,hd,h3,h4,_⟩:=V3 h (.inl rfl)
 obtain ⟨_,k⟩:=QI h
 have hl:=QJ k
 have hne:loads≠[]:=fun c=>by subst c;simp at hn
 have e:loads=loads.dropLast ++ [loads.getLast hne]:=(List.dropLast_concat_getLast hne).symm
 rw [e] at k
 have k2:=yl k
 rw [List.dropLast_eq_take,List.dropLast_eq_take,hl] at k2
 have h6':(loads.take (loads.length - 1)).any (XG 72057594037927936)=false:=by
  rw [List.any_eq_false] at h6 ⊢
  exact fun x hx=>h6 x (List.mem_of_mem_take hx)
 rw [qW (by simp;omega) h5 h6' (WG hL) (WG h7) (WG hd) (WG h3) (WG h4),k2];rfl
end
theorem i3z:∃ i,Try.prog.info? 3=some i∧i.size=1:=by
 have h:(match Try.prog.info? 3 with | some i=>Nat.beq i.size 1 | none=>false)=true:=by kernel_rfl
 cases q:Try.prog.info? 3 with
 | none=>rw [q] at h;cases h
 | some i=>rw [q] at h;exact ⟨i,rfl,Nat.eq_of_beq_eq_true h⟩
end Go.Ax


import Derived.Test.YtobbfhkodccclaaMe
set_option linter.all false
/-
 Pool: sorting that keeps the order: blocks (written by program).
-/
namespace Go.Ax
open Go Go.RowKit Go.Proofs

noncomputable section
theorem Bk.init2 {key:Nat→Int} {bs n:Nat} {g:Nat→Nat} (h:Bk key bs 0 n g):Bk2 key bs 0 n g:=Bk2.init h
theorem Zek {bs a:Nat} (hb:Bs bs) (h:a % (2 * bs)=0):a % bs=0:=by rcases hb with rfl | rfl | rfl<;>omega
section
variable {kn:Kn} {lo:Nat} {H:Hp}
set_option maxRecDepth 100000 in
set_option maxHeartbeats 2000000 in
theorem Zam (hlo:lo≤H.next) {bd cap n:Nat} {v:Nat→Int} (hlb:lo≤bd) (hn:n≤160) (hc:Cl H bd (cG (fun x=>[iv (v x)]) n fun i=>i)) {fc:FuncId} {caps:Array Value} {key:Nat→Int} (hcmp:V9 Try.prog kn lo bd fc caps (fun x=>iv (v x)) n key H):∃ H' g',FnX Try.prog kn lo 82 [.slice (some ⟨bd,0,none⟩) n cap,iv (n:Int),.func (.func fc) #[] caps] H (.tuple #[]) H'∧PRm 0 n (fun i=>i) g'∧So key 0 n g'∧KT bd H H'∧Cl H' bd (cG (fun x=>[iv (v x)]) n g'):=by
 have key_:=Zr (kn:=kn) (lo:=lo) (H:=H) (args:=[.slice (some ⟨bd,0,none⟩) n cap,iv (n:Int),.func (.func fc) #[] caps]) (Q:=fun w H'=>w=.tuple #[]∧∃ g',PRm 0 n (fun i=>i) g'∧So key 0 n g'∧KT bd H H'∧Cl H' bd (cG (fun x=>[iv (v x)]) n g')) Try.func82 B82 N82 Z82 L82 (by simp) ?_
 ·obtain ⟨w,H',h,rfl,g',r⟩:=key_;exact ⟨H',g',h,r⟩
 have hk:=KT.refl (H:=H) hc.1
 refine Zc<|Za rfl<|Zb<|Zc<|Za rfl<|Za rfl<|Za rfl<|Zb ?_
 refine Zx (fn:=Try.f82) Ziv N82 Zii (fun a:Nat=>[(0,.slice (some ⟨bd,0,none⟩) n cap),(1,iv (n:Int)),(2,.func (.func fc) #[] caps),(6,iv 20),(7,iv (a:Int)),(8,iv ((a:Int)+20))])
  (fun k a H'=>k=n - a∧a % 20=0∧a≤n∧∃ g',Bk0 key a n g'∧PRm 0 n (fun i=>i) g'∧KT bd H H'∧Cl H' bd (cG (fun x=>[iv (v x)]) n g')) _ 0 ⟨rfl,rfl,Nat.zero_le _,fun i=>i,Bk0.init n,PRm.refl _ _ _,hk,hc⟩ ⟨rfl,rfl,rfl,rfl,rfl,rfl,trivial⟩ ?_
 rintro k a L1 ⟨rfl,ha,han,gx,hB,hp,hk,hc⟩
 refine Zc<|Za rfl<|Za rfl<|W2 (a:=((a:Int)+20)) (b:=(n:Int)) rfl rfl<|Zb ?_
 refine And.intro (fun q1=>?_) (fun q1=>?_)
 ·have q1:((a:Int)+20)≤(n:Int):=of_decide_eq_true q1
  first | refine Zl ?_ | skip
  refine Zc<|Za rfl<|Za rfl<|Za rfl<|Za rfl ?_
  obtain ⟨H1,gH1,fH1,pH1,sH1,kH1,cH1⟩:=Zbz (kn:=kn) (lo:=lo) (H:=L1) (by have:=hk.1;omega) hlb (by omega) (cap:=cap) hc (hp.dom (fun k q=>q) (Nat.le_refl _)) (hcmp.from hk.kp) (a:=a) (b:=(a+20)) (by omega) (by omega) (fun i j q1 q2 q3=>hB.ids i j q1 q2)
  refine Zs (vs:=[.slice (some ⟨bd,0,none⟩) n cap,iv (a:Int),iv ((a:Int)+20),.func (.func fc) #[] caps]) rfl (by have q:=Zh fH1;rw [show (((a+20):Nat):Int)=((a:Int)+20) by omega] at q;exact q) ?_
  have mH1:=kH1.1
  have hk:=hk.trans kH1
  have hc:=cH1
  have hp:=hp.trans (pH1.mono (by omega) (by omega) (by omega))
  have hB:=hB.step ha (by omega) (by omega) pH1 sH1
  refine Zb<|Zc<|Za rfl<|Za rfl<|Zb ?_
  show Zp _ _ _ _ _ _ _ _
  refine Za rfl<|Za rfl<|Zy (a:=((a:Int)+20)) (b:=20) rfl rfl ⟨by omega,by omega⟩<|Za rfl<|Zb ?_
  exact ⟨_,a+20,by omega,⟨rfl,by omega,by omega,_,hB,hp,hk,hc⟩,rfl,rfl,rfl,rfl,ivq (by omega),ivq (by omega),trivial⟩
 ·have q1:¬ (((a:Int)+20)≤(n:Int)):=of_decide_eq_false q1
  first | (refine ZC ?_;show wC _ _ _ _ _ _ _ _ _) | skip
  refine Zc<|Za rfl<|Za rfl<|Za rfl<|Za rfl ?_
  obtain ⟨H2,gH2,fH2,pH2,sH2,kH2,cH2⟩:=Zbz (kn:=kn) (lo:=lo) (H:=L1) (by have:=hk.1;omega) hlb (by omega) (cap:=cap) hc (hp.dom (fun k q=>q) (Nat.le_refl _)) (hcmp.from hk.kp) (a:=a) (b:=n) (by omega) (by omega) (fun i j q1 q2 q3=>hB.ids i j q1 q2)
  refine Zs (vs:=[.slice (some ⟨bd,0,none⟩) n cap,iv (a:Int),iv (n:Int),.func (.func fc) #[] caps]) rfl (Zh fH2) ?_
  have mH2:=kH2.1
  have hk:=hk.trans kH2
  have hc:=cH2
  have hp:=hp.trans (pH2.mono (by omega) (by omega) (by omega))
  have hB:=hB.step ha (by omega) (by omega) pH2 sH2
  refine Zb ?_
  have hB:=hB.low (Nat.le_refl _)
  refine Zx (fn:=Try.f82) Zia N82 Zh5 (fun bs:Nat=>[(0,.slice (some ⟨bd,0,none⟩) n cap),(1,iv (n:Int)),(2,.func (.func fc) #[] caps),(6,iv (bs:Int))])
   (fun k bs H'=>k=400 - bs∧(Bs bs∨bs=160)∧∃ g',Bk key bs 0 n g'∧PRm 0 n (fun i=>i) g'∧KT bd H H'∧Cl H' bd (cG (fun x=>[iv (v x)]) n g')) _ 20 ⟨rfl,.inl (.inl rfl),_,hB,hp,hk,hc⟩ ⟨rfl,rfl,rfl,rfl,trivial⟩ ?_
  rintro k bs L2 ⟨rfl,hbs,gy,hB,hp,hk,hc⟩
  refine Zc<|Za rfl<|Za rfl<|ZF (a:=(bs:Int)) (b:=(n:Int)) rfl rfl<|Zb ?_
  refine And.intro (fun q2=>?_) (fun q2=>?_)
  ·have q2:(bs:Int) < (n:Int):=of_decide_eq_true q2
   first | refine Zl ?_ | skip
   refine Zc<|Za rfl<|VJ (a:=2) (b:=(bs:Int)) rfl rfl ⟨by omega,by omega⟩<|Za rfl<|Za rfl<|Zb ?_
   have hbs:Bs bs:=hbs.resolve_right (by omega)
   have hb0:20≤bs:=by unfold Bs at hbs;omega
   have hB:=hB.init2
   refine Zx (fn:=Try.f82) ZhY N82 ZiF (fun a:Nat=>[(0,.slice (some ⟨bd,0,none⟩) n cap),(1,iv (n:Int)),(2,.func (.func fc) #[] caps),(6,iv (bs:Int)),(7,iv (a:Int)),(8,iv ((a:Int)+2 * (bs:Int)))])
    (fun k a H'=>k=n - a∧a % (2 * bs)=0∧a≤n∧∃ g',Bk2 key bs a n g'∧PRm 0 n (fun i=>i) g'∧KT bd H H'∧Cl H' bd (cG (fun x=>[iv (v x)]) n g')) _ 0 ⟨rfl,Nat.zero_mod _,Nat.zero_le _,_,hB,hp,hk,hc⟩ ⟨rfl,rfl,rfl,rfl,rfl,ivq (by omega),trivial⟩ ?_
   rintro k a L3 ⟨rfl,ha,han,gz,hB,hp,hk,hc⟩
   refine Zc<|Za rfl<|Za rfl<|W2 (a:=((a:Int)+2 * (bs:Int))) (b:=(n:Int)) rfl rfl<|Zb ?_
   refine And.intro (fun q3=>?_) (fun q3=>?_)
   ·have q3:((a:Int)+2 * (bs:Int))≤(n:Int):=of_decide_eq_true q3
    first | refine Zl ?_ | skip
    refine Zc<|Za rfl<|Za rfl<|Za rfl<|Za rfl<|Zy (a:=(a:Int)) (b:=(bs:Int)) rfl rfl ⟨by omega,by omega⟩<|Za rfl<|Za rfl ?_
    obtain ⟨q1H3,q2H3,q3H3⟩:=hB.hi.part hbs (Zek hbs ha) (m:=a+bs) (b:=(a+2 * bs)) (by omega) (by omega) (by omega) (by omega)
    obtain ⟨H3,gH3,fH3,pH3,sH3,kH3,cH3⟩:=yW (kn:=kn) (lo:=lo) hlo hlb (by omega) (cap:=cap) hcmp ((a+2 * bs) - a+1) L3 (a) (a+bs) ((a+2 * bs)) gz hk (by omega) (by omega) (by omega) (by omega) (hp.dom (fun k q=>q) (Nat.le_refl _)) q1H3 q2H3 q3H3 hc
    refine Zs (vs:=[.slice (some ⟨bd,0,none⟩) n cap,iv (a:Int),iv ((a:Int)+(bs:Int)),iv ((a:Int)+2 * (bs:Int)),.func (.func fc) #[] caps]) rfl (by have q:=Zh fH3;rw [show ((a+bs:Nat):Int)=(a:Int)+(bs:Int) by omega] at q;rw [show (((a+2 * bs):Nat):Int)=((a:Int)+2 * (bs:Int)) by omega] at q;exact q) ?_
    have mH3:=kH3.1
    have hk:=hk.trans kH3
    have hc:=cH3
    have hp:=hp.trans (pH3.mono (by omega) (by omega) (by omega))
    refine Zb<|Zc<|Za rfl<|Za rfl<|Zb ?_
    show Zp _ _ _ _ _ _ _ _
    refine Za rfl<|Za rfl<|VJ (a:=2) (b:=(bs:Int)) rfl rfl ⟨by omega,by omega⟩<|Zy (a:=((a:Int)+2 * (bs:Int))) (b:=2 * (bs:Int)) rfl rfl ⟨by omega,by omega⟩<|Za rfl<|Zb ?_
    obtain ⟨hB,ha⟩:=hB.next hbs ha (b:=a+2 * bs) rfl (by omega) pH3 sH3
    exact ⟨_,a+2 * bs,by omega,⟨rfl,ha,by omega,_,hB,hp,hk,hc⟩,rfl,rfl,rfl,rfl,ivq (by omega),ivq (by omega),trivial⟩
   ·have q3:¬ (((a:Int)+2 * (bs:Int))≤(n:Int)):=of_decide_eq_false q3
    first | (refine ZC ?_;show wC _ _ _ _ _ _ _ _ _) | skip
    refine Zc<|Za rfl<|Za rfl<|Zy (a:=(a:Int)) (b:=(bs:Int)) rfl rfl ⟨by omega,by omega⟩<|Za rfl<|Zb<|Zc<|Za rfl<|Za rfl<|ZF (a:=(a:Int)+(bs:Int)) (b:=(n:Int)) rfl rfl<|Zb ?_
    refine And.intro (fun q4=>?_) (fun q4=>?_)
    ·have q4:((a:Int)+(bs:Int)) < (n:Int):=of_decide_eq_true q4
     refine Zc<|Za rfl<|Za rfl<|Za rfl<|Za rfl<|Za rfl ?_
     obtain ⟨q1H4,q2H4,q3H4⟩:=hB.hi.part hbs (Zek hbs ha) (m:=a+bs) (b:=n) (by omega) (by omega) (by omega) (by omega)
     obtain ⟨H4,gH4,fH4,pH4,sH4,kH4,cH4⟩:=yW (kn:=kn) (lo:=lo) hlo hlb (by omega) (cap:=cap) hcmp (n - a+1) L3 (a) (a+bs) (n) gz hk (by omega) (by omega) (by omega) (by omega) (hp.dom (fun k q=>q) (Nat.le_refl _)) q1H4 q2H4 q3H4 hc
     refine Zs (vs:=[.slice (some ⟨bd,0,none⟩) n cap,iv (a:Int),iv ((a:Int)+(bs:Int)),iv (n:Int),.func (.func fc) #[] caps]) rfl (by have q:=Zh fH4;rw [show ((a+bs:Nat):Int)=(a:Int)+(bs:Int) by omega] at q;exact q) ?_
     have mH4:=kH4.1
     have hk:=hk.trans kH4
     have hc:=cH4
     have hp:=hp.trans (pH4.mono (by omega) (by omega) (by omega))
     refine Zb ?_
     show Zp _ _ _ _ _ _ _ _
     have hB2:=hB.step hbs ha (by omega) (by omega) (Nat.le_refl _) pH4 sH4
     refine Za rfl<|VJ (a:=(bs:Int)) (b:=2) rfl rfl ⟨by omega,by omega⟩<|Za rfl<|Zb ?_
     exact ⟨_,2 * bs,by unfold Bs at hbs;omega,⟨rfl,by unfold Bs at hbs ⊢;omega,_,hB2,hp,hk,hc⟩,rfl,rfl,rfl,ivq (by omega),trivial⟩
    ·have q4:¬ (((a:Int)+(bs:Int)) < (n:Int)):=of_decide_eq_false q4
     have hB2:=hB.last hbs ha han (by omega)
     first | refine Zl ?_ | skip
     show Zp _ _ _ _ _ _ _ _
     refine Za rfl<|VJ (a:=(bs:Int)) (b:=2) rfl rfl ⟨by omega,by omega⟩<|Za rfl<|Zb ?_
     exact ⟨_,2 * bs,by unfold Bs at hbs;omega,⟨rfl,by unfold Bs at hbs ⊢;omega,_,hB2,hp,hk,hc⟩,rfl,rfl,rfl,ivq (by omega),trivial⟩
  ·have q2:¬ ((bs:Int) < (n:Int)):=of_decide_eq_false q2
   first | (refine ZC ?_;show wC _ _ _ _ _ _ _ _ _) | skip
   exact And.intro trivial (Exists.intro _ (And.intro rfl ⟨rfl,gy,hp,hB.all (by omega),hk,hc⟩))
set_option maxRecDepth 100000 in
set_option maxHeartbeats 2000000 in
theorem Zbo (hlo:lo≤H.next) {bd cap n:Nat} {v:Nat→Int} (hlb:lo≤bd) (hn:n≤160) (hc:Cl H bd (cG (fun x=>[iv (v x)]) n fun i=>i)) {fc:FuncId} {caps:Array Value} {key:Nat→Int} (hcmp:V9 Try.prog kn lo bd fc caps (fun x=>iv (v x)) n key H):∃ H' g',FnX Try.prog kn lo 73 [.slice (some ⟨bd,0,none⟩) n cap,.func (.func fc) #[] caps] H (.tuple #[]) H'∧PRm 0 n (fun i=>i) g'∧So key 0 n g'∧KT bd H H'∧Cl H' bd (cG (fun x=>[iv (v x)]) n g'):=by
 have key_:=Zr (kn:=kn) (lo:=lo) (H:=H) (args:=[.slice (some ⟨bd,0,none⟩) n cap,.func (.func fc) #[] caps]) (Q:=fun w H'=>w=.tuple #[]∧∃ g',PRm 0 n (fun i=>i) g'∧So key 0 n g'∧KT bd H H'∧Cl H' bd (cG (fun x=>[iv (v x)]) n g')) Try.func73 B73 N73 Z73 L73 (by simp) ?_
 ·obtain ⟨w,H',h,rfl,g',r⟩:=key_;exact ⟨H',g',h,r⟩
 have hk:=KT.refl (H:=H) hc.1
 show Zp _ _ _ _ _ _ _ _
 refine Za rfl<|Za rfl<|YG (m:=n) rfl<|Za rfl ?_
 obtain ⟨H1,gH1,fH1,pH1,sH1,kH1,cH1⟩:=Zam (kn:=kn) (lo:=lo) (H:=H) hlo hlb hn (cap:=cap) hc hcmp
 refine Zs (vs:=[.slice (some ⟨bd,0,none⟩) n cap,iv (n:Int),.func (.func fc) #[] caps]) rfl (Zh fH1) ?_
 have hk:=kH1;have hc:=cH1
 refine Zb ?_
 exact And.intro trivial (Exists.intro _ (And.intro rfl ⟨rfl,gH1,pH1,sH1,hk,hc⟩))
end
end
end Go.Ax

/-
 Pool: sorting that keeps the order: swaps,turns,insertion (written by program).
-/
namespace Go.Ax
open Go Go.RowKit Go.Proofs

noncomputable section
section
variable {kn:Kn} {lo:Nat} {H:Hp}
set_option maxRecDepth 100000 in
set_option maxHeartbeats 2000000 in
theorem yQ (hlo:lo≤H.next) {bd cap n:Nat} {g:Nat→Nat} {v u:Nat→Int} (hlb:lo≤bd) (hn:n≤1000000) (hc:Cl H bd (cG (fun x=>[iv (v x),iv (u x)]) n g)) {cv:Value} {a b c:Nat} (hab:a+c≤b) (hb:b+c≤n):∃ H',FnX Try.prog kn lo 105 [.slice (some ⟨bd,0,none⟩) n cap,iv (a:Int),iv (b:Int),iv (c:Int),cv] H (.tuple #[]) H'∧PRm a (b+c) g (swr g a b c)∧KT bd H H'∧Cl H' bd (cG (fun x=>[iv (v x),iv (u x)]) n (swr g a b c)):=by
 have key_:=Zr (kn:=kn) (lo:=lo) (H:=H) (args:=[.slice (some ⟨bd,0,none⟩) n cap,iv (a:Int),iv (b:Int),iv (c:Int),cv]) (Q:=fun w H'=>w=.tuple #[]∧PRm a (b+c) g (swr g a b c)∧KT bd H H'∧Cl H' bd (cG (fun x=>[iv (v x),iv (u x)]) n (swr g a b c))) Try.func105 ZiT ZhX Zi1 ZiR (by simp) ?_
 ·obtain ⟨w,H',h,rfl,r⟩:=key_;exact ⟨H',h,r⟩
 have hk:=KT.refl (H:=H) hc.1
 refine Zc<|Za rfl<|Zb ?_
 refine Zx (fn:=Try.f105) ZfU ZhX Zf8 (fun i:Nat=>[(0,.slice (some ⟨bd,0,none⟩) n cap),(1,iv (a:Int)),(2,iv (b:Int)),(3,iv (c:Int)),(10,iv (i:Int))])
  (fun k i H'=>i+k=c∧PRm a (b+c) g (swr g a b i)∧KT bd H H'∧Cl H' bd (cG (fun x=>[iv (v x),iv (u x)]) n (swr g a b i))) c 0 ⟨by omega,by rw [QG];exact PRm.refl _ _ _,hk,by rw [QG];exact hc⟩ ⟨rfl,rfl,rfl,rfl,rfl,trivial⟩ ?_
 rintro k i L1 ⟨hik,hp,hk,hc⟩
 refine Zc<|Za rfl<|Za rfl<|ZF (a:=(i:Int)) (b:=(c:Int)) rfl rfl<|Zb ?_
 refine And.intro (fun q1=>?_) (fun q1=>?_)
 ·have q1:(i:Int) < (c:Int):=of_decide_eq_true q1
  first | refine Zl ?_ | skip
  first | refine Z2 ?_ | refine Wm ?_ | refine Vt ?_ | (refine YO ?_;refine Z2 ?_)
  refine Zf rfl<|Zf rfl<|Zf rfl<|XU (a:=(a:Int)) (b:=(i:Int)) rfl rfl ⟨by omega,by omega⟩<|Zf rfl<|Zf rfl<|Zf rfl<|XU (a:=(b:Int)) (b:=(i:Int)) rfl rfl ⟨by omega,by omega⟩<|Zf rfl<|Zf rfl<|Zf rfl<|XU (a:=(b:Int)) (b:=(i:Int)) rfl rfl ⟨by omega,by omega⟩<|Zz (b:=bd) (o:=0) (k:=b+i) (j:=(b:Int)+(i:Int)) rfl rfl (by omega) (by omega)<|YJ (b:=bd) (o:=0+(b+i) * 2) rfl hc.rd (Xs (z:=2) (fun _=>rfl) (by omega))<|Zf rfl<|Zf rfl<|Zf rfl<|XU (a:=(a:Int)) (b:=(i:Int)) rfl rfl ⟨by omega,by omega⟩<|Zz (b:=bd) (o:=0) (k:=a+i) (j:=(a:Int)+(i:Int)) rfl rfl (by omega) (by omega)<|YJ (b:=bd) (o:=0+(a+i) * 2) rfl hc.rd (Xs (z:=2) (fun _=>rfl) (by omega))<|Zz (b:=bd) (o:=0) (k:=a+i) (j:=(a:Int)+(i:Int)) rfl rfl (by omega) (by omega)<|Vp (b:=bd) (o:=0+(a+i) * 2) rfl rfl hc hlb rfl rfl (by rw [XH (z:=2) (fun _=>rfl)];omega) ?_
  intro H1 kH1 nH1 sH1 tH1
  have mH1:=kH1.1
  have hk:=hk.put kH1 tH1
  have hc:Cl H1 bd (cG (fun x=>[iv (v x),iv (u x)]) n (upd (swr g a b i) (a+i) ((swr g a b i) (b+i)))):=by rw [← VH (z:=2) (fun _=>rfl) (by omega)];exact sH1
  refine Zz (b:=bd) (o:=0) (k:=b+i) (j:=(b:Int)+(i:Int)) rfl rfl (by omega) (by omega)<|Vp (b:=bd) (o:=0+(b+i) * 2) rfl rfl hc hlb rfl rfl (by rw [XH (z:=2) (fun _=>rfl)];omega) ?_
  intro H2 kH2 nH2 sH2 tH2
  have mH2:=kH2.1
  have hk:=hk.put kH2 tH2
  have hc:Cl H2 bd (cG (fun x=>[iv (v x),iv (u x)]) n (upd (upd (swr g a b i) (a+i) ((swr g a b i) (b+i))) (b+i) ((swr g a b i) (a+i)))):=by rw [← VH (z:=2) (fun _=>rfl) (by omega)];exact sH2
  have hc:Cl H2 bd (cG (fun x=>[iv (v x),iv (u x)]) n (swp (swr g a b i) (a+i) (b+i))):=hc
  refine ZN (by repeat' first | exact True.intro | exact (fun h=>h) | refine And.intro ?_ ?_ | (intro h;have h:(_:Nat)=_:=h;omega)) ?_
  show Zp _ _ _ _ _ _ _ _
  refine Za rfl<|Zy (a:=(i:Int)) (b:=1) rfl rfl ⟨by omega,by omega⟩<|Za rfl<|Zb ?_
  rw [Qz hab (by omega)] at hc
  exact ⟨k - 1,i+1,by omega,⟨by omega,by rw [← Qz hab (by omega)];exact hp.trans (PRm.swap (by omega) (by omega) (by omega) (by omega)),hk,hc⟩,rfl,rfl,rfl,rfl,ivq (by omega),trivial⟩
 ·have q1:¬ ((i:Int) < (c:Int)):=of_decide_eq_false q1
  first | (refine ZC ?_;show wC _ _ _ _ _ _ _ _ _) | skip
  obtain rfl:i=c:=by omega
  exact And.intro trivial (Exists.intro _ (And.intro rfl ⟨rfl,hp,hk,hc⟩))
set_option maxRecDepth 100000 in
set_option maxHeartbeats 2000000 in
theorem ZeA (hlo:lo≤H.next) {bd cap n:Nat} {g:Nat→Nat} {v u:Nat→Int} (hlb:lo≤bd) (hn:n≤1000000) (hc:Cl H bd (cG (fun x=>[iv (v x),iv (u x)]) n g)) {cv:Value} {a m b:Nat} (ham:a < m) (hmb:m < b) (hb:b≤n):∃ H',FnX Try.prog kn lo 98 [.slice (some ⟨bd,0,none⟩) n cap,iv (a:Int),iv (m:Int),iv (b:Int),cv] H (.tuple #[]) H'∧PRm a b g (rot g a m b)∧KT bd H H'∧Cl H' bd (cG (fun x=>[iv (v x),iv (u x)]) n (rot g a m b)):=by
 have key_:=Zr (kn:=kn) (lo:=lo) (H:=H) (args:=[.slice (some ⟨bd,0,none⟩) n cap,iv (a:Int),iv (m:Int),iv (b:Int),cv]) (Q:=fun w H'=>w=.tuple #[]∧PRm a b g (rot g a m b)∧KT bd H H'∧Cl H' bd (cG (fun x=>[iv (v x),iv (u x)]) n (rot g a m b))) Try.func98 B98 N98 Z98 L98 (by simp) ?_
 ·obtain ⟨w,H',h,rfl,r⟩:=key_;exact ⟨H',h,r⟩
 have hk:=KT.refl (H:=H) hc.1
 refine Zc<|Za rfl<|Za rfl<|ZZ (a:=(m:Int)) (b:=(a:Int)) rfl rfl ⟨by omega,by omega⟩<|Za rfl<|Zb<|Zc<|Za rfl<|Za rfl<|ZZ (a:=(b:Int)) (b:=(m:Int)) rfl rfl ⟨by omega,by omega⟩<|Za rfl<|Zb ?_
 refine Zx (fn:=Try.f98) ZgX N98 Zho (fun x:Nat × Nat=>[(0,.slice (some ⟨bd,0,none⟩) n cap),(2,iv (m:Int)),(4,cv),(10,iv (x.1:Int)),(11,iv (x.2:Int))])
  (fun k x H'=>k=x.1+x.2∧0 < x.1∧0 < x.2∧x.1≤m - a∧x.2≤b - m∧∃ g',rot g' (m - x.1) m (m+x.2)=rot g a m b∧PRm a b g g'∧KT bd H H'∧Cl H' bd (cG (fun x=>[iv (v x),iv (u x)]) n g')) _ (m - a,b - m) ⟨rfl,by simp only [];omega,by simp only [];omega,Nat.le_refl _,Nat.le_refl _,g,by simp only [];rw [show m - (m - a)=a by omega,show m+(b - m)=b by omega],PRm.refl _ _ _,hk,hc⟩ ⟨rfl,rfl,rfl,ivq (by simp only [];omega),ivq (by simp only [];omega),trivial⟩ ?_
 rintro k ⟨i,j⟩ L1 ⟨rfl,hi1,hj1,hi2,hj2,gx,hr,hp,hk,hc⟩
 simp only [] at hi1 hj1 hi2 hj2 hr
 refine Zc<|Za rfl<|Za rfl<|Us (a:=(i:Int)) (b:=(j:Int)) rfl rfl<|Zb ?_
 refine And.intro (fun q1=>?_) (fun q1=>?_)
 ·have q1:(i:Int)≠(j:Int):=by simpa using q1
  first | refine Zl ?_ | skip
  refine Zc<|Za rfl<|Za rfl<|WZ (a:=(i:Int)) (b:=(j:Int)) rfl rfl<|Zb ?_
  refine And.intro (fun q2=>?_) (fun q2=>?_)
  ·have q2:(i:Int) > (j:Int):=of_decide_eq_true q2
   refine Zc<|Za rfl<|Za rfl<|Za rfl<|ZZ (a:=(m:Int)) (b:=(i:Int)) rfl rfl ⟨by omega,by omega⟩<|Za rfl<|Za rfl<|Za rfl ?_
   obtain ⟨H1,fH1,pH1,kH1,cH1⟩:=yQ (kn:=kn) (lo:=lo) (H:=L1) (by have:=hk.1;omega) hlb hn (cap:=cap) hc (cv:=cv) (a:=m - i) (b:=m) (c:=j) (by omega) (by omega)
   refine Zs (vs:=[.slice (some ⟨bd,0,none⟩) n cap,iv ((m:Int) - (i:Int)),iv (m:Int),iv (j:Int),cv]) rfl (by have q:=Zh fH1;rw [show ((m - i:Nat):Int)=(m:Int) - (i:Int) by omega] at q;exact q) ?_
   have mH1:=kH1.1
   have hk:=hk.trans kH1
   have hc:=cH1
   have hp:=hp.trans (pH1.mono (by omega) (by omega) (by omega))
   refine Zb ?_
   show Zp _ _ _ _ _ _ _ _
   refine Za rfl<|Za rfl<|ZZ (a:=(i:Int)) (b:=(j:Int)) rfl rfl ⟨by omega,by omega⟩<|Za rfl<|Zb ?_
   rw [jP (i:=i) (j:=j) (by omega) (by omega)] at hr
   exact ⟨_,(i - j,j),by simp only [];omega,⟨rfl,by omega,by omega,by simp only [];omega,by omega,_,hr,hp,hk,hc⟩,rfl,rfl,rfl,ivq (by simp only [];omega),rfl,trivial⟩
  ·have q2:¬ ((i:Int) > (j:Int)):=of_decide_eq_false q2
   refine Zc<|Za rfl<|Za rfl<|Za rfl<|ZZ (a:=(m:Int)) (b:=(i:Int)) rfl rfl ⟨by omega,by omega⟩<|Za rfl<|Za rfl<|Zy (a:=(m:Int)) (b:=(j:Int)) rfl rfl ⟨by omega,by omega⟩<|Za rfl<|ZZ (a:=(m:Int)+(j:Int)) (b:=(i:Int)) rfl rfl ⟨by omega,by omega⟩<|Za rfl<|Za rfl ?_
   obtain ⟨H2,fH2,pH2,kH2,cH2⟩:=yQ (kn:=kn) (lo:=lo) (H:=L1) (by have:=hk.1;omega) hlb hn (cap:=cap) hc (cv:=cv) (a:=m - i) (b:=(m+j) - i) (c:=i) (by omega) (by omega)
   refine Zs (vs:=[.slice (some ⟨bd,0,none⟩) n cap,iv ((m:Int) - (i:Int)),iv (((m:Int)+(j:Int)) - (i:Int)),iv (i:Int),cv]) rfl (by have q:=Zh fH2;rw [show ((m - i:Nat):Int)=(m:Int) - (i:Int) by omega] at q;rw [show (((m+j) - i:Nat):Int)=((m:Int)+(j:Int)) - (i:Int) by omega] at q;exact q) ?_
   have mH2:=kH2.1
   have hk:=hk.trans kH2
   have hc:=cH2
   have hp:=hp.trans (pH2.mono (by omega) (by omega) (by omega))
   refine Zb ?_
   show Zp _ _ _ _ _ _ _ _
   refine Za rfl<|Za rfl<|ZZ (a:=(j:Int)) (b:=(i:Int)) rfl rfl ⟨by omega,by omega⟩<|Za rfl<|Zb ?_
   rw [z7 (i:=i) (j:=j) (by omega) (by omega)] at hr
   exact ⟨_,(i,j - i),by simp only [];omega,⟨rfl,by omega,by omega,by omega,by simp only [];omega,_,hr,hp,hk,hc⟩,rfl,rfl,rfl,rfl,ivq (by simp only [];omega),trivial⟩
 ·have q1:¬ ((i:Int)≠(j:Int)):=by simpa using q1
  first | (refine ZC ?_;show wC _ _ _ _ _ _ _ _ _) | skip
  show Zp _ _ _ _ _ _ _ _
  refine Za rfl<|Za rfl<|Za rfl<|ZZ (a:=(m:Int)) (b:=(i:Int)) rfl rfl ⟨by omega,by omega⟩<|Za rfl<|Za rfl<|Za rfl ?_
  obtain ⟨H3,fH3,pH3,kH3,cH3⟩:=yQ (kn:=kn) (lo:=lo) (H:=L1) (by have:=hk.1;omega) hlb hn (cap:=cap) hc (cv:=cv) (a:=m - i) (b:=m) (c:=i) (by omega) (by omega)
  refine Zs (vs:=[.slice (some ⟨bd,0,none⟩) n cap,iv ((m:Int) - (i:Int)),iv (m:Int),iv (i:Int),cv]) rfl (by have q:=Zh fH3;rw [show ((m - i:Nat):Int)=(m:Int) - (i:Int) by omega] at q;exact q) ?_
  have mH3:=kH3.1
  have hk:=hk.trans kH3
  have hc:=cH3
  have hp:=hp.trans (pH3.mono (by omega) (by omega) (by omega))
  refine Zb ?_
  obtain rfl:i=j:=by omega
  rw [jT (by omega),hr] at hc hp
  exact And.intro trivial (Exists.intro _ (And.intro rfl ⟨rfl,hp,hk,hc⟩))
set_option maxRecDepth 100000 in
set_option maxHeartbeats 2000000 in
theorem Zbc (hlo:lo≤H.next) {bd cap n:Nat} {g:Nat→Nat} {v u:Nat→Int} (hlb:lo≤bd) (hn:n≤1000000) (hc:Cl H bd (cG (fun x=>[iv (v x),iv (u x)]) n g)) (hd:∀ k,k < n→g k < n) {fc:FuncId} {caps:Array Value} {key:Nat→Int} (hcmp:V9 Try.prog kn lo bd fc caps (fun x=>.agg #[iv (v x),iv (u x)]) n key H) {a b:Nat} (hab:a≤b) (hb:b≤n) (hid:∀ i j,a≤i→i < j→j < b→g i < g j):∃ H' g',FnX Try.prog kn lo 83 [.slice (some ⟨bd,0,none⟩) n cap,iv (a:Int),iv (b:Int),.func (.func fc) #[] caps] H (.tuple #[]) H'∧PRm a b g g'∧So key a b g'∧KT bd H H'∧Cl H' bd (cG (fun x=>[iv (v x),iv (u x)]) n g'):=by
 have key_:=Zr (kn:=kn) (lo:=lo) (H:=H) (args:=[.slice (some ⟨bd,0,none⟩) n cap,iv (a:Int),iv (b:Int),.func (.func fc) #[] caps]) (Q:=fun w H'=>w=.tuple #[]∧∃ g',PRm a b g g'∧So key a b g'∧KT bd H H'∧Cl H' bd (cG (fun x=>[iv (v x),iv (u x)]) n g')) Try.func83 B83 N83 Z83 L83 (by simp) ?_
 ·obtain ⟨w,H',h,rfl,g',r⟩:=key_;exact ⟨H',g',h,r⟩
 have hk:=KT.refl (H:=H) hc.1
 refine Zc<|Za rfl<|Zy (a:=(a:Int)) (b:=1) rfl rfl ⟨by omega,by omega⟩<|Za rfl<|Zb ?_
 refine Zx (fn:=Try.f83) Ze8 N83 ZfG (fun i:Nat=>[(0,.slice (some ⟨bd,0,none⟩) n cap),(1,iv (a:Int)),(2,iv (b:Int)),(3,.func (.func fc) #[] caps),(8,iv (i:Int))])
  (fun k i H'=>k=b+1 - i∧a+1≤i∧∃ g':Nat→Nat,PRm a (min i b) g g'∧So key a i g'∧KT bd H H'∧Cl H' bd (cG (fun x=>[iv (v x),iv (u x)]) n g')) _ (a+1) ⟨rfl,Nat.le_refl _,g,PRm.refl _ _ _,So.one,hk,hc⟩ ⟨rfl,rfl,rfl,rfl,ivq (by omega),trivial⟩ ?_
 rintro k i L1 ⟨rfl,hi1,gx1,hp,hs,hk,hc⟩
 refine Zc<|Za rfl<|Za rfl<|ZF (a:=(i:Int)) (b:=(b:Int)) rfl rfl<|Zb ?_
 refine And.intro (fun q1=>?_) (fun q1=>?_)
 ·have q1:(i:Int) < (b:Int):=of_decide_eq_true q1
  first | refine Zl ?_ | skip
  refine Zc<|Za rfl<|Za rfl<|Zb ?_
  rw [Nat.min_eq_left (by omega)] at hp
  have hib:i < b:=by omega
  refine Zx (fn:=Try.f83) Zhr N83 ZiC (fun j:Nat=>[(0,.slice (some ⟨bd,0,none⟩) n cap),(1,iv (a:Int)),(2,iv (b:Int)),(3,.func (.func fc) #[] caps),(8,iv (i:Int)),(9,iv (j:Int))])
   (fun k j H'=>k=j+1∧∃ g':Nat→Nat,PRm a (i+1) g g'∧Inl key a i j g'∧KT bd H H'∧Cl H' bd (cG (fun x=>[iv (v x),iv (u x)]) n g')) _ i ⟨rfl,gx1,hp.mono (Nat.le_refl _) (by omega) (by omega),Inl.init hs (ZcF hp hid hib) (by omega),hk,hc⟩ ⟨rfl,rfl,rfl,rfl,rfl,rfl,trivial⟩ ?_
  rintro k j L2 ⟨rfl,gx2,hp,hin,hk,hc⟩
  have qaj:=hin.aj;have qji:=hin.ji;have hdm:=hp.dom hd (by omega)
  refine YV<|Zf rfl<|Zf rfl<|Kq (a:=(j:Int)) (b:=(a:Int)) rfl rfl ?_
  intro t2 g2;cases t2
  ·have g2:¬ ((j:Int) > (a:Int)):=of_decide_eq_false g2
   refine Zf rfl<|Yz rfl<|Yz rfl<|Yz rfl<|Yz rfl<|Yz rfl<|Yz rfl<|Yz rfl<|Yz rfl<|Yz rfl<|Yz rfl<|Yz rfl<|Yz rfl<|XF (v:=.bool false) rfl rfl ?_
   refine ZN (by repeat' first | exact True.intro | exact (fun h=>h) | refine And.intro ?_ ?_ | (intro h;have h:(_:Nat)=_:=h;omega)) ?_
   refine ZR ?_
   first | (refine ZC ?_;show wC _ _ _ _ _ _ _ _ _) | skip
   show Zp _ _ _ _ _ _ _ _
   refine Za rfl<|Zy (a:=(i:Int)) (b:=1) rfl rfl ⟨by omega,by omega⟩<|Za rfl<|Zb ?_
   exact ⟨_,i+1,by omega,⟨rfl,by omega,gx2,by rw [Nat.min_eq_left (by omega)];exact hp,hin.done (fun h=>by omega),hk,hc⟩,rfl,rfl,rfl,rfl,ivq (by omega),trivial⟩
  ·have g2:(j:Int) > (a:Int):=of_decide_eq_true g2
   refine Zf rfl ?_
   refine Xz rfl (Zf rfl ?_)
   refine Xz rfl (Zf rfl ?_)
   refine Xz rfl (Zf rfl ?_)
   refine Xz rfl (Zz (b:=bd) (o:=0) (k:=j) (j:=(j:Int)) rfl rfl (by omega) (by omega) ?_)
   refine Xz rfl (YJ (b:=bd) (o:=0+j * 2) rfl hc.rd (Xs (z:=2) (fun _=>rfl) (by omega)) ?_)
   refine Xz rfl (Zf rfl ?_)
   refine Xz rfl (Zf rfl ?_)
   refine Xz rfl (Xk (a:=(j:Int)) (b:=1) rfl rfl ⟨by omega,by omega⟩ ?_)
   refine Xz rfl (Zz (b:=bd) (o:=0) (k:=j - 1) (j:=(j:Int) - 1) rfl rfl (by omega) (by omega) ?_)
   refine Xz rfl (YJ (b:=bd) (o:=0+(j - 1) * 2) rfl hc.rd (Xs (z:=2) (fun _=>rfl) (by omega)) ?_)
   obtain ⟨rH1,H1,fH1,kH1,qH1⟩:=hcmp L2 hk.kp (gx2 j) (gx2 (j - 1)) (hdm _ (by omega)) (hdm _ (by omega))
   refine Xz rfl (Yr (vs:=[.agg #[iv (v (gx2 j)),iv (u (gx2 j))],.agg #[iv (v (gx2 (j - 1))),iv (u (gx2 (j - 1)))]]) rfl fH1 ?_)
   have mH1:=kH1.1
   have hc:=kH1.cl hc (by simp)
   have hk:=hk.keep kH1
   refine Xz rfl (qD (a:=rH1) (b:=0) rfl rfl ?_)
   intro t3 g3;cases t3
   ·have g3:¬ (rH1 < 0):=of_decide_eq_false g3
    refine XF (v:=.bool false) rfl rfl ?_
    refine ZN (by repeat' first | exact True.intro | exact (fun h=>h) | refine And.intro ?_ ?_ | (intro h;have h:(_:Nat)=_:=h;omega)) ?_
    refine ZR ?_
    first | (refine ZC ?_;show wC _ _ _ _ _ _ _ _ _) | skip
    show Zp _ _ _ _ _ _ _ _
    refine Za rfl<|Zy (a:=(i:Int)) (b:=1) rfl rfl ⟨by omega,by omega⟩<|Za rfl<|Zb ?_
    exact ⟨_,i+1,by omega,⟨rfl,by omega,gx2,by rw [Nat.min_eq_left (by omega)];exact hp,hin.done (fun h=>by omega),hk,hc⟩,rfl,rfl,rfl,rfl,ivq (by omega),trivial⟩
   ·have g3:rH1 < 0:=of_decide_eq_true g3
    refine XF (v:=.bool true) rfl rfl ?_
    refine ZN (by repeat' first | exact True.intro | exact (fun h=>h) | refine And.intro ?_ ?_ | (intro h;have h:(_:Nat)=_:=h;omega)) ?_
    refine Xm ?_
    first | refine Zl ?_ | skip
    first | refine Z2 ?_ | refine Wm ?_ | refine Vt ?_ | (refine YO ?_;refine Z2 ?_)
    refine Zf rfl<|Zf rfl<|Zf rfl<|Zf rfl<|Xk (a:=(j:Int)) (b:=1) rfl rfl ⟨by omega,by omega⟩<|Zf rfl<|Zf rfl<|Xk (a:=(j:Int)) (b:=1) rfl rfl ⟨by omega,by omega⟩<|Zz (b:=bd) (o:=0) (k:=j - 1) (j:=(j:Int) - 1) rfl rfl (by omega) (by omega)<|YJ (b:=bd) (o:=0+(j - 1) * 2) rfl hc.rd (Xs (z:=2) (fun _=>rfl) (by omega))<|Zf rfl<|Zf rfl<|Zz (b:=bd) (o:=0) (k:=j) (j:=(j:Int)) rfl rfl (by omega) (by omega)<|YJ (b:=bd) (o:=0+j * 2) rfl hc.rd (Xs (z:=2) (fun _=>rfl) (by omega))<|Zz (b:=bd) (o:=0) (k:=j) (j:=(j:Int)) rfl rfl (by omega) (by omega)<|Vp (b:=bd) (o:=0+j * 2) rfl rfl hc hlb rfl rfl (by rw [XH (z:=2) (fun _=>rfl)];omega) ?_
    intro H2 kH2 nH2 sH2 tH2
    have mH2:=kH2.1
    have hk:=hk.put kH2 tH2
    have hc:Cl H2 bd (cG (fun x=>[iv (v x),iv (u x)]) n (upd gx2 j (gx2 (j - 1)))):=by rw [← VH (z:=2) (fun _=>rfl) (by omega)];exact sH2
    refine Zz (b:=bd) (o:=0) (k:=j - 1) (j:=(j:Int) - 1) rfl rfl (by omega) (by omega)<|Vp (b:=bd) (o:=0+(j - 1) * 2) rfl rfl hc hlb rfl rfl (by rw [XH (z:=2) (fun _=>rfl)];omega) ?_
    intro H3 kH3 nH3 sH3 tH3
    have mH3:=kH3.1
    have hk:=hk.put kH3 tH3
    have hc:Cl H3 bd (cG (fun x=>[iv (v x),iv (u x)]) n (upd (upd gx2 j (gx2 (j - 1))) (j - 1) (gx2 j))):=by rw [← VH (z:=2) (fun _=>rfl) (by omega)];exact sH3
    have hc:Cl H3 bd (cG (fun x=>[iv (v x),iv (u x)]) n (swp gx2 j (j - 1))):=hc
    refine ZN (by repeat' first | exact True.intro | exact (fun h=>h) | refine And.intro ?_ ?_ | (intro h;have h:(_:Nat)=_:=h;omega)) ?_
    show Zp _ _ _ _ _ _ _ _
    refine Za rfl<|ZZ (a:=(j:Int)) (b:=1) rfl rfl ⟨by omega,by omega⟩<|Za rfl<|Zb ?_
    exact ⟨_,j - 1,by omega,⟨rfl,_,hp.trans (PRm.swap (by omega) (by omega) (by omega) (by omega)),hin.step (by omega) (by omega),hk,hc⟩,rfl,rfl,rfl,rfl,rfl,ivq (by omega),trivial⟩
 ·have q1:¬ ((i:Int) < (b:Int)):=of_decide_eq_false q1
  first | (refine ZC ?_;show wC _ _ _ _ _ _ _ _ _) | skip
  exact And.intro trivial (Exists.intro _ (And.intro rfl ⟨rfl,gx1,by rw [Nat.min_eq_right (by omega)] at hp;exact hp,hs.mono (Nat.le_refl _) (by omega),hk,hc⟩))
end
end
end Go.Ax

/-
 Pool: sorting that keeps the order: merging in place (written by program).
-/
namespace Go.Ax
open Go Go.RowKit Go.Proofs

noncomputable section
noncomputable def R84v:RC:=(.seq (.seq (.reg [oM 25 2,oM 26 1,oS 27 .sub 25 26,oQ 28 .eql 27 1])
 (.cond (.tmp 28) (.seq (.reg [oM 29 2,oM 10 29])
 (.seq (.reg [oM 30 3,oM 11 30])
 (.seq (.block 0 (.other (at_ Try.f84 [0,1,0,1,1,0,0])))
 (.seq (.seq (.reg [oM 54 1,oM 13 54])
 (.block 2 (.other (at_ Try.f84 [0,1,0,1,1,1,0,1,0]))))
 .ret))))
 .skip))
 (.seq (.seq (.reg [oM 77 3,oM 78 2,oS 79 .sub 77 78,oQ 80 .eql 79 1])
 (.cond (.tmp 80) (.seq (.reg [oM 81 1,oM 14 81])
 (.seq (.reg [oM 82 2,oM 15 82])
 (.seq (.block 4 (.other (at_ Try.f84 [1,0,1,0,1,1,0,0])))
 (.seq (.seq (.reg [oM 107 2,oM 17 107])
 (.block 6 (.other (at_ Try.f84 [1,0,1,0,1,1,1,0,1,0]))))
 .ret))))
 .skip))
 (.seq (.reg [oM 129 1, oM 130 3, oS 131 .add 129 130, ⟨some 132, none, (.pur ⟨some 132, (.convert 3 109 (.tmp 131)), 109, "", #[], none⟩)⟩, ⟨some 133, none, (.pur ⟨some 133, (.binOp .shr 109 (.tmp 132) (.const (.int .u64 1)) 109), 109, "", #[], none⟩)⟩, ⟨some 134, none, (.pur ⟨some 134, (.convert 109 3 (.tmp 133)), 3, "", #[], none⟩)⟩, oM 18 134])
 (.seq (.reg [oM 135 18,oM 136 2,oS 137 .add 135 136,oM 19 137])
 (.seq (.reg [oN 20 0,oN 21 0])
 (.seq (.seq (.reg [oM 138 2,oM 139 18,⟨some 140,none,(.cmp .gtr (.tmp 138) (.tmp 139))⟩])
 (.cond (.tmp 140) (.seq (.reg [oM 141 19,oM 142 3,oS 143 .sub 141 142,oM 20 143])
 (.reg [oM 144 18,oM 21 144]))
 (.seq (.reg [oM 145 1,oM 20 145])
 (.reg [oM 146 2,oM 21 146]))))
 (.other (at_ Try.f84 [1,1,1,1,1,1]))))))))
theorem V84:LV Try.prog 220 (at_ Try.f84 []) R84v:=by
 have e:at_ Try.f84 []=(.seq (at_ Try.f84 [0]) (.seq (at_ Try.f84 [1,0]) (.seq (at_ Try.f84 [1,1,0]) (.seq (at_ Try.f84 [1,1,1,0]) (.seq (at_ Try.f84 [1,1,1,1,0]) (.seq (at_ Try.f84 [1,1,1,1,1,0]) (at_ Try.f84 [1,1,1,1,1,1]))))))):=by kernel_rfl
 rw [e]
 exact (.seq (.low (by kernel_rfl)) (.seq (.low (by kernel_rfl)) (.seq (.low (by kernel_rfl)) (.seq (.low (by kernel_rfl)) (.seq (.low (by kernel_rfl)) (.seq (.low (by kernel_rfl)) (.other _)))))))
noncomputable def R84Gv:RC:=(.seq (.reg [oM 147 19,oR 148 .sub 147 1,oM 22 148])
 (.seq (.block 8 (.other (at_ Try.f84 [1,1,1,1,1,1,1,0,0])))
 (.seq (.reg [oM 175 19,oM 176 20,oS 177 .sub 175 176,oM 24 177])
 (.seq (.other (at_ Try.f84 [1,1,1,1,1,1,1,1,1,0]))
 (.seq (.other (at_ Try.f84 [1,1,1,1,1,1,1,1,1,1,0]))
 (.other (at_ Try.f84 [1,1,1,1,1,1,1,1,1,1,1])))))))
theorem ZiO:LV Try.prog 220 (at_ Try.f84 [1,1,1,1,1,1]) R84Gv:=by
 have e:at_ Try.f84 [1,1,1,1,1,1]=(.seq (at_ Try.f84 [1,1,1,1,1,1,0]) (.seq (at_ Try.f84 [1,1,1,1,1,1,1,0]) (.seq (at_ Try.f84 [1,1,1,1,1,1,1,1,0]) (.seq (at_ Try.f84 [1,1,1,1,1,1,1,1,1,0]) (.seq (at_ Try.f84 [1,1,1,1,1,1,1,1,1,1,0]) (at_ Try.f84 [1,1,1,1,1,1,1,1,1,1,1])))))):=by kernel_rfl
 rw [e]
 exact (.seq (.low (by kernel_rfl)) (.seq (.low (by kernel_rfl)) (.seq (.low (by kernel_rfl)) (.seq (.other _) (.seq (.other _) (.other _))))))
noncomputable def R84A:RC:=(.seq (.reg [oM 178 20,oM 179 2,⟨some 180,none,(.cmpb .lss (.tmp 178) (.tmp 179))⟩,oM 181 180,oG 182 181 true 2,oG 183 181 true 24,⟨some 184,(some (181,true)),(.cmpb .lss (.tmp 182) (.tmp 183))⟩,oA 185 181 184])
 (.cond (.tmp 185) (.reg [oM 186 0,oM 187 20,oM 188 2,oM 189 24,oM 190 4,oC 191 98 #[(.tmp 186),(.tmp 187),(.tmp 188),(.tmp 189),(.tmp 190)] #[60,3,3,3,107]])
 .skip))
theorem ZiL:low Try.prog 220 (at_ Try.f84 [1,1,1,1,1,1,1,1,1,0])=some R84A:=by kernel_rfl
noncomputable def R84B:RC:=(.seq (.reg [oM 192 1,oM 193 20,⟨some 194,none,(.cmpb .lss (.tmp 192) (.tmp 193))⟩,oM 195 194,oG 196 195 true 20,oG 197 195 true 18,⟨some 198,(some (195,true)),(.cmpb .lss (.tmp 196) (.tmp 197))⟩,oA 199 195 198])
 (.cond (.tmp 199) (.reg [oM 200 0,oM 201 1,oM 202 20,oM 203 18,oM 204 4,oC 205 84 #[(.tmp 200),(.tmp 201),(.tmp 202),(.tmp 203),(.tmp 204)] #[60,3,3,3,107]])
 .skip))
theorem ZiY:low Try.prog 220 (at_ Try.f84 [1,1,1,1,1,1,1,1,1,1,0])=some R84B:=by kernel_rfl
noncomputable def R84C:RC:=(.seq (.reg [oM 206 18,oM 207 24,⟨some 208,none,(.cmpb .lss (.tmp 206) (.tmp 207))⟩,oM 209 208,oG 210 209 true 24,oG 211 209 true 3,⟨some 212,(some (209,true)),(.cmpb .lss (.tmp 210) (.tmp 211))⟩,oA 213 209 212])
 (.cond (.tmp 213) (.reg [oM 214 0,oM 215 18,oM 216 24,oM 217 3,oM 218 4,oC 219 84 #[(.tmp 214),(.tmp 215),(.tmp 216),(.tmp 217),(.tmp 218)] #[60,3,3,3,107]])
 .skip))
theorem ZiM:low Try.prog 220 (at_ Try.f84 [1,1,1,1,1,1,1,1,1,1,1])=some R84C:=by kernel_rfl
section
variable {kn:Kn} {lo:Nat} {H:Hp}
set_option maxRecDepth 100000 in
set_option maxHeartbeats 2000000 in
theorem Zhe {bd cap n:Nat} {g:Nat→Nat} {v u:Nat→Int} {Hr:Hp} (hlb:lo≤bd) (hn:n≤1000000) (hlo:lo≤Hr.next) (hk:KT bd Hr H) (hc:Cl H bd (cG (fun x=>[iv (v x),iv (u x)]) n g)) {fc:FuncId} {caps:Array Value} {a m b mid s e:Nat} (hsm:s≤m) (hme:m≤e) (heb:e≤n) {S:Rg} {K:Exit→Rg→Hp→Prop} (hS:WD [(0,.slice (some ⟨bd,0,none⟩) n cap),(1,iv (a:Int)),(2,iv (m:Int)),(3,iv (b:Int)),(4,.func (.func fc) #[] caps),(18,iv (mid:Int)),(20,iv (s:Int)),(24,iv (e:Int))] S) (hN:∀ H' S',PRm s e g (rot g s m e)→KT bd Hr H'→Cl H' bd (cG (fun x=>[iv (v x),iv (u x)]) n (rot g s m e))→WD [(0,.slice (some ⟨bd,0,none⟩) n cap),(1,iv (a:Int)),(2,iv (m:Int)),(3,iv (b:Int)),(4,.func (.func fc) #[] caps),(18,iv (mid:Int)),(20,iv (s:Int)),(24,iv (e:Int))] S'→K .normal S' H'):Tri Try.prog kn lo 220 false (at_ Try.f84 [1,1,1,1,1,1,1,1,1,0]) S H K:=by
 refine WT ZiL hS ?_
 refine Zc<|Za rfl<|Za rfl<|Xd (a:=(s:Int)) (b:=(m:Int)) rfl rfl ?_
 intro t1 g1;cases t1
 ·have g1:¬ ((s:Int) < (m:Int)):=of_decide_eq_false g1
  refine Za rfl<|Zw rfl<|Zw rfl<|Zw rfl<|Zg (v:=.bool false) rfl rfl<|Zb<|ZR ?_
  first | refine Zl ?_ | skip
  have er:=QH (g:=g) (s:=s) (m:=m) (e:=e) (by omega) (by omega) (by omega)
  exact hN _ _ (by rw [er];exact PRm.refl _ _ _) hk (by rw [er];exact hc) ⟨rfl,rfl,rfl,rfl,rfl,rfl,rfl,rfl,trivial⟩
 ·have g1:(s:Int) < (m:Int):=of_decide_eq_true g1
  refine Za rfl ?_
  refine ZO rfl (Za rfl ?_)
  refine ZO rfl (Za rfl ?_)
  refine ZO rfl (Xd (a:=(m:Int)) (b:=(e:Int)) rfl rfl ?_)
  intro t2 g2;cases t2
  ·have g2:¬ ((m:Int) < (e:Int)):=of_decide_eq_false g2
   refine Zg (v:=.bool false) rfl rfl<|Zb<|ZR ?_
   first | refine Zl ?_ | skip
   have er:=QH (g:=g) (s:=s) (m:=m) (e:=e) (by omega) (by omega) (by omega)
   exact hN _ _ (by rw [er];exact PRm.refl _ _ _) hk (by rw [er];exact hc) ⟨rfl,rfl,rfl,rfl,rfl,rfl,rfl,rfl,trivial⟩
  ·have g2:(m:Int) < (e:Int):=of_decide_eq_true g2
   refine Zg (v:=.bool true) rfl rfl<|Zb<|Xm ?_
   show Zp _ _ _ _ _ _ _ _
   refine Za rfl<|Za rfl<|Za rfl<|Za rfl<|Za rfl ?_
   obtain ⟨H1,fH1,pH1,kH1,cH1⟩:=ZeA (kn:=kn) (lo:=lo) (H:=H) (by have:=hk.1;omega) hlb hn (cap:=cap) hc (cv:=.func (.func fc) #[] caps) (a:=s) (m:=m) (b:=e) (by omega) (by omega) (by omega)
   refine Zs (vs:=[.slice (some ⟨bd,0,none⟩) n cap,iv (s:Int),iv (m:Int),iv (e:Int),.func (.func fc) #[] caps]) rfl (Zh fH1) ?_
   have mH1:=kH1.1
   have hk:=hk.trans kH1
   have hc:=cH1
   refine Zb ?_
   exact hN _ _ pH1 hk hc ⟨rfl,rfl,rfl,rfl,rfl,rfl,rfl,rfl,trivial⟩
set_option maxRecDepth 100000 in
set_option maxHeartbeats 2000000 in
theorem ZhC {bd cap n:Nat} {g:Nat→Nat} {v u:Nat→Int} {Hr:Hp} (hlb:lo≤bd) (hn:n≤1000000) (hlo:lo≤Hr.next) (hk:KT bd Hr H) (hc:Cl H bd (cG (fun x=>[iv (v x),iv (u x)]) n g)) {fc:FuncId} {caps:Array Value} {M a m b mid s e:Nat} {key:Nat→Int} (ih:∀ (H1:Hp) (a m b:Nat) (g:Nat→Nat),KT bd Hr H1→a < m→m < b→b≤n→b - a < M→(∀ k,k < n→g k < n)→So key a m g→So key m b g→Cr a m b g→Cl H1 bd (cG (fun x=>[iv (v x),iv (u x)]) n g)→∃ H' g',FnX Try.prog kn lo 84 [.slice (some ⟨bd,0,none⟩) n cap,iv (a:Int),iv (m:Int),iv (b:Int),.func (.func fc) #[] caps] H1 (.tuple #[]) H'∧PRm a b g g'∧So key a b g'∧KT bd H1 H'∧Cl H' bd (cG (fun x=>[iv (v x),iv (u x)]) n g')) (h1:a≤s) (h2:s≤mid) (hz:mid≤n) (hM:mid - a < M) (hd:∀ k,k < n→g k < n) (hp1:So key a s g) (hp2:So key s mid g) (hcr:Cr a s mid g) {S:Rg} {K:Exit→Rg→Hp→Prop} (hS:WD [(0,.slice (some ⟨bd,0,none⟩) n cap),(1,iv (a:Int)),(2,iv (m:Int)),(3,iv (b:Int)),(4,.func (.func fc) #[] caps),(18,iv (mid:Int)),(20,iv (s:Int)),(24,iv (e:Int))] S) (hN:∀ H' S' g',PRm a mid g g'→So key a mid g'→KT bd Hr H'→Cl H' bd (cG (fun x=>[iv (v x),iv (u x)]) n g')→WD [(0,.slice (some ⟨bd,0,none⟩) n cap),(1,iv (a:Int)),(2,iv (m:Int)),(3,iv (b:Int)),(4,.func (.func fc) #[] caps),(18,iv (mid:Int)),(20,iv (s:Int)),(24,iv (e:Int))] S'→K .normal S' H'):Tri Try.prog kn lo 220 false (at_ Try.f84 [1,1,1,1,1,1,1,1,1,1,0]) S H K:=by
 refine WT ZiY hS ?_
 refine Zc<|Za rfl<|Za rfl<|Xd (a:=(a:Int)) (b:=(s:Int)) rfl rfl ?_
 intro t1 g1;cases t1
 ·have g1:¬ ((a:Int) < (s:Int)):=of_decide_eq_false g1
  refine Za rfl<|Zw rfl<|Zw rfl<|Zw rfl<|Zg (v:=.bool false) rfl rfl<|Zb<|ZR ?_
  first | refine Zl ?_ | skip
  exact hN _ _ g (PRm.refl _ _ _) (by rcases Nat.lt_or_ge a s with c | c;exact hp1.mono (Nat.le_refl _) (by omega);exact hp2.mono (by omega) (Nat.le_refl _)) hk hc ⟨rfl,rfl,rfl,rfl,rfl,rfl,rfl,rfl,trivial⟩
 ·have g1:(a:Int) < (s:Int):=of_decide_eq_true g1
  refine Za rfl ?_
  refine ZO rfl (Za rfl ?_)
  refine ZO rfl (Za rfl ?_)
  refine ZO rfl (Xd (a:=(s:Int)) (b:=(mid:Int)) rfl rfl ?_)
  intro t2 g2;cases t2
  ·have g2:¬ ((s:Int) < (mid:Int)):=of_decide_eq_false g2
   refine Zg (v:=.bool false) rfl rfl<|Zb<|ZR ?_
   first | refine Zl ?_ | skip
   exact hN _ _ g (PRm.refl _ _ _) (by rcases Nat.lt_or_ge a s with c | c;exact hp1.mono (Nat.le_refl _) (by omega);exact hp2.mono (by omega) (Nat.le_refl _)) hk hc ⟨rfl,rfl,rfl,rfl,rfl,rfl,rfl,rfl,trivial⟩
  ·have g2:(s:Int) < (mid:Int):=of_decide_eq_true g2
   refine Zg (v:=.bool true) rfl rfl<|Zb<|Xm ?_
   show Zp _ _ _ _ _ _ _ _
   refine Za rfl<|Za rfl<|Za rfl<|Za rfl<|Za rfl ?_
   obtain ⟨H1,gH1,fH1,pH1,sH1,kH1,cH1⟩:=ih H a s mid g hk (by omega) (by omega) (by omega) (by omega) hd hp1 hp2 hcr hc
   refine Zs (vs:=[.slice (some ⟨bd,0,none⟩) n cap,iv (a:Int),iv (s:Int),iv (mid:Int),.func (.func fc) #[] caps]) rfl (Zh fH1) ?_
   have mH1:=kH1.1
   have hk:=hk.trans kH1
   have hc:=cH1
   refine Zb ?_
   exact hN _ _ _ pH1 sH1 hk hc ⟨rfl,rfl,rfl,rfl,rfl,rfl,rfl,rfl,trivial⟩
set_option maxRecDepth 100000 in
set_option maxHeartbeats 2000000 in
theorem Zip {bd cap n:Nat} {g:Nat→Nat} {v u:Nat→Int} {Hr:Hp} (hlb:lo≤bd) (hn:n≤1000000) (hlo:lo≤Hr.next) (hk:KT bd Hr H) (hc:Cl H bd (cG (fun x=>[iv (v x),iv (u x)]) n g)) {fc:FuncId} {caps:Array Value} {M a m b mid s e:Nat} {key:Nat→Int} (ih:∀ (H1:Hp) (a m b:Nat) (g:Nat→Nat),KT bd Hr H1→a < m→m < b→b≤n→b - a < M→(∀ k,k < n→g k < n)→So key a m g→So key m b g→Cr a m b g→Cl H1 bd (cG (fun x=>[iv (v x),iv (u x)]) n g)→∃ H' g',FnX Try.prog kn lo 84 [.slice (some ⟨bd,0,none⟩) n cap,iv (a:Int),iv (m:Int),iv (b:Int),.func (.func fc) #[] caps] H1 (.tuple #[]) H'∧PRm a b g g'∧So key a b g'∧KT bd H1 H'∧Cl H' bd (cG (fun x=>[iv (v x),iv (u x)]) n g')) (h1:mid≤e) (h2:e≤b) (hz:b≤n) (hM:b - mid < M) (hd:∀ k,k < n→g k < n) (hp1:So key mid e g) (hp2:So key e b g) (hcr:Cr mid e b g) {S:Rg} {K:Exit→Rg→Hp→Prop} (hS:WD [(0,.slice (some ⟨bd,0,none⟩) n cap),(1,iv (a:Int)),(2,iv (m:Int)),(3,iv (b:Int)),(4,.func (.func fc) #[] caps),(18,iv (mid:Int)),(20,iv (s:Int)),(24,iv (e:Int))] S) (hN:∀ H' S' g',PRm mid b g g'→So key mid b g'→KT bd Hr H'→Cl H' bd (cG (fun x=>[iv (v x),iv (u x)]) n g')→WD [(0,.slice (some ⟨bd,0,none⟩) n cap),(1,iv (a:Int)),(2,iv (m:Int)),(3,iv (b:Int)),(4,.func (.func fc) #[] caps),(18,iv (mid:Int)),(20,iv (s:Int)),(24,iv (e:Int))] S'→K .normal S' H'):Tri Try.prog kn lo 220 false (at_ Try.f84 [1,1,1,1,1,1,1,1,1,1,1]) S H K:=by
 refine WT ZiM hS ?_
 refine Zc<|Za rfl<|Za rfl<|Xd (a:=(mid:Int)) (b:=(e:Int)) rfl rfl ?_
 intro t1 g1;cases t1
 ·have g1:¬ ((mid:Int) < (e:Int)):=of_decide_eq_false g1
  refine Za rfl<|Zw rfl<|Zw rfl<|Zw rfl<|Zg (v:=.bool false) rfl rfl<|Zb<|ZR ?_
  first | refine Zl ?_ | skip
  exact hN _ _ g (PRm.refl _ _ _) (by rcases Nat.lt_or_ge mid e with c | c;exact hp1.mono (Nat.le_refl _) (by omega);exact hp2.mono (by omega) (Nat.le_refl _)) hk hc ⟨rfl,rfl,rfl,rfl,rfl,rfl,rfl,rfl,trivial⟩
 ·have g1:(mid:Int) < (e:Int):=of_decide_eq_true g1
  refine Za rfl ?_
  refine ZO rfl (Za rfl ?_)
  refine ZO rfl (Za rfl ?_)
  refine ZO rfl (Xd (a:=(e:Int)) (b:=(b:Int)) rfl rfl ?_)
  intro t2 g2;cases t2
  ·have g2:¬ ((e:Int) < (b:Int)):=of_decide_eq_false g2
   refine Zg (v:=.bool false) rfl rfl<|Zb<|ZR ?_
   first | refine Zl ?_ | skip
   exact hN _ _ g (PRm.refl _ _ _) (by rcases Nat.lt_or_ge mid e with c | c;exact hp1.mono (Nat.le_refl _) (by omega);exact hp2.mono (by omega) (Nat.le_refl _)) hk hc ⟨rfl,rfl,rfl,rfl,rfl,rfl,rfl,rfl,trivial⟩
  ·have g2:(e:Int) < (b:Int):=of_decide_eq_true g2
   refine Zg (v:=.bool true) rfl rfl<|Zb<|Xm ?_
   show Zp _ _ _ _ _ _ _ _
   refine Za rfl<|Za rfl<|Za rfl<|Za rfl<|Za rfl ?_
   obtain ⟨H1,gH1,fH1,pH1,sH1,kH1,cH1⟩:=ih H mid e b g hk (by omega) (by omega) (by omega) (by omega) hd hp1 hp2 hcr hc
   refine Zs (vs:=[.slice (some ⟨bd,0,none⟩) n cap,iv (mid:Int),iv (e:Int),iv (b:Int),.func (.func fc) #[] caps]) rfl (Zh fH1) ?_
   have mH1:=kH1.1
   have hk:=hk.trans kH1
   have hc:=cH1
   refine Zb ?_
   exact hN _ _ _ pH1 sH1 hk hc ⟨rfl,rfl,rfl,rfl,rfl,rfl,rfl,rfl,trivial⟩
set_option maxRecDepth 100000 in
set_option maxHeartbeats 2000000 in
theorem Zfc {bd cap n:Nat} {g:Nat→Nat} {v u:Nat→Int} {Hr:Hp} (hlb:lo≤bd) (hn:n≤1000000) (hlo:lo≤Hr.next) (hk:KT bd Hr H) (hc:Cl H bd (cG (fun x=>[iv (v x),iv (u x)]) n g)) {fc:FuncId} {caps:Array Value} {M a m b mid nn s0 r0:Nat} {key:Nat→Int} (ih:∀ (H1:Hp) (a m b:Nat) (g:Nat→Nat),KT bd Hr H1→a < m→m < b→b≤n→b - a < M→(∀ k,k < n→g k < n)→So key a m g→So key m b g→Cr a m b g→Cl H1 bd (cG (fun x=>[iv (v x),iv (u x)]) n g)→∃ H' g',FnX Try.prog kn lo 84 [.slice (some ⟨bd,0,none⟩) n cap,iv (a:Int),iv (m:Int),iv (b:Int),.func (.func fc) #[] caps] H1 (.tuple #[]) H'∧PRm a b g g'∧So key a b g'∧KT bd H1 H'∧Cl H' bd (cG (fun x=>[iv (v x),iv (u x)]) n g')) (hcmp:V9 Try.prog kn lo bd fc caps (fun x=>.agg #[iv (v x),iv (u x)]) n key Hr) (ham:a < m) (hmb:m < b) (hb:b≤n) (hM:b - a≤M) (hmid:mid=(a+b) / 2) (hnn:nn=mid+m) (hs0:(mid < m∧s0+b=nn∧r0=mid)∨(m≤mid∧s0=a∧r0=m)) (h2:2≤m - a) (hd:∀ k,k < n→g k < n) (hp1:So key a m g) (hp2:So key m b g) (hcr:Cr a m b g) {S:Rg} {K:Exit→Rg→Hp→Prop} (hS:WD [(0,.slice (some ⟨bd,0,none⟩) n cap),(1,iv (a:Int)),(2,iv (m:Int)),(3,iv (b:Int)),(4,.func (.func fc) #[] caps),(18,iv (mid:Int)),(19,iv (nn:Int)),(20,iv (s0:Int)),(21,iv (r0:Int))] S) (hN:∀ H' S' g',PRm a b g g'→So key a b g'→KT bd Hr H'→Cl H' bd (cG (fun x=>[iv (v x),iv (u x)]) n g')→K .normal S' H'):Tri Try.prog kn lo 220 false (at_ Try.f84 [1,1,1,1,1,1]) S H K:=by
 refine Zdi ZiO hS ?_
 refine Zc<|Za rfl<|ZZ (a:=(nn:Int)) (b:=1) rfl rfl ⟨by omega,by omega⟩<|Za rfl<|Zb ?_
 obtain ⟨pp,hpp⟩:∃ pp,pp+1=nn:=⟨nn - 1,by omega⟩
 refine Zx (fn:=Try.f84) Zhk N84 Ziy (fun x:Nat × Nat=>[(0,.slice (some ⟨bd,0,none⟩) n cap),(1,iv (a:Int)),(2,iv (m:Int)),(3,iv (b:Int)),(4,.func (.func fc) #[] caps),(18,iv (mid:Int)),(19,iv (nn:Int)),(20,iv (x.1:Int)),(21,iv (x.2:Int)),(22,iv (pp:Int))])
  (fun k x H'=>k=x.2 - x.1∧s0≤x.1∧x.1≤x.2∧x.2≤r0∧(x.1=s0∨¬ key (g (pp - (x.1 - 1))) < key (g (x.1 - 1)))∧(x.2=r0∨key (g (pp - x.2)) < key (g x.2))∧KT bd Hr H'∧Cl H' bd (cG (fun x=>[iv (v x),iv (u x)]) n g)) _ (s0,r0) ⟨rfl,Nat.le_refl _,by simp only [];omega,Nat.le_refl _,.inl rfl,.inl rfl,hk,hc⟩ ⟨rfl,rfl,rfl,rfl,rfl,rfl,rfl,rfl,rfl,ivq (by omega),trivial⟩ ?_
 rintro k ⟨s,r⟩ L1 ⟨rfl,hs1,hs2,hs3,hlw,hup,hk,hc⟩
 simp only [] at hs1 hs2 hs3 hlw hup
 have hdm:=hd
 refine Zc<|Za rfl<|Za rfl<|ZF (a:=(s:Int)) (b:=(r:Int)) rfl rfl<|Zb ?_
 refine And.intro (fun q1=>?_) (fun q1=>?_)
 ·have q1:(s:Int) < (r:Int):=of_decide_eq_true q1
  first | refine Zl ?_ | skip
  refine Zc<|Za rfl<|Za rfl<|Zy (a:=(s:Int)) (b:=(r:Int)) rfl rfl ⟨by omega,by omega⟩ ?_
  obtain ⟨h5,eh5⟩:∃ h:Nat,h=(s+r) / 2:=⟨_,rfl⟩
  refine Zg (v:=.int .u64 ((s+r:Nat):Int)) rfl (K5 (n:=s+r) (j:=(s:Int)+(r:Int)) (by omega) rfl (by omega))<|Zg (v:=.int .u64 ((h5:Nat):Int)) rfl (by rw [eh5];exact U1 (m:=s+r) (d:=1) (by decide) rfl rfl)<|Zg (v:=iv (h5:Int)) rfl (yF (n:=h5) (j:=(h5:Int)) (by omega) rfl rfl)<|Za rfl<|Zb<|YV<|Zf rfl<|Zf rfl<|Zf rfl<|Zf rfl<|Xk (a:=(pp:Int)) (b:=(h5:Int)) rfl rfl ⟨by omega,by omega⟩<|Zz (b:=bd) (o:=0) (k:=pp - h5) (j:=(pp:Int) - (h5:Int)) rfl rfl (by omega) (by omega)<|YJ (b:=bd) (o:=0+(pp - h5) * 2) rfl hc.rd (Xs (z:=2) (fun _=>rfl) (by omega))<|Zf rfl<|Zf rfl<|Zz (b:=bd) (o:=0) (k:=h5) (j:=(h5:Int)) rfl rfl (by omega) (by omega)<|YJ (b:=bd) (o:=0+h5 * 2) rfl hc.rd (Xs (z:=2) (fun _=>rfl) (by omega)) ?_
  obtain ⟨rH1,H1,fH1,kH1,qH1⟩:=hcmp L1 hk.kp (g (pp - h5)) (g h5) (hdm _ (by omega)) (hdm _ (by omega))
  refine Yr (vs:=[.agg #[iv (v (g (pp - h5))),iv (u (g (pp - h5)))],.agg #[iv (v (g h5)),iv (u (g h5))]]) rfl fH1 ?_
  have mH1:=kH1.1
  have hc:=kH1.cl hc (by simp)
  have hk:=hk.keep kH1
  refine Vc (a:=rH1) (b:=0) rfl rfl<|XF (v:=.bool (!(decide (rH1 < 0)))) rfl rfl ?_
  refine ZN (by repeat' first | exact True.intro | exact (fun h=>h) | refine And.intro ?_ ?_ | (intro h;have h:(_:Nat)=_:=h;omega)) ?_
  refine And.intro (fun q2=>?_) (fun q2=>?_)
  ·have q2:¬ (rH1 < 0):=by simpa using q2
   show Zp _ _ _ _ _ _ _ _
   refine Za rfl<|Zy (a:=(h5:Int)) (b:=1) rfl rfl ⟨by omega,by omega⟩<|Za rfl<|Zb ?_
   exact ⟨_,(h5+1,r),by simp only [];omega,⟨rfl,by simp only [];omega,by simp only [];omega,hs3,.inr (by simp only [];rw [show h5+1 - 1=h5 by omega];exact fun hh=>by have:=qH1.2 hh;omega),hup,hk,hc⟩,rfl,rfl,rfl,rfl,rfl,rfl,rfl,ivq (by simp only [];omega),rfl,rfl,trivial⟩
  ·have q2:¬ (¬ (rH1 < 0)):=by simpa using q2
   show Zp _ _ _ _ _ _ _ _
   refine Za rfl<|Za rfl<|Zb ?_
   exact ⟨_,(s,h5),by simp only [];omega,⟨rfl,hs1,by simp only [];omega,by simp only [];omega,hlw,.inr (qH1.1 (by omega)),hk,hc⟩,rfl,rfl,rfl,rfl,rfl,rfl,rfl,rfl,ivq (by simp only []),rfl,trivial⟩
 ·have q1:¬ ((s:Int) < (r:Int)):=of_decide_eq_false q1
  first | (refine ZC ?_;show wC _ _ _ _ _ _ _ _ _) | skip
  refine Zc<|Za rfl<|Za rfl<|ZZ (a:=(nn:Int)) (b:=(s:Int)) rfl rfl ⟨by omega,by omega⟩<|Za rfl<|Zb ?_
  obtain rfl:s=r:=by omega
  obtain ⟨e,he⟩:∃ e,e+s=nn:=⟨nn - s,by omega⟩
  have hcut:ZfS key a m b s e g:=by
   refine ⟨by omega,by omega,by omega,by omega,?_,?_⟩
   ·by_cases z:s=s0
    ·rcases hs0 with ⟨z1,z2,z3⟩ | ⟨z1,z2,z3⟩
     ·exact .inr (.inl (by omega))
     ·exact .inl (by omega)
    ·have y:=hlw.resolve_left z
     rw [show pp - (s - 1)=e by omega] at y
     exact .inr (.inr (.of_not y (hcr (s - 1) e (by omega) (by omega) (by omega) (by omega))))
   ·by_cases z:s=r0
    ·rcases hs0 with ⟨z1,z2,z3⟩ | ⟨z1,z2,z3⟩
     ·exact .inr (.inl (by omega))
     ·exact .inl (by omega)
    ·have y:=hup.resolve_left z
     rw [show pp - s=e - 1 by omega] at y
     exact .inr (.inr (.lt y))
  have hpt:=ZaW hp1 hp2 hcr hcut
  rw [show s+(e - m)=mid by have:=hcut.me;omega] at hpt
  have hbe:=hcut.eb;have hbm:=hcut.sm;have hbl:=hcut.l;have hbn:=hcut.me
  refine Zhe hlb hn hlo hk hc (mid:=mid) (b:=b) hbm hbn (by omega) (by exact ⟨rfl,rfl,rfl,rfl,rfl,rfl,rfl,ivq (by omega),trivial⟩) ?_
  intro HA SA_ pA kA cA sA
  have pA2:=pA.mono hbl (by omega) hbe
  have hdA:=pA2.dom hd hb
  refine ZhC hlb hn hlo kA cA ih (by omega) (by omega) (by omega) (by omega) hdA hpt.p1 hpt.p2 hpt.c1 sA ?_
  intro HB SB gB pB oB kB cB sB
  have hdB:=pB.dom hdA (by omega)
  obtain ⟨r1,r2,r3⟩:=hpt.right pB (by omega)
  refine Zip hlb hn hlo kB cB ih (by omega) (by omega) hb (by omega) hdB r1 r2 r3 sB ?_
  intro HC SC gC pC oC kC cC sC
  exact hN _ _ gC (pA2.trans ((pB.mono (Nat.le_refl _) (by omega) (by omega)).trans (pC.mono (by omega) (by omega) (Nat.le_refl _)))) (hpt.done (by omega) (by omega) pB oB pC oC) kC cC
set_option maxRecDepth 100000 in
set_option maxHeartbeats 2000000 in
theorem ZbB (hlo:lo≤H.next) {bd cap n M:Nat} {g:Nat→Nat} {v u:Nat→Int} {Hr:Hp} (hlb:lo≤bd) (hn:n≤1000000) (hk0:KT bd Hr H) (hc:Cl H bd (cG (fun x=>[iv (v x),iv (u x)]) n g)) {fc:FuncId} {caps:Array Value} {key:Nat→Int} (ih:∀ (H1:Hp) (a m b:Nat) (g:Nat→Nat),KT bd Hr H1→a < m→m < b→b≤n→b - a < M→(∀ k,k < n→g k < n)→So key a m g→So key m b g→Cr a m b g→Cl H1 bd (cG (fun x=>[iv (v x),iv (u x)]) n g)→∃ H' g',FnX Try.prog kn lo 84 [.slice (some ⟨bd,0,none⟩) n cap,iv (a:Int),iv (m:Int),iv (b:Int),.func (.func fc) #[] caps] H1 (.tuple #[]) H'∧PRm a b g g'∧So key a b g'∧KT bd H1 H'∧Cl H' bd (cG (fun x=>[iv (v x),iv (u x)]) n g')) (hcmp0:V9 Try.prog kn lo bd fc caps (fun x=>.agg #[iv (v x),iv (u x)]) n key Hr) {a m b:Nat} (ham:a < m) (hmb:m < b) (hb:b≤n) (hM:b - a≤M) (hd:∀ k,k < n→g k < n) (hp1:So key a m g) (hp2:So key m b g) (hcr:Cr a m b g) :
  ∃ H' g',FnX Try.prog kn lo 84 [.slice (some ⟨bd,0,none⟩) n cap,iv (a:Int),iv (m:Int),iv (b:Int),.func (.func fc) #[] caps] H (.tuple #[]) H'∧PRm a b g g'∧So key a b g'∧KT bd H H'∧Cl H' bd (cG (fun x=>[iv (v x),iv (u x)]) n g'):=by
 have key_:=ZdM (kn:=kn) (lo:=lo) (H:=H) (args:=[.slice (some ⟨bd,0,none⟩) n cap,iv (a:Int),iv (m:Int),iv (b:Int),.func (.func fc) #[] caps]) (Q:=fun w H'=>w=.tuple #[]∧∃ g',PRm a b g g'∧So key a b g'∧KT bd H H'∧Cl H' bd (cG (fun x=>[iv (v x),iv (u x)]) n g')) Try.func84 B84 N84 Z84 V84 (by simp) ?_
 ·obtain ⟨w,H',h,rfl,g',r⟩:=key_;exact ⟨H',g',h,r⟩
 have hk:=KT.refl (H:=H) hc.1
 have hcmp:=hcmp0.from hk0.kp
 refine Zc<|Za rfl<|Za rfl<|ZZ (a:=(m:Int)) (b:=(a:Int)) rfl rfl ⟨by omega,by omega⟩<|QT (a:=(m:Int) - (a:Int)) (b:=1) rfl rfl<|Zb ?_
 refine And.intro (fun q1=>?_) (fun q1=>?_)
 ·have q1:((m:Int) - (a:Int))=1:=by simpa using q1
  refine Zc<|Za rfl<|Za rfl<|Zb<|Zc<|Za rfl<|Za rfl<|Zb ?_
  refine Zx (fn:=Try.f84) Zir N84 Zg6 (fun x:Nat × Nat=>[(0,.slice (some ⟨bd,0,none⟩) n cap),(1,iv (a:Int)),(2,iv (m:Int)),(3,iv (b:Int)),(4,.func (.func fc) #[] caps),(10,iv (x.1:Int)),(11,iv (x.2:Int))])
   (fun k x H'=>k=x.2 - x.1∧m≤x.1∧x.1≤x.2∧x.2≤b∧(∀ p,m≤p→p < x.1→key (g p) < key (g a))∧(∀ p,x.2≤p→p < b→¬ key (g p) < key (g a))∧KT bd H H'∧Cl H' bd (cG (fun x=>[iv (v x),iv (u x)]) n g)) _ (m,b) ⟨rfl,Nat.le_refl _,by simp only [];omega,Nat.le_refl _,fun p p1 p2=>absurd p2 (by simp only [];omega),fun p p1 p2=>absurd p2 (by simp only [] at p1;omega),hk,hc⟩ ⟨rfl,rfl,rfl,rfl,rfl,rfl,rfl,trivial⟩ ?_
  rintro k ⟨i,j⟩ L1 ⟨rfl,hi1,hi2,hi3,hlw,hup,hk,hc⟩
  simp only [] at hi1 hi2 hi3 hlw hup
  have hdm:=hd
  refine Zc<|Za rfl<|Za rfl<|ZF (a:=(i:Int)) (b:=(j:Int)) rfl rfl<|Zb ?_
  refine And.intro (fun q2=>?_) (fun q2=>?_)
  ·have q2:(i:Int) < (j:Int):=of_decide_eq_true q2
   first | refine Zl ?_ | skip
   refine Zc<|Za rfl<|Za rfl<|Zy (a:=(i:Int)) (b:=(j:Int)) rfl rfl ⟨by omega,by omega⟩ ?_
   obtain ⟨h6,eh6⟩:∃ h:Nat,h=(i+j) / 2:=⟨_,rfl⟩
   refine Zg (v:=.int .u64 ((i+j:Nat):Int)) rfl (K5 (n:=i+j) (j:=(i:Int)+(j:Int)) (by omega) rfl (by omega))<|Zg (v:=.int .u64 ((h6:Nat):Int)) rfl (by rw [eh6];exact U1 (m:=i+j) (d:=1) (by decide) rfl rfl)<|Zg (v:=iv (h6:Int)) rfl (yF (n:=h6) (j:=(h6:Int)) (by omega) rfl rfl)<|Za rfl<|Zb<|YV<|Zf rfl<|Zf rfl<|Zf rfl<|Zz (b:=bd) (o:=0) (k:=h6) (j:=(h6:Int)) rfl rfl (by omega) (by omega)<|YJ (b:=bd) (o:=0+h6 * 2) rfl hc.rd (Xs (z:=2) (fun _=>rfl) (by omega))<|Zf rfl<|Zf rfl<|Zz (b:=bd) (o:=0) (k:=a) (j:=(a:Int)) rfl rfl (by omega) (by omega)<|YJ (b:=bd) (o:=0+a * 2) rfl hc.rd (Xs (z:=2) (fun _=>rfl) (by omega)) ?_
   obtain ⟨rH1,H1,fH1,kH1,qH1⟩:=hcmp L1 hk.kp (g h6) (g a) (hdm _ (by omega)) (hdm _ (by omega))
   refine Yr (vs:=[.agg #[iv (v (g h6)),iv (u (g h6))],.agg #[iv (v (g a)),iv (u (g a))]]) rfl fH1 ?_
   have mH1:=kH1.1
   have hc:=kH1.cl hc (by simp)
   have hk:=hk.keep kH1
   refine Vc (a:=rH1) (b:=0) rfl rfl ?_
   refine ZN (by repeat' first | exact True.intro | exact (fun h=>h) | refine And.intro ?_ ?_ | (intro h;have h:(_:Nat)=_:=h;omega)) ?_
   refine And.intro (fun q3=>?_) (fun q3=>?_)
   ·have q3:rH1 < 0:=of_decide_eq_true q3
    show Zp _ _ _ _ _ _ _ _
    refine Za rfl<|Zy (a:=(h6:Int)) (b:=1) rfl rfl ⟨by omega,by omega⟩<|Za rfl<|Zb ?_
    exact ⟨_,(h6+1,j),by simp only [];omega,⟨rfl,by simp only [];omega,by simp only [];omega,hi3,fun p p1 p2=>by have z:=qH1.1 (by omega);have y:=hp2.le (i:=p) (j:=h6) (by omega) (by omega) (by omega);omega,hup,hk,hc⟩,rfl,rfl,rfl,rfl,rfl,ivq (by simp only [];omega),rfl,trivial⟩
   ·have q3:¬ (rH1 < 0):=of_decide_eq_false q3
    show Zp _ _ _ _ _ _ _ _
    refine Za rfl<|Za rfl<|Zb ?_
    exact ⟨_,(i,h6),by simp only [];omega,⟨rfl,hi1,by simp only [];omega,by simp only [];omega,hlw,fun p p1 p2 hh=>by have y:=hp2.le (i:=h6) (j:=p) (by omega) p1 (by omega);have z:=qH1.2 (by omega);omega,hk,hc⟩,rfl,rfl,rfl,rfl,rfl,rfl,ivq (by simp only []),trivial⟩
  ·have q2:¬ ((i:Int) < (j:Int)):=of_decide_eq_false q2
   first | (refine ZC ?_;show wC _ _ _ _ _ _ _ _ _) | skip
   refine Zc<|Za rfl<|Za rfl<|Zb ?_
   obtain rfl:i=j:=by omega
   obtain rfl:m=a+1:=by omega
   refine Zx (fn:=Try.f84) Ziu N84 Zg4 (fun t:Nat=>[(0,.slice (some ⟨bd,0,none⟩) n cap),(10,iv (i:Int)),(13,iv (t:Int))])
    (fun k t H'=>k+t=i - 1∧a≤t∧PRm a b g (mvR g a t)∧KT bd H H'∧Cl H' bd (cG (fun x=>[iv (v x),iv (u x)]) n (mvR g a t))) (i - 1 - a) a ⟨by omega,Nat.le_refl _,by rw [QR];exact PRm.refl _ _ _,hk,by rw [QR];exact hc⟩ ⟨rfl,rfl,rfl,trivial⟩ ?_
   rintro k t L2 ⟨hkt,ht,hp,hk,hc⟩
   refine Zc<|Za rfl<|Za rfl<|ZZ (a:=(i:Int)) (b:=1) rfl rfl ⟨by omega,by omega⟩<|ZF (a:=(t:Int)) (b:=(i:Int) - 1) rfl rfl<|Zb ?_
   refine And.intro (fun q4=>?_) (fun q4=>?_)
   ·have q4:(t:Int) < ((i:Int) - 1):=of_decide_eq_true q4
    first | refine Zl ?_ | skip
    first | refine Z2 ?_ | refine Wm ?_ | refine Vt ?_ | (refine YO ?_;refine Z2 ?_)
    refine Zf rfl<|Zf rfl<|Zf rfl<|Zf rfl<|XU (a:=(t:Int)) (b:=1) rfl rfl ⟨by omega,by omega⟩<|Zf rfl<|Zf rfl<|XU (a:=(t:Int)) (b:=1) rfl rfl ⟨by omega,by omega⟩<|Zz (b:=bd) (o:=0) (k:=t+1) (j:=(t:Int)+1) rfl rfl (by omega) (by omega)<|YJ (b:=bd) (o:=0+(t+1) * 2) rfl hc.rd (Xs (z:=2) (fun _=>rfl) (by omega))<|Zf rfl<|Zf rfl<|Zz (b:=bd) (o:=0) (k:=t) (j:=(t:Int)) rfl rfl (by omega) (by omega)<|YJ (b:=bd) (o:=0+t * 2) rfl hc.rd (Xs (z:=2) (fun _=>rfl) (by omega))<|Zz (b:=bd) (o:=0) (k:=t) (j:=(t:Int)) rfl rfl (by omega) (by omega)<|Vp (b:=bd) (o:=0+t * 2) rfl rfl hc hlb rfl rfl (by rw [XH (z:=2) (fun _=>rfl)];omega) ?_
    intro H2 kH2 nH2 sH2 tH2
    have mH2:=kH2.1
    have hk:=hk.put kH2 tH2
    have hc:Cl H2 bd (cG (fun x=>[iv (v x),iv (u x)]) n (upd (mvR g a t) t ((mvR g a t) (t+1)))):=by rw [← VH (z:=2) (fun _=>rfl) (by omega)];exact sH2
    refine Zz (b:=bd) (o:=0) (k:=t+1) (j:=(t:Int)+1) rfl rfl (by omega) (by omega)<|Vp (b:=bd) (o:=0+(t+1) * 2) rfl rfl hc hlb rfl rfl (by rw [XH (z:=2) (fun _=>rfl)];omega) ?_
    intro H3 kH3 nH3 sH3 tH3
    have mH3:=kH3.1
    have hk:=hk.put kH3 tH3
    have hc:Cl H3 bd (cG (fun x=>[iv (v x),iv (u x)]) n (upd (upd (mvR g a t) t ((mvR g a t) (t+1))) (t+1) ((mvR g a t) t))):=by rw [← VH (z:=2) (fun _=>rfl) (by omega)];exact sH3
    have hc:Cl H3 bd (cG (fun x=>[iv (v x),iv (u x)]) n (swp (mvR g a t) t (t+1))):=hc
    refine ZN (by repeat' first | exact True.intro | exact (fun h=>h) | refine And.intro ?_ ?_ | (intro h;have h:(_:Nat)=_:=h;omega)) ?_
    show Zp _ _ _ _ _ _ _ _
    refine Za rfl<|Zy (a:=(t:Int)) (b:=1) rfl rfl ⟨by omega,by omega⟩<|Za rfl<|Zb ?_
    rw [QU (by omega)] at hc
    exact ⟨k - 1,t+1,by omega,⟨by omega,by omega,by rw [← QU (by omega)];exact hp.trans (PRm.swap (by omega) (by omega) (by omega) (by omega)),hk,hc⟩,rfl,rfl,ivq (by omega),trivial⟩
   ·have q4:¬ ((t:Int) < ((i:Int) - 1)):=of_decide_eq_false q4
    first | (refine ZC ?_;show wC _ _ _ _ _ _ _ _ _) | skip
    have eti:t=i - 1:=by omega
    rw [eti] at hp hc
    exact And.intro trivial (Exists.intro _ (And.intro rfl ⟨rfl,_,hp,zJ hp2 hcr hi1 hi3 hlw hup,hk,hc⟩))
 ·have q1:¬ (((m:Int) - (a:Int))=1):=by simpa using q1
  first | refine Zl ?_ | skip
  refine Zc<|Za rfl<|Za rfl<|ZZ (a:=(b:Int)) (b:=(m:Int)) rfl rfl ⟨by omega,by omega⟩<|QT (a:=(b:Int) - (m:Int)) (b:=1) rfl rfl<|Zb ?_
  refine And.intro (fun q5=>?_) (fun q5=>?_)
  ·have q5:((b:Int) - (m:Int))=1:=by simpa using q5
   refine Zc<|Za rfl<|Za rfl<|Zb<|Zc<|Za rfl<|Za rfl<|Zb ?_
   refine Zx (fn:=Try.f84) ZhK N84 Zhl (fun x:Nat × Nat=>[(0,.slice (some ⟨bd,0,none⟩) n cap),(1,iv (a:Int)),(2,iv (m:Int)),(3,iv (b:Int)),(4,.func (.func fc) #[] caps),(14,iv (x.1:Int)),(15,iv (x.2:Int))])
    (fun k x H'=>k=x.2 - x.1∧a≤x.1∧x.1≤x.2∧x.2≤m∧(∀ p,a≤p→p < x.1→¬ key (g m) < key (g p))∧(∀ p,x.2≤p→p < m→key (g m) < key (g p))∧KT bd H H'∧Cl H' bd (cG (fun x=>[iv (v x),iv (u x)]) n g)) _ (a,m) ⟨rfl,Nat.le_refl _,by simp only [];omega,Nat.le_refl _,fun p p1 p2=>absurd p2 (by simp only [];omega),fun p p1 p2=>absurd p2 (by simp only [] at p1;omega),hk,hc⟩ ⟨rfl,rfl,rfl,rfl,rfl,rfl,rfl,trivial⟩ ?_
   rintro k ⟨i,j⟩ L1 ⟨rfl,hi1,hi2,hi3,hlw,hup,hk,hc⟩
   simp only [] at hi1 hi2 hi3 hlw hup
   have hdm:=hd
   refine Zc<|Za rfl<|Za rfl<|ZF (a:=(i:Int)) (b:=(j:Int)) rfl rfl<|Zb ?_
   refine And.intro (fun q6=>?_) (fun q6=>?_)
   ·have q6:(i:Int) < (j:Int):=of_decide_eq_true q6
    first | refine Zl ?_ | skip
    refine Zc<|Za rfl<|Za rfl<|Zy (a:=(i:Int)) (b:=(j:Int)) rfl rfl ⟨by omega,by omega⟩ ?_
    obtain ⟨h7,eh7⟩:∃ h:Nat,h=(i+j) / 2:=⟨_,rfl⟩
    refine Zg (v:=.int .u64 ((i+j:Nat):Int)) rfl (K5 (n:=i+j) (j:=(i:Int)+(j:Int)) (by omega) rfl (by omega))<|Zg (v:=.int .u64 ((h7:Nat):Int)) rfl (by rw [eh7];exact U1 (m:=i+j) (d:=1) (by decide) rfl rfl)<|Zg (v:=iv (h7:Int)) rfl (yF (n:=h7) (j:=(h7:Int)) (by omega) rfl rfl)<|Za rfl<|Zb<|YV<|Zf rfl<|Zf rfl<|Zf rfl<|Zz (b:=bd) (o:=0) (k:=m) (j:=(m:Int)) rfl rfl (by omega) (by omega)<|YJ (b:=bd) (o:=0+m * 2) rfl hc.rd (Xs (z:=2) (fun _=>rfl) (by omega))<|Zf rfl<|Zf rfl<|Zz (b:=bd) (o:=0) (k:=h7) (j:=(h7:Int)) rfl rfl (by omega) (by omega)<|YJ (b:=bd) (o:=0+h7 * 2) rfl hc.rd (Xs (z:=2) (fun _=>rfl) (by omega)) ?_
    obtain ⟨rH4,H4,fH4,kH4,qH4⟩:=hcmp L1 hk.kp (g m) (g h7) (hdm _ (by omega)) (hdm _ (by omega))
    refine Yr (vs:=[.agg #[iv (v (g m)),iv (u (g m))],.agg #[iv (v (g h7)),iv (u (g h7))]]) rfl fH4 ?_
    have mH4:=kH4.1
    have hc:=kH4.cl hc (by simp)
    have hk:=hk.keep kH4
    refine Vc (a:=rH4) (b:=0) rfl rfl<|XF (v:=.bool (!(decide (rH4 < 0)))) rfl rfl ?_
    refine ZN (by repeat' first | exact True.intro | exact (fun h=>h) | refine And.intro ?_ ?_ | (intro h;have h:(_:Nat)=_:=h;omega)) ?_
    refine And.intro (fun q7=>?_) (fun q7=>?_)
    ·have q7:¬ (rH4 < 0):=by simpa using q7
     show Zp _ _ _ _ _ _ _ _
     refine Za rfl<|Zy (a:=(h7:Int)) (b:=1) rfl rfl ⟨by omega,by omega⟩<|Za rfl<|Zb ?_
     exact ⟨_,(h7+1,j),by simp only [];omega,⟨rfl,by simp only [];omega,by simp only [];omega,hi3,fun p p1 p2 hh=>by have y:=hp1.le (i:=p) (j:=h7) p1 (by omega) (by omega);have z:=qH4.2 (by omega);omega,hup,hk,hc⟩,rfl,rfl,rfl,rfl,rfl,ivq (by simp only [];omega),rfl,trivial⟩
    ·have q7:¬ (¬ (rH4 < 0)):=by simpa using q7
     show Zp _ _ _ _ _ _ _ _
     refine Za rfl<|Za rfl<|Zb ?_
     exact ⟨_,(i,h7),by simp only [];omega,⟨rfl,hi1,by simp only [];omega,by simp only [];omega,hlw,fun p p1 p2=>by have z:=qH4.1 (by omega);have y:=hp1.le (i:=h7) (j:=p) (by omega) p1 (by omega);omega,hk,hc⟩,rfl,rfl,rfl,rfl,rfl,rfl,ivq (by simp only []),trivial⟩
   ·have q6:¬ ((i:Int) < (j:Int)):=of_decide_eq_false q6
    first | (refine ZC ?_;show wC _ _ _ _ _ _ _ _ _) | skip
    refine Zc<|Za rfl<|Za rfl<|Zb ?_
    obtain rfl:i=j:=by omega
    obtain rfl:b=m+1:=by omega
    refine Zx (fn:=Try.f84) ZhE N84 ZgY (fun t:Nat=>[(0,.slice (some ⟨bd,0,none⟩) n cap),(14,iv (i:Int)),(17,iv (t:Int))])
     (fun k t H'=>k=t∧i≤t∧t≤m∧PRm a (m+1) g (mvL g m t)∧KT bd H H'∧Cl H' bd (cG (fun x=>[iv (v x),iv (u x)]) n (mvL g m t))) m m ⟨rfl,by omega,Nat.le_refl _,by rw [QX];exact PRm.refl _ _ _,hk,by rw [QX];exact hc⟩ ⟨rfl,rfl,rfl,trivial⟩ ?_
    rintro k t L2 ⟨hkt,ht,ht2,hp,hk,hc⟩
    refine Zc<|Za rfl<|Za rfl<|WZ (a:=(t:Int)) (b:=(i:Int)) rfl rfl<|Zb ?_
    refine And.intro (fun q8=>?_) (fun q8=>?_)
    ·have q8:(t:Int) > (i:Int):=of_decide_eq_true q8
     first | refine Zl ?_ | skip
     first | refine Z2 ?_ | refine Wm ?_ | refine Vt ?_ | (refine YO ?_;refine Z2 ?_)
     refine Zf rfl<|Zf rfl<|Zf rfl<|Zf rfl<|Xk (a:=(t:Int)) (b:=1) rfl rfl ⟨by omega,by omega⟩<|Zf rfl<|Zf rfl<|Xk (a:=(t:Int)) (b:=1) rfl rfl ⟨by omega,by omega⟩<|Zz (b:=bd) (o:=0) (k:=t - 1) (j:=(t:Int) - 1) rfl rfl (by omega) (by omega)<|YJ (b:=bd) (o:=0+(t - 1) * 2) rfl hc.rd (Xs (z:=2) (fun _=>rfl) (by omega))<|Zf rfl<|Zf rfl<|Zz (b:=bd) (o:=0) (k:=t) (j:=(t:Int)) rfl rfl (by omega) (by omega)<|YJ (b:=bd) (o:=0+t * 2) rfl hc.rd (Xs (z:=2) (fun _=>rfl) (by omega))<|Zz (b:=bd) (o:=0) (k:=t) (j:=(t:Int)) rfl rfl (by omega) (by omega)<|Vp (b:=bd) (o:=0+t * 2) rfl rfl hc hlb rfl rfl (by rw [XH (z:=2) (fun _=>rfl)];omega) ?_
     intro H5 kH5 nH5 sH5 tH5
     have mH5:=kH5.1
     have hk:=hk.put kH5 tH5
     have hc:Cl H5 bd (cG (fun x=>[iv (v x),iv (u x)]) n (upd (mvL g m t) t ((mvL g m t) (t - 1)))):=by rw [← VH (z:=2) (fun _=>rfl) (by omega)];exact sH5
     refine Zz (b:=bd) (o:=0) (k:=t - 1) (j:=(t:Int) - 1) rfl rfl (by omega) (by omega)<|Vp (b:=bd) (o:=0+(t - 1) * 2) rfl rfl hc hlb rfl rfl (by rw [XH (z:=2) (fun _=>rfl)];omega) ?_
     intro H6 kH6 nH6 sH6 tH6
     have mH6:=kH6.1
     have hk:=hk.put kH6 tH6
     have hc:Cl H6 bd (cG (fun x=>[iv (v x),iv (u x)]) n (upd (upd (mvL g m t) t ((mvL g m t) (t - 1))) (t - 1) ((mvL g m t) t))):=by rw [← VH (z:=2) (fun _=>rfl) (by omega)];exact sH6
     have hc:Cl H6 bd (cG (fun x=>[iv (v x),iv (u x)]) n (swp (mvL g m t) t (t - 1))):=hc
     refine ZN (by repeat' first | exact True.intro | exact (fun h=>h) | refine And.intro ?_ ?_ | (intro h;have h:(_:Nat)=_:=h;omega)) ?_
     show Zp _ _ _ _ _ _ _ _
     refine Za rfl<|ZZ (a:=(t:Int)) (b:=1) rfl rfl ⟨by omega,by omega⟩<|Za rfl<|Zb ?_
     rw [Jb (by omega) (by omega)] at hc
     exact ⟨t - 1,t - 1,by omega,⟨rfl,by omega,by omega,by rw [← Jb (by omega) (by omega)];exact hp.trans (PRm.swap (by omega) (by omega) (by omega) (by omega)),hk,hc⟩,rfl,rfl,ivq (by omega),trivial⟩
    ·have q8:¬ ((t:Int) > (i:Int)):=of_decide_eq_false q8
     first | (refine ZC ?_;show wC _ _ _ _ _ _ _ _ _) | skip
     have eti:t=i:=by omega
     rw [eti] at hp hc
     exact And.intro trivial (Exists.intro _ (And.intro rfl ⟨rfl,_,hp,jz hp1 hcr hi1 hi3 hlw hup,hk,hc⟩))
  ·have q5:¬ (((b:Int) - (m:Int))=1):=by simpa using q5
   first | refine Zl ?_ | skip
   refine Zc<|Za rfl<|Za rfl<|Zy (a:=(a:Int)) (b:=(b:Int)) rfl rfl ⟨by omega,by omega⟩ ?_
   obtain ⟨h8,eh8⟩:∃ h:Nat,h=(a+b) / 2:=⟨_,rfl⟩
   refine Zg (v:=.int .u64 ((a+b:Nat):Int)) rfl (K5 (n:=a+b) (j:=(a:Int)+(b:Int)) (by omega) rfl (by omega))<|Zg (v:=.int .u64 ((h8:Nat):Int)) rfl (by rw [eh8];exact U1 (m:=a+b) (d:=1) (by decide) rfl rfl)<|Zg (v:=iv (h8:Int)) rfl (yF (n:=h8) (j:=(h8:Int)) (by omega) rfl rfl)<|Za rfl<|Zb<|Zc<|Za rfl<|Za rfl<|Zy (a:=(h8:Int)) (b:=(m:Int)) rfl rfl ⟨by omega,by omega⟩<|Za rfl<|Zb<|Zc<|Za rfl<|Za rfl<|Zb<|Zc<|Za rfl<|Za rfl<|WZ (a:=(m:Int)) (b:=(h8:Int)) rfl rfl<|Zb ?_
   refine And.intro (fun q9=>?_) (fun q9=>?_)
   ·have q9:(m:Int) > (h8:Int):=of_decide_eq_true q9
    refine Zc<|Za rfl<|Za rfl<|ZZ (a:=(h8:Int)+(m:Int)) (b:=(b:Int)) rfl rfl ⟨by omega,by omega⟩<|Za rfl<|Zb<|Zc<|Za rfl<|Za rfl<|Zb ?_
    refine Zfc (mid:=h8) (nn:=h8+m) (s0:=(h8+m) - b) (r0:=h8) hlb hn hlo hk hc (fun H1 a m b g k=>ih H1 a m b g (hk0.trans k)) hcmp ham hmb hb hM eh8 rfl (.inl ⟨by omega,by omega,rfl⟩) (by omega) hd hp1 hp2 hcr (by exact ⟨rfl,rfl,rfl,rfl,rfl,rfl,ivq (by omega),ivq (by omega),ivq (by omega),trivial⟩) ?_
    intro H' S' g' p' s' k' c'
    exact And.intro trivial (Exists.intro _ (And.intro rfl ⟨rfl,g',p',s',k',c'⟩))
   ·have q9:¬ ((m:Int) > (h8:Int)):=of_decide_eq_false q9
    refine Zc<|Za rfl<|Za rfl<|Zb<|Zc<|Za rfl<|Za rfl<|Zb ?_
    refine Zfc (mid:=h8) (nn:=h8+m) (s0:=a) (r0:=m) hlb hn hlo hk hc (fun H1 a m b g k=>ih H1 a m b g (hk0.trans k)) hcmp ham hmb hb hM eh8 rfl (.inr ⟨by omega,rfl,rfl⟩) (by omega) hd hp1 hp2 hcr (by exact ⟨rfl,rfl,rfl,rfl,rfl,rfl,ivq (by omega),ivq (by omega),ivq (by omega),trivial⟩) ?_
    intro H' S' g' p' s' k' c'
    exact And.intro trivial (Exists.intro _ (And.intro rfl ⟨rfl,g',p',s',k',c'⟩))
theorem yA {bd cap n:Nat} {v u:Nat→Int} {Hr:Hp} (hlo:lo≤Hr.next) (hlb:lo≤bd) (hn:n≤1000000) {fc:FuncId} {caps:Array Value} {key:Nat→Int} (hcmp:V9 Try.prog kn lo bd fc caps (fun x=>.agg #[iv (v x),iv (u x)]) n key Hr):∀ (M:Nat) (H1:Hp) (a m b:Nat) (g:Nat→Nat),KT bd Hr H1→a < m→m < b→b≤n→b - a < M→(∀ k,k < n→g k < n)→So key a m g→So key m b g→Cr a m b g→Cl H1 bd (cG (fun x=>[iv (v x),iv (u x)]) n g)→∃ H' g',FnX Try.prog kn lo 84 [.slice (some ⟨bd,0,none⟩) n cap,iv (a:Int),iv (m:Int),iv (b:Int),.func (.func fc) #[] caps] H1 (.tuple #[]) H'∧PRm a b g g'∧So key a b g'∧KT bd H1 H'∧Cl H' bd (cG (fun x=>[iv (v x),iv (u x)]) n g')
 | 0,_,_,_,_,_,_,_,_,_,h,_,_,_,_,_=>absurd h (Nat.not_lt_zero _)
 | M+1,_,_,_,_,_,hk,ham,hmb,hb,hM,hd,hp1,hp2,hcr,hc=>ZbB (Nat.le_trans hlo hk.1) hlb hn hk hc (yA hlo hlb hn hcmp M) hcmp ham hmb hb (Nat.le_of_lt_succ hM) hd hp1 hp2 hcr
end
end
end Go.Ax

/-
 Pool: sorting that keeps the order: blocks (written by program).
-/
namespace Go.Ax
open Go Go.RowKit Go.Proofs

noncomputable section
section
variable {kn:Kn} {lo:Nat} {H:Hp}
set_option maxRecDepth 100000 in
set_option maxHeartbeats 2000000 in
theorem Zaz (hlo:lo≤H.next) {bd cap n:Nat} {v u:Nat→Int} (hlb:lo≤bd) (hn:n≤160) (hc:Cl H bd (cG (fun x=>[iv (v x),iv (u x)]) n fun i=>i)) {fc:FuncId} {caps:Array Value} {key:Nat→Int} (hcmp:V9 Try.prog kn lo bd fc caps (fun x=>.agg #[iv (v x),iv (u x)]) n key H):∃ H' g',FnX Try.prog kn lo 75 [.slice (some ⟨bd,0,none⟩) n cap,iv (n:Int),.func (.func fc) #[] caps] H (.tuple #[]) H'∧PRm 0 n (fun i=>i) g'∧So key 0 n g'∧KT bd H H'∧Cl H' bd (cG (fun x=>[iv (v x),iv (u x)]) n g'):=by
 have key_:=Zr (kn:=kn) (lo:=lo) (H:=H) (args:=[.slice (some ⟨bd,0,none⟩) n cap,iv (n:Int),.func (.func fc) #[] caps]) (Q:=fun w H'=>w=.tuple #[]∧∃ g',PRm 0 n (fun i=>i) g'∧So key 0 n g'∧KT bd H H'∧Cl H' bd (cG (fun x=>[iv (v x),iv (u x)]) n g')) Try.func75 B75 N75 Z75 L75 (by simp) ?_
 ·obtain ⟨w,H',h,rfl,g',r⟩:=key_;exact ⟨H',g',h,r⟩
 have hk:=KT.refl (H:=H) hc.1
 refine Zc<|Za rfl<|Zb<|Zc<|Za rfl<|Za rfl<|Za rfl<|Zb ?_
 refine Zx (fn:=Try.f75) Zfx N75 Zfo (fun a:Nat=>[(0,.slice (some ⟨bd,0,none⟩) n cap),(1,iv (n:Int)),(2,.func (.func fc) #[] caps),(6,iv 20),(7,iv (a:Int)),(8,iv ((a:Int)+20))])
  (fun k a H'=>k=n - a∧a % 20=0∧a≤n∧∃ g',Bk0 key a n g'∧PRm 0 n (fun i=>i) g'∧KT bd H H'∧Cl H' bd (cG (fun x=>[iv (v x),iv (u x)]) n g')) _ 0 ⟨rfl,rfl,Nat.zero_le _,fun i=>i,Bk0.init n,PRm.refl _ _ _,hk,hc⟩ ⟨rfl,rfl,rfl,rfl,rfl,rfl,trivial⟩ ?_
 rintro k a L1 ⟨rfl,ha,han,gx,hB,hp,hk,hc⟩
 refine Zc<|Za rfl<|Za rfl<|W2 (a:=((a:Int)+20)) (b:=(n:Int)) rfl rfl<|Zb ?_
 refine And.intro (fun q1=>?_) (fun q1=>?_)
 ·have q1:((a:Int)+20)≤(n:Int):=of_decide_eq_true q1
  first | refine Zl ?_ | skip
  refine Zc<|Za rfl<|Za rfl<|Za rfl<|Za rfl ?_
  obtain ⟨H1,gH1,fH1,pH1,sH1,kH1,cH1⟩:=Zbc (kn:=kn) (lo:=lo) (H:=L1) (by have:=hk.1;omega) hlb (by omega) (cap:=cap) hc (hp.dom (fun k q=>q) (Nat.le_refl _)) (hcmp.from hk.kp) (a:=a) (b:=(a+20)) (by omega) (by omega) (fun i j q1 q2 q3=>hB.ids i j q1 q2)
  refine Zs (vs:=[.slice (some ⟨bd,0,none⟩) n cap,iv (a:Int),iv ((a:Int)+20),.func (.func fc) #[] caps]) rfl (by have q:=Zh fH1;rw [show (((a+20):Nat):Int)=((a:Int)+20) by omega] at q;exact q) ?_
  have mH1:=kH1.1
  have hk:=hk.trans kH1
  have hc:=cH1
  have hp:=hp.trans (pH1.mono (by omega) (by omega) (by omega))
  have hB:=hB.step ha (by omega) (by omega) pH1 sH1
  refine Zb<|Zc<|Za rfl<|Za rfl<|Zb ?_
  show Zp _ _ _ _ _ _ _ _
  refine Za rfl<|Za rfl<|Zy (a:=((a:Int)+20)) (b:=20) rfl rfl ⟨by omega,by omega⟩<|Za rfl<|Zb ?_
  exact ⟨_,a+20,by omega,⟨rfl,by omega,by omega,_,hB,hp,hk,hc⟩,rfl,rfl,rfl,rfl,ivq (by omega),ivq (by omega),trivial⟩
 ·have q1:¬ (((a:Int)+20)≤(n:Int)):=of_decide_eq_false q1
  first | (refine ZC ?_;show wC _ _ _ _ _ _ _ _ _) | skip
  refine Zc<|Za rfl<|Za rfl<|Za rfl<|Za rfl ?_
  obtain ⟨H2,gH2,fH2,pH2,sH2,kH2,cH2⟩:=Zbc (kn:=kn) (lo:=lo) (H:=L1) (by have:=hk.1;omega) hlb (by omega) (cap:=cap) hc (hp.dom (fun k q=>q) (Nat.le_refl _)) (hcmp.from hk.kp) (a:=a) (b:=n) (by omega) (by omega) (fun i j q1 q2 q3=>hB.ids i j q1 q2)
  refine Zs (vs:=[.slice (some ⟨bd,0,none⟩) n cap,iv (a:Int),iv (n:Int),.func (.func fc) #[] caps]) rfl (Zh fH2) ?_
  have mH2:=kH2.1
  have hk:=hk.trans kH2
  have hc:=cH2
  have hp:=hp.trans (pH2.mono (by omega) (by omega) (by omega))
  have hB:=hB.step ha (by omega) (by omega) pH2 sH2
  refine Zb ?_
  have hB:=hB.low (Nat.le_refl _)
  refine Zx (fn:=Try.f75) Ze7 N75 ZfB (fun bs:Nat=>[(0,.slice (some ⟨bd,0,none⟩) n cap),(1,iv (n:Int)),(2,.func (.func fc) #[] caps),(6,iv (bs:Int))])
   (fun k bs H'=>k=400 - bs∧(Bs bs∨bs=160)∧∃ g',Bk key bs 0 n g'∧PRm 0 n (fun i=>i) g'∧KT bd H H'∧Cl H' bd (cG (fun x=>[iv (v x),iv (u x)]) n g')) _ 20 ⟨rfl,.inl (.inl rfl),_,hB,hp,hk,hc⟩ ⟨rfl,rfl,rfl,rfl,trivial⟩ ?_
  rintro k bs L2 ⟨rfl,hbs,gy,hB,hp,hk,hc⟩
  refine Zc<|Za rfl<|Za rfl<|ZF (a:=(bs:Int)) (b:=(n:Int)) rfl rfl<|Zb ?_
  refine And.intro (fun q2=>?_) (fun q2=>?_)
  ·have q2:(bs:Int) < (n:Int):=of_decide_eq_true q2
   first | refine Zl ?_ | skip
   refine Zc<|Za rfl<|VJ (a:=2) (b:=(bs:Int)) rfl rfl ⟨by omega,by omega⟩<|Za rfl<|Za rfl<|Zb ?_
   have hbs:Bs bs:=hbs.resolve_right (by omega)
   have hb0:20≤bs:=by unfold Bs at hbs;omega
   have hB:=hB.init2
   refine Zx (fn:=Try.f75) ZiG N75 Zhy (fun a:Nat=>[(0,.slice (some ⟨bd,0,none⟩) n cap),(1,iv (n:Int)),(2,.func (.func fc) #[] caps),(6,iv (bs:Int)),(7,iv (a:Int)),(8,iv ((a:Int)+2 * (bs:Int)))])
    (fun k a H'=>k=n - a∧a % (2 * bs)=0∧a≤n∧∃ g',Bk2 key bs a n g'∧PRm 0 n (fun i=>i) g'∧KT bd H H'∧Cl H' bd (cG (fun x=>[iv (v x),iv (u x)]) n g')) _ 0 ⟨rfl,Nat.zero_mod _,Nat.zero_le _,_,hB,hp,hk,hc⟩ ⟨rfl,rfl,rfl,rfl,rfl,ivq (by omega),trivial⟩ ?_
   rintro k a L3 ⟨rfl,ha,han,gz,hB,hp,hk,hc⟩
   refine Zc<|Za rfl<|Za rfl<|W2 (a:=((a:Int)+2 * (bs:Int))) (b:=(n:Int)) rfl rfl<|Zb ?_
   refine And.intro (fun q3=>?_) (fun q3=>?_)
   ·have q3:((a:Int)+2 * (bs:Int))≤(n:Int):=of_decide_eq_true q3
    first | refine Zl ?_ | skip
    refine Zc<|Za rfl<|Za rfl<|Za rfl<|Za rfl<|Zy (a:=(a:Int)) (b:=(bs:Int)) rfl rfl ⟨by omega,by omega⟩<|Za rfl<|Za rfl ?_
    obtain ⟨q1H3,q2H3,q3H3⟩:=hB.hi.part hbs (Zek hbs ha) (m:=a+bs) (b:=(a+2 * bs)) (by omega) (by omega) (by omega) (by omega)
    obtain ⟨H3,gH3,fH3,pH3,sH3,kH3,cH3⟩:=yA (kn:=kn) (lo:=lo) hlo hlb (by omega) (cap:=cap) hcmp ((a+2 * bs) - a+1) L3 (a) (a+bs) ((a+2 * bs)) gz hk (by omega) (by omega) (by omega) (by omega) (hp.dom (fun k q=>q) (Nat.le_refl _)) q1H3 q2H3 q3H3 hc
    refine Zs (vs:=[.slice (some ⟨bd,0,none⟩) n cap,iv (a:Int),iv ((a:Int)+(bs:Int)),iv ((a:Int)+2 * (bs:Int)),.func (.func fc) #[] caps]) rfl (by have q:=Zh fH3;rw [show ((a+bs:Nat):Int)=(a:Int)+(bs:Int) by omega] at q;rw [show (((a+2 * bs):Nat):Int)=((a:Int)+2 * (bs:Int)) by omega] at q;exact q) ?_
    have mH3:=kH3.1
    have hk:=hk.trans kH3
    have hc:=cH3
    have hp:=hp.trans (pH3.mono (by omega) (by omega) (by omega))
    refine Zb<|Zc<|Za rfl<|Za rfl<|Zb ?_
    show Zp _ _ _ _ _ _ _ _
    refine Za rfl<|Za rfl<|VJ (a:=2) (b:=(bs:Int)) rfl rfl ⟨by omega,by omega⟩<|Zy (a:=((a:Int)+2 * (bs:Int))) (b:=2 * (bs:Int)) rfl rfl ⟨by omega,by omega⟩<|Za rfl<|Zb ?_
    obtain ⟨hB,ha⟩:=hB.next hbs ha (b:=a+2 * bs) rfl (by omega) pH3 sH3
    exact ⟨_,a+2 * bs,by omega,⟨rfl,ha,by omega,_,hB,hp,hk,hc⟩,rfl,rfl,rfl,rfl,ivq (by omega),ivq (by omega),trivial⟩
   ·have q3:¬ (((a:Int)+2 * (bs:Int))≤(n:Int)):=of_decide_eq_false q3
    first | (refine ZC ?_;show wC _ _ _ _ _ _ _ _ _) | skip
    refine Zc<|Za rfl<|Za rfl<|Zy (a:=(a:Int)) (b:=(bs:Int)) rfl rfl ⟨by omega,by omega⟩<|Za rfl<|Zb<|Zc<|Za rfl<|Za rfl<|ZF (a:=(a:Int)+(bs:Int)) (b:=(n:Int)) rfl rfl<|Zb ?_
    refine And.intro (fun q4=>?_) (fun q4=>?_)
    ·have q4:((a:Int)+(bs:Int)) < (n:Int):=of_decide_eq_true q4
     refine Zc<|Za rfl<|Za rfl<|Za rfl<|Za rfl<|Za rfl ?_
     obtain ⟨q1H4,q2H4,q3H4⟩:=hB.hi.part hbs (Zek hbs ha) (m:=a+bs) (b:=n) (by omega) (by omega) (by omega) (by omega)
     obtain ⟨H4,gH4,fH4,pH4,sH4,kH4,cH4⟩:=yA (kn:=kn) (lo:=lo) hlo hlb (by omega) (cap:=cap) hcmp (n - a+1) L3 (a) (a+bs) (n) gz hk (by omega) (by omega) (by omega) (by omega) (hp.dom (fun k q=>q) (Nat.le_refl _)) q1H4 q2H4 q3H4 hc
     refine Zs (vs:=[.slice (some ⟨bd,0,none⟩) n cap,iv (a:Int),iv ((a:Int)+(bs:Int)),iv (n:Int),.func (.func fc) #[] caps]) rfl (by have q:=Zh fH4;rw [show ((a+bs:Nat):Int)=(a:Int)+(bs:Int) by omega] at q;exact q) ?_
     have mH4:=kH4.1
     have hk:=hk.trans kH4
     have hc:=cH4
     have hp:=hp.trans (pH4.mono (by omega) (by omega) (by omega))
     refine Zb ?_
     show Zp _ _ _ _ _ _ _ _
     have hB2:=hB.step hbs ha (by omega) (by omega) (Nat.le_refl _) pH4 sH4
     refine Za rfl<|VJ (a:=(bs:Int)) (b:=2) rfl rfl ⟨by omega,by omega⟩<|Za rfl<|Zb ?_
     exact ⟨_,2 * bs,by unfold Bs at hbs;omega,⟨rfl,by unfold Bs at hbs ⊢;omega,_,hB2,hp,hk,hc⟩,rfl,rfl,rfl,ivq (by omega),trivial⟩
    ·have q4:¬ (((a:Int)+(bs:Int)) < (n:Int)):=of_decide_eq_false q4
     have hB2:=hB.last hbs ha han (by omega)
     first | refine Zl ?_ | skip
     show Zp _ _ _ _ _ _ _ _
     refine Za rfl<|VJ (a:=(bs:Int)) (b:=2) rfl rfl ⟨by omega,by omega⟩<|Za rfl<|Zb ?_
     exact ⟨_,2 * bs,by unfold Bs at hbs;omega,⟨rfl,by unfold Bs at hbs ⊢;omega,_,hB2,hp,hk,hc⟩,rfl,rfl,rfl,ivq (by omega),trivial⟩
  ·have q2:¬ ((bs:Int) < (n:Int)):=of_decide_eq_false q2
   first | (refine ZC ?_;show wC _ _ _ _ _ _ _ _ _) | skip
   exact And.intro trivial (Exists.intro _ (And.intro rfl ⟨rfl,gy,hp,hB.all (by omega),hk,hc⟩))
set_option maxRecDepth 100000 in
set_option maxHeartbeats 2000000 in
theorem Zez (hlo:lo≤H.next) {bd cap n:Nat} {v u:Nat→Int} (hlb:lo≤bd) (hn:n≤160) (hc:Cl H bd (cG (fun x=>[iv (v x),iv (u x)]) n fun i=>i)) {fc:FuncId} {caps:Array Value} {key:Nat→Int} (hcmp:V9 Try.prog kn lo bd fc caps (fun x=>.agg #[iv (v x),iv (u x)]) n key H):∃ H' g',FnX Try.prog kn lo 62 [.slice (some ⟨bd,0,none⟩) n cap,.func (.func fc) #[] caps] H (.tuple #[]) H'∧PRm 0 n (fun i=>i) g'∧So key 0 n g'∧KT bd H H'∧Cl H' bd (cG (fun x=>[iv (v x),iv (u x)]) n g'):=by
 have key_:=Zr (kn:=kn) (lo:=lo) (H:=H) (args:=[.slice (some ⟨bd,0,none⟩) n cap,.func (.func fc) #[] caps]) (Q:=fun w H'=>w=.tuple #[]∧∃ g',PRm 0 n (fun i=>i) g'∧So key 0 n g'∧KT bd H H'∧Cl H' bd (cG (fun x=>[iv (v x),iv (u x)]) n g')) Try.func62 B62 N62 Z62 L62 (by simp) ?_
 ·obtain ⟨w,H',h,rfl,g',r⟩:=key_;exact ⟨H',g',h,r⟩
 have hk:=KT.refl (H:=H) hc.1
 show Zp _ _ _ _ _ _ _ _
 refine Za rfl<|Za rfl<|YG (m:=n) rfl<|Za rfl ?_
 obtain ⟨H1,gH1,fH1,pH1,sH1,kH1,cH1⟩:=Zaz (kn:=kn) (lo:=lo) (H:=H) hlo hlb hn (cap:=cap) hc hcmp
 refine Zs (vs:=[.slice (some ⟨bd,0,none⟩) n cap,iv (n:Int),.func (.func fc) #[] caps]) rfl (Zh fH1) ?_
 have hk:=kH1;have hc:=cH1
 refine Zb ?_
 exact And.intro trivial (Exists.intro _ (And.intro rfl ⟨rfl,gH1,pH1,sH1,hk,hc⟩))
theorem Zcn {cv:Value}:∃ H',FnX Try.prog kn lo 83 [.slice none 0 0,iv 0,iv 0,cv] H (.tuple #[]) H'∧Keep H H' []:=by
 have key_:=Zr (kn:=kn) (lo:=lo) (H:=H) (args:=[.slice none 0 0,iv 0,iv 0,cv]) (Q:=fun w H'=>w=.tuple #[]∧Keep H H' []) Try.func83 B83 N83 Z83 L83 (by simp) ?_
 ·obtain ⟨w,H',h,rfl,r⟩:=key_;exact ⟨H',h,r⟩
 have hk:=Keep.refl H []
 refine Zc<|Za rfl<|Zy (a:=0) (b:=1) rfl rfl ⟨by omega,by omega⟩<|Za rfl<|Zb ?_
 refine Zx (fn:=Try.f83) Ze8 N83 ZfG (fun _:Unit=>[(0,.slice none 0 0),(2,iv 0),(8,iv 1)])
  (fun k _ H'=>Keep H H' []) 0 () hk ⟨rfl,rfl,rfl,trivial⟩ ?_
 rintro k _ L1 hq
 have hk:=hq
 refine Zc<|Za rfl<|Za rfl<|ZF (a:=1) (b:=0) rfl rfl<|Zb<|ZR ?_
 first | (refine ZC ?_;show wC _ _ _ _ _ _ _ _ _) | skip
 exact And.intro trivial (Exists.intro _ (And.intro rfl ⟨rfl,hk⟩))
theorem jr {cv:Value}:∃ H',FnX Try.prog kn lo 75 [.slice none 0 0,iv 0,cv] H (.tuple #[]) H'∧Keep H H' []:=by
 have key_:=Zr (kn:=kn) (lo:=lo) (H:=H) (args:=[.slice none 0 0,iv 0,cv]) (Q:=fun w H'=>w=.tuple #[]∧Keep H H' []) Try.func75 B75 N75 Z75 L75 (by simp) ?_
 ·obtain ⟨w,H',h,rfl,r⟩:=key_;exact ⟨H',h,r⟩
 have hk:=Keep.refl H []
 refine Zc<|Za rfl<|Zb<|Zc<|Za rfl<|Za rfl<|Za rfl<|Zb ?_
 refine Zx (fn:=Try.f75) Zfx N75 Zfo (fun _:Unit=>[(0,.slice none 0 0),(1,iv 0),(2,cv),(6,iv 20),(7,iv 0),(8,iv 20)])
  (fun k _ H'=>Keep H H' []) 0 () hk ⟨rfl,rfl,rfl,rfl,rfl,rfl,trivial⟩ ?_
 rintro k _ L1 hq
 have hk:=hq
 refine Zc<|Za rfl<|Za rfl<|W2 (a:=20) (b:=0) rfl rfl<|Zb<|ZR ?_
 first | (refine ZC ?_;show wC _ _ _ _ _ _ _ _ _) | skip
 refine Zc<|Za rfl<|Za rfl<|Za rfl<|Za rfl ?_
 obtain ⟨H1,fH1,kH1⟩:=Zcn (kn:=kn) (lo:=lo) (H:=L1) (cv:=cv)
 refine Zs (vs:=[.slice none 0 0,iv 0,iv 0,cv]) rfl (Zh fH1) ?_
 have mH1:=kH1.1
 have hk:=hk.trans kH1
 refine Zb ?_
 refine Zx (fn:=Try.f75) Ze7 N75 ZfB (fun _:Unit=>[(0,.slice none 0 0),(1,iv 0),(2,cv),(6,iv 20)])
  (fun k _ H'=>Keep H H' []) 0 () hk ⟨rfl,rfl,rfl,rfl,trivial⟩ ?_
 rintro k _ L2 hq
 have hk:=hq
 refine Zc<|Za rfl<|Za rfl<|ZF (a:=20) (b:=0) rfl rfl<|Zb<|ZR ?_
 first | (refine ZC ?_;show wC _ _ _ _ _ _ _ _ _) | skip
 exact And.intro trivial (Exists.intro _ (And.intro rfl ⟨rfl,hk⟩))
theorem ZdE {cv:Value}:∃ H',FnX Try.prog kn lo 62 [.slice none 0 0,cv] H (.tuple #[]) H'∧Keep H H' []:=by
 have key_:=Zr (kn:=kn) (lo:=lo) (H:=H) (args:=[.slice none 0 0,cv]) (Q:=fun w H'=>w=.tuple #[]∧Keep H H' []) Try.func62 B62 N62 Z62 L62 (by simp) ?_
 ·obtain ⟨w,H',h,rfl,r⟩:=key_;exact ⟨H',h,r⟩
 have hk:=Keep.refl H []
 show Zp _ _ _ _ _ _ _ _
 refine Za rfl<|Za rfl<|YG (m:=0) rfl<|Za rfl ?_
 obtain ⟨H1,fH1,kH1⟩:=jr (kn:=kn) (lo:=lo) (H:=H) (cv:=cv)
 refine Zs (vs:=[.slice none 0 0,iv 0,cv]) rfl (Zh fH1) ?_
 have mH1:=kH1.1
 have hk:=hk.trans kH1
 refine Zb ?_
 exact And.intro trivial (Exists.intro _ (And.intro rfl ⟨rfl,hk⟩))
end
end
end Go.Ax

/-
 Pool: who is compared how;sorting by a number (64,48,61,66,63,74,47,60,46,53) (written by program).
-/
namespace Go.Ax
open Go Go.RowKit Go.Proofs

noncomputable section
theorem Zfz {n:Nat} {S:Rg} {x:Operand} {d:Option Tmp} {ty:TypeId} {p:String} {z:Int} (h1:-4611686018427387904≤z) (h2:z≤4611686018427387904) (hx:evS S x=some (iv z)):Zn Try.prog (frS n S) ⟨d,.unOp .neg 3 x,ty,p,#[],none⟩=some (iv (-z)):=by
 have e:∀ y:Int,ZB Try.prog (Op.unary .neg (.int .i64 y))=some (.int .i64 (IntKind.i64.wrap (0 - y))):=fun y=>by kernel_rfl
 unfold Zn
 simp only [Ym,hx,ZS,Xg,cond_true,e]
 rw [wrap_i64 (x:=0 - z) ⟨by omega,by omega⟩,Int.zero_sub]
def UX {α:Type} (l:List α) (d:α) (s:Nat→Nat):List α:=(List.range l.length).map fun i=>l.getD (s i) d
theorem jD {α:Type} {l:List α} {d:α} {s:Nat→Nat}:(UX l d s).length=l.length:=by simp [UX]
theorem ZdV {α:Type} {l:List α} {d:α}:UX l d (fun i=>i)=l:=by
 refine List.ext_getElem? fun i=>?_
 rcases Nat.lt_or_ge i l.length with q | q
 ·simp [UX,q]
 ·simp [UX,q]
theorem ye {α:Type} {l:List α} {d:α} {s:Nat→Nat} (p:PRm 0 l.length (fun i=>i) s):(UX l d s).Perm l:=by
 have e:∀ g:Nat→Nat,UX l d g=(rg g 0 l.length).map fun i=>l.getD i d:=fun g=>by
  unfold UX rg
  rw [List.map_map,List.range_eq_range']
  rfl
 have:=p.perm.map fun i=>l.getD i d
 rw [← e,← e,ZdV] at this
 exact this
theorem JU {α:Type} {l:List α} {d:α} {s:Nat→Nat} {f:α→Int} (h:So (fun i=>f (l.getD i d)) 0 l.length s):(UX l d s).Pairwise fun a b=>f a≤f b:=by
 rw [List.pairwise_iff_getElem]
 intro i j hi hj hij
 rw [jD] at hi hj
 have:f (l.getD (s i) d) < f (l.getD (s j) d)∨(f (l.getD (s i) d)=f (l.getD (s j) d)∧s i < s j):=h i j (Nat.zero_le _) hij hj
 simp only [UX,List.getElem_map,List.getElem_range]
 omega
theorem KG {α:Type} {l:List α} {d:α} {s:Nat→Nat} {e:α→List Value}:cG (fun i=>e (l.getD i d)) l.length s=(UX l d s).flatMap e:=by
 unfold cG UX
 rw [List.flatMap_map,List.flatMap_map]
section
variable {kn:Kn} {lo:Nat} {H:Hp}
theorem Qg {x y:Int}:∃ r H',FnX Try.prog kn lo 64 [iv x,iv y] H (iv r) H'∧(r < 0↔x < y)∧Keep H H' []:=by
 have key:=Zr (kn:=kn) (lo:=lo) (H:=H) (args:=[iv x,iv y]) (Q:=fun w H'=>∃ r,w=iv r∧(r < 0↔x < y)∧Keep H H' []) Try.func64 B64 N64 Z64 L64 (by simp) ?_
 ·obtain ⟨w,H',h,r,rfl,q⟩:=key;exact ⟨r,H',h,q⟩
 have hk:=Keep.refl H []
 refine Zc<|Za rfl<|Zb<|Zc<|Za rfl ?_
 obtain ⟨H1,fH1,kH1⟩:=j6 (kn:=kn) (lo:=lo) (H:=H) (x)
 refine Zs (vs:=[iv (x)]) rfl (Zh fH1) ?_
 have mH1:=kH1.1
 have hk:=hk.trans kH1
 refine Za rfl<|Zb<|Zc<|Za rfl ?_
 obtain ⟨H2,fH2,kH2⟩:=j6 (kn:=kn) (lo:=lo) (H:=H1) (y)
 refine Zs (vs:=[iv (y)]) rfl (Zh fH2) ?_
 have mH2:=kH2.1
 have hk:=hk.trans kH2
 refine Za rfl<|Zb<|Zc<|Za rfl<|Zb<|ZR ?_
 first | refine Zl ?_ | skip
 refine Zc<|Za rfl<|Zb<|ZR ?_
 first | refine Zl ?_ | skip
 refine Zc<|Za rfl<|Za rfl<|ZF (a:=x) (b:=y) rfl rfl<|Zb ?_
 refine And.intro (fun q1=>?_) (fun q1=>?_)
 ·have q1:x < y:=of_decide_eq_true q1
  refine Zc<|Za rfl<|Zb ?_
  exact And.intro trivial (Exists.intro _ (And.intro rfl ⟨-1,rfl,by omega,hk⟩))
 ·have q1:¬ (x < y):=of_decide_eq_false q1
  first | refine Zl ?_ | skip
  refine Zc<|Za rfl<|Za rfl<|WZ (a:=x) (b:=y) rfl rfl<|Zb ?_
  refine And.intro (fun q2=>?_) (fun q2=>?_)
  ·have q2:x > y:=of_decide_eq_true q2
   refine Zc<|Za rfl<|Zb ?_
   exact And.intro trivial (Exists.intro _ (And.intro rfl ⟨1,rfl,by omega,hk⟩))
  ·have q2:¬ (x > y):=of_decide_eq_false q2
   first | refine Zl ?_ | skip
   refine Zc<|Za rfl<|Zb ?_
   exact And.intro trivial (Exists.intro _ (And.intro rfl ⟨0,rfl,by omega,hk⟩))
theorem jn {a b:Int} (hlo:lo≤H.next):∃ H',FnX Try.prog kn lo 48 [.agg #[iv a,iv b]] H (iv a) H'∧Keep H H' []:=by
 have key:=Zr (kn:=kn) (lo:=lo) (H:=H) (args:=[.agg #[iv a,iv b]]) (Q:=fun w H'=>w=iv a∧Keep H H' []) Try.func48 B48 N48 Z48 L48 (by simp) ?_
 ·obtain ⟨w,H',h,rfl,q⟩:=key;exact ⟨H',h,q⟩
 have hk:=Keep.refl H []
 refine Zc<|Y7 (v:=.agg #[iv a,iv b]) rfl ?_
 intro H1 kH1 nH1 c1
 have c1:Cl H1 H.next [iv a,iv b]:=c1
 have mH1:=kH1.1
 have hk:=hk.trans kH1
 refine Za rfl<|Zb<|Zc<|ZK (b:=H.next) (o:=0) rfl<|Yq (b:=H.next) (o:=0) (v:=iv a) rfl c1.rd rfl<|Za rfl<|Zb ?_
 exact And.intro trivial (Exists.intro _ (And.intro rfl ⟨rfl,hk⟩))
theorem qQ {a:Int} (h0:0≤a) (h1:a≤1099511627776):∃ H',FnX Try.prog kn lo 61 [iv a] H (iv (-a)) H'∧Keep H H' []:=by
 have key:=Zr (kn:=kn) (lo:=lo) (H:=H) (args:=[iv a]) (Q:=fun w H'=>w=iv (-a)∧Keep H H' []) Try.func61 B61 N61 Z61 L61 (by simp) ?_
 ·obtain ⟨w,H',h,rfl,q⟩:=key;exact ⟨H',h,q⟩
 have hk:=Keep.refl H []
 refine Zc<|Za rfl<|Zb<|Zc<|Za rfl<|Zg (v:=iv (-(a))) rfl (Zfz (z:=a) (by omega) (by omega) rfl)<|Za rfl<|Zb ?_
 exact And.intro trivial (Exists.intro _ (And.intro rfl ⟨rfl,hk⟩))
set_option maxRecDepth 100000 in
theorem jO {ms:List Mb} {sa:Option Addr} {n cap:Nat} (hs:Sl H sa n cap (mbc ms)) (hl:ms.length=n) (hn:n≤400) (hm:∀ m∈ms,okM m) {tot all:Int} (ht0:0≤tot) (ht1:tot≤1048576) (ha0:0 < all) (ha1:all≤439804651110400) {t1 t2 t3:Nat} (r1:Rd H t1 [iv tot]) (r2:Rd H t2 [.slice sa n cap]) (r3:Rd H t3 [iv all]) (hlo:lo≤H.next) {x:Nat} (hx:x < n):∃ H',FnX Try.prog kn lo 66 [iv (x:Int),.pointer (some ⟨t1,0,none⟩),.pointer (some ⟨t2,0,none⟩),.pointer (some ⟨t3,0,none⟩)] H (iv (-(tot * (ms.getD x Mb.z).b % all))) H'∧Keep H H' []:=by
 have key:=Zr (kn:=kn) (lo:=lo) (H:=H) (args:=[iv (x:Int),.pointer (some ⟨t1,0,none⟩),.pointer (some ⟨t2,0,none⟩),.pointer (some ⟨t3,0,none⟩)]) (Q:=fun w H'=>w=iv (-(tot * (ms.getD x Mb.z).b % all))∧Keep H H' []) Try.func66 B66 N66 Z66 L66 (by simp) ?_
 ·obtain ⟨w,H',h,rfl,q⟩:=key;exact ⟨H',h,q⟩
 have hk:=Keep.refl H []
 have fs:=hs.old
 have l1:=r1.1;have l2:=r2.1;have l3:=r3.1
 refine Zc<|Za rfl<|Zb<|YV<|ZP (b:=t1) (o:=0) (v:=iv tot) rfl r1 rfl<|ZP (b:=t2) (o:=0) (v:=.slice sa n cap) rfl r2 rfl<|Zf rfl ?_
 rcases id hs with ⟨_,h0s,_⟩ | ⟨sb,es,rs,_⟩
 ·omega
 have ls:=rs.1
 have hmi:=Xt (z:=Mb.z) hm (show x < ms.length by omega);obtain ⟨hm1,hm2,hm3,hm4⟩:=hmi;have hmul:=ZcH ht0 ht1 hm3 hm4
 refine Zz (b:=sb) (o:=0) (k:=x) (j:=(x:Int)) (by rw [← es];rfl) rfl rfl hx<|Yl (b:=sb) (o:=0+x * 2) rfl<|ZP (b:=sb) (o:=0+x * 2+1) (v:=iv ((ms.getD x Mb.z).b)) rfl rs (Zd2 (l:=ms) (i:=x) (j:=1) (by omega) rfl)<|Zco (a:=tot) (b:=(ms.getD x Mb.z).b) rfl rfl ⟨by omega,by omega⟩<|ZP (b:=t3) (o:=0) (v:=iv all) rfl r3 rfl<|ZgI (a:=tot * ((ms.getD x Mb.z).b)) (b:=all) rfl rfl (by omega) (by omega) ⟨by omega,by omega⟩ ⟨by omega,by omega⟩ ?_
 have hrm:=Int.emod_nonneg (tot * (ms.getD x Mb.z).b) (show all≠0 by omega);have hrn:=Int.emod_lt_of_pos (tot * (ms.getD x Mb.z).b) ha0
 refine XF (v:=iv (-((tot * ((ms.getD x Mb.z).b)) % all))) rfl (Zfz (z:=(tot * ((ms.getD x Mb.z).b)) % all) (by omega) (by omega) rfl)<|Zf rfl ?_
 refine ZN (by repeat' first | exact True.intro | exact (fun h=>h) | refine And.intro ?_ ?_ | (intro h;have h:(_:Nat)=_:=h;omega)) ?_
 exact And.intro trivial (Exists.intro _ (And.intro rfl ⟨rfl,hk⟩))
set_option maxRecDepth 100000 in
theorem Zee {cb:Nat} (rc:Rd H cb [.func (.func 48) #[] #[]]) (hlo:lo≤H.next) {a b c d:Int}:∃ r H',FnX Try.prog kn lo 63 [.agg #[iv a,iv b],.agg #[iv c,iv d],.pointer (some ⟨cb,0,none⟩)] H (iv r) H'∧(r < 0↔a < c)∧Keep H H' []:=by
 have key:=Zr (kn:=kn) (lo:=lo) (H:=H) (args:=[.agg #[iv a,iv b],.agg #[iv c,iv d],.pointer (some ⟨cb,0,none⟩)]) (Q:=fun w H'=>∃ r,w=iv r∧(r < 0↔a < c)∧Keep H H' []) Try.func63 B63 N63 Z63 L63 (by simp) ?_
 ·obtain ⟨w,H',h,r,rfl,q⟩:=key;exact ⟨r,H',h,q⟩
 have hk:=Keep.refl H []
 have lc:=rc.1
 refine Zc<|Y7 (v:=.agg #[iv a,iv b]) rfl ?_
 intro H1 kH1 nH1 c1
 have c1:Cl H1 H.next [iv a,iv b]:=c1
 have mH1:=kH1.1
 have hk:=hk.trans kH1
 have rc:=kH1.rd rc (by simp)
 refine Y7 (v:=.agg #[iv c,iv d]) rfl ?_
 intro H2 kH2 nH2 c2
 have c2:Cl H2 H1.next [iv c,iv d]:=c2
 have mH2:=kH2.1
 have hk:=hk.trans kH2
 have rc:=kH2.rd rc (by simp)
 have c1:=kH2.cl c1 (by simp)
 refine Za rfl<|Zb<|YV<|ZP (b:=cb) (o:=0) (v:=.func (.func 48) #[] #[]) rfl rc rfl<|YJ (b:=H.next) (o:=0) rfl c1.rd (show row 2 _ _=some [iv a,iv b] from rfl) ?_
 obtain ⟨H3,fH3,kH3⟩:=jn (kn:=kn) (lo:=H2.next) (H:=H2) (a:=a) (b:=b) (Nat.le_refl _)
 refine WE (vs:=[.agg #[iv a,iv b]]) rfl rfl (YF rfl (by simpa using fH3)) ?_
 have mH3:=kH3.1
 have hk:=hk.trans kH3
 have rc:=kH3.rd rc (by simp)
 have c1:=kH3.cl c1 (by simp)
 have c2:=kH3.cl c2 (by simp)
 refine ZP (b:=cb) (o:=0) (v:=.func (.func 48) #[] #[]) rfl rc rfl<|YJ (b:=H1.next) (o:=0) rfl c2.rd (show row 2 _ _=some [iv c,iv d] from rfl) ?_
 obtain ⟨H4,fH4,kH4⟩:=jn (kn:=kn) (lo:=lo) (H:=H3) (a:=c) (b:=d) (by omega)
 refine Yr (vs:=[.agg #[iv c,iv d]]) rfl (YF rfl (by simpa using fH4)) ?_
 have mH4:=kH4.1
 have hk:=hk.trans kH4
 have rc:=kH4.rd rc (by simp)
 have c1:=kH4.cl c1 (by simp)
 have c2:=kH4.cl c2 (by simp)
 obtain ⟨rH5,H5,fH5,hr,kH5⟩:=Qg (kn:=kn) (lo:=lo) (H:=H4) (x:=a) (y:=c)
 refine Yr (vs:=[iv (a),iv (c)]) rfl (Zh fH5) ?_
 have mH5:=kH5.1
 have hk:=hk.trans kH5
 have rc:=kH5.rd rc (by simp)
 have c1:=kH5.cl c1 (by simp)
 have c2:=kH5.cl c2 (by simp)
 refine Zf rfl ?_
 refine ZN (by repeat' first | exact True.intro | exact (fun h=>h) | refine And.intro ?_ ?_ | (intro h;have h:(_:Nat)=_:=h;omega)) ?_
 exact And.intro trivial (Exists.intro _ (And.intro rfl ⟨_,rfl,by omega,hk⟩))
set_option maxRecDepth 100000 in
theorem Zd3 {cb:Nat} (rc:Rd H cb [.func (.func 61) #[] #[]]) (hlo:lo≤H.next) {a b:Int} (h1:0≤a∧a≤1099511627776) (h2:0≤b∧b≤1099511627776):∃ r H',FnX Try.prog kn lo 74 [iv a,iv b,.pointer (some ⟨cb,0,none⟩)] H (iv r) H'∧(r < 0↔-a < -b)∧Keep H H' []:=by
 have key:=Zr (kn:=kn) (lo:=lo) (H:=H) (args:=[iv a,iv b,.pointer (some ⟨cb,0,none⟩)]) (Q:=fun w H'=>∃ r,w=iv r∧(r < 0↔-a < -b)∧Keep H H' []) Try.func74 B74 N74 Z74 L74 (by simp) ?_
 ·obtain ⟨w,H',h,r,rfl,q⟩:=key;exact ⟨r,H',h,q⟩
 have hk:=Keep.refl H []
 have lc:=rc.1
 refine Zc<|Za rfl<|Zb<|YV<|ZP (b:=cb) (o:=0) (v:=.func (.func 61) #[] #[]) rfl rc rfl<|Zf rfl ?_
 obtain ⟨H1,fH1,kH1⟩:=qQ (kn:=kn) (lo:=H.next) (H:=H) (a:=a) (by omega) (by omega)
 refine WE (vs:=[iv a]) rfl rfl (YF rfl (by simpa using fH1)) ?_
 have mH1:=kH1.1
 have hk:=hk.trans kH1
 have rc:=kH1.rd rc (by simp)
 refine ZP (b:=cb) (o:=0) (v:=.func (.func 61) #[] #[]) rfl rc rfl<|Zf rfl ?_
 obtain ⟨H2,fH2,kH2⟩:=qQ (kn:=kn) (lo:=lo) (H:=H1) (a:=b) (by omega) (by omega)
 refine Yr (vs:=[iv b]) rfl (YF rfl (by simpa using fH2)) ?_
 have mH2:=kH2.1
 have hk:=hk.trans kH2
 have rc:=kH2.rd rc (by simp)
 obtain ⟨rH3,H3,fH3,hr,kH3⟩:=Qg (kn:=kn) (lo:=lo) (H:=H2) (x:=(-a)) (y:=(-b))
 refine Yr (vs:=[iv ((-a)),iv ((-b))]) rfl (Zh fH3) ?_
 have mH3:=kH3.1
 have hk:=hk.trans kH3
 have rc:=kH3.rd rc (by simp)
 refine Zf rfl ?_
 refine ZN (by repeat' first | exact True.intro | exact (fun h=>h) | refine And.intro ?_ ?_ | (intro h;have h:(_:Nat)=_:=h;omega)) ?_
 exact And.intro trivial (Exists.intro _ (And.intro rfl ⟨_,rfl,by omega,hk⟩))
set_option maxRecDepth 100000 in
theorem Ze2 {ms:List Mb} {sa:Option Addr} {n cap:Nat} (hs:Sl H sa n cap (mbc ms)) (hl:ms.length=n) (hn:n≤400) (hm:∀ m∈ms,okM m) {tot all:Int} (ht0:0≤tot) (ht1:tot≤1048576) (ha0:0 < all) (ha1:all≤439804651110400) {t1 t2 t3:Nat} (r1:Rd H t1 [iv tot]) (r2:Rd H t2 [.slice sa n cap]) (r3:Rd H t3 [iv all]) {cb:Nat} (rc:Rd H cb [.func (.func 66) #[] #[.pointer (some ⟨t1,0,none⟩),.pointer (some ⟨t2,0,none⟩),.pointer (some ⟨t3,0,none⟩)]]) (hlo:lo≤H.next) {x y:Nat} (hx:x < n) (hy:y < n):∃ r H',FnX Try.prog kn lo 74 [iv (x:Int),iv (y:Int),.pointer (some ⟨cb,0,none⟩)] H (iv r) H'∧(r < 0↔-(tot * (ms.getD x Mb.z).b % all) < -(tot * (ms.getD y Mb.z).b % all))∧Keep H H' []:=by
 have key:=Zr (kn:=kn) (lo:=lo) (H:=H) (args:=[iv (x:Int),iv (y:Int),.pointer (some ⟨cb,0,none⟩)]) (Q:=fun w H'=>∃ r,w=iv r∧(r < 0↔-(tot * (ms.getD x Mb.z).b % all) < -(tot * (ms.getD y Mb.z).b % all))∧Keep H H' []) Try.func74 B74 N74 Z74 L74 (by simp) ?_
 ·obtain ⟨w,H',h,r,rfl,q⟩:=key;exact ⟨r,H',h,q⟩
 have hk:=Keep.refl H []
 have fs:=hs.old
 have lc:=rc.1;have l1:=r1.1;have l2:=r2.1;have l3:=r3.1
 refine Zc<|Za rfl<|Zb<|YV<|ZP (b:=cb) (o:=0) (v:=.func (.func 66) #[] #[.pointer (some ⟨t1,0,none⟩),.pointer (some ⟨t2,0,none⟩),.pointer (some ⟨t3,0,none⟩)]) rfl rc rfl<|Zf rfl ?_
 obtain ⟨H1,fH1,kH1⟩:=jO (kn:=kn) (lo:=H.next) (H:=H) hs hl hn hm ht0 ht1 ha0 ha1 r1 r2 r3 (Nat.le_refl _) (x:=x) (by omega)
 refine WE (vs:=[iv (x:Int)]) rfl rfl (YF rfl (by simpa using fH1)) ?_
 have mH1:=kH1.1
 have hk:=hk.trans kH1
 have hs:=kH1.sl0 hs
 have rc:=kH1.rd rc (by simp)
 have r1:=kH1.rd r1 (by simp)
 have r2:=kH1.rd r2 (by simp)
 have r3:=kH1.rd r3 (by simp)
 refine ZP (b:=cb) (o:=0) (v:=.func (.func 66) #[] #[.pointer (some ⟨t1,0,none⟩),.pointer (some ⟨t2,0,none⟩),.pointer (some ⟨t3,0,none⟩)]) rfl rc rfl<|Zf rfl ?_
 obtain ⟨H2,fH2,kH2⟩:=jO (kn:=kn) (lo:=lo) (H:=H1) hs hl hn hm ht0 ht1 ha0 ha1 r1 r2 r3 (by omega) (x:=y) (by omega)
 refine Yr (vs:=[iv (y:Int)]) rfl (YF rfl (by simpa using fH2)) ?_
 have mH2:=kH2.1
 have hk:=hk.trans kH2
 have hs:=kH2.sl0 hs
 have rc:=kH2.rd rc (by simp)
 have r1:=kH2.rd r1 (by simp)
 have r2:=kH2.rd r2 (by simp)
 have r3:=kH2.rd r3 (by simp)
 obtain ⟨rH3,H3,fH3,hr,kH3⟩:=Qg (kn:=kn) (lo:=lo) (H:=H2) (x:=(-(tot * (ms.getD x Mb.z).b % all))) (y:=(-(tot * (ms.getD y Mb.z).b % all)))
 refine Yr (vs:=[iv ((-(tot * (ms.getD x Mb.z).b % all))),iv ((-(tot * (ms.getD y Mb.z).b % all)))]) rfl (Zh fH3) ?_
 have mH3:=kH3.1
 have hk:=hk.trans kH3
 have hs:=kH3.sl0 hs
 have rc:=kH3.rd rc (by simp)
 have r1:=kH3.rd r1 (by simp)
 have r2:=kH3.rd r2 (by simp)
 have r3:=kH3.rd r3 (by simp)
 refine Zf rfl ?_
 refine ZN (by repeat' first | exact True.intro | exact (fun h=>h) | refine And.intro ?_ ?_ | (intro h;have h:(_:Nat)=_:=h;omega)) ?_
 exact And.intro trivial (Exists.intro _ (And.intro rfl ⟨_,rfl,by omega,hk⟩))
end
end
end Go.Ax

/-
 Pool: members,amounts,indexes sorted;best;who is cut off most (47,60,46,53) (written by program).
-/
namespace Go.Ax
open Go Go.RowKit Go.Proofs

noncomputable section
theorem qg:∀ xs:List Int,xs.flatMap (fun x=>[iv x])=cI xs
 | []=>rfl
 | x :: l=>by rw [List.flatMap_cons,qg l];rfl
def idx (n:Nat):List Int:=(List.range n).map fun i:Nat=>(i:Int)
theorem Zfu {n:Nat}:idx (n+1)=idx n ++ [(n:Int)]:=by unfold idx;rw [List.range_succ,List.map_append];rfl
theorem yq {n:Nat}:(idx n).length=n:=by simp [idx]
theorem JB {n:Nat}:cG (fun x=>[iv (x:Int)]) n (fun i=>i)=cI (idx n):=by
 unfold cG idx cI
 rw [List.map_map,List.flatMap_map]
 induction (List.range n) with
 | nil=>rfl
 | cons a l ih=>rw [List.flatMap_cons,ih];rfl
def Jp (n:Nat) (s:Nat→Nat):List Int:=(List.range n).map fun i:Nat=>(s i:Int)
theorem qU {n:Nat} {s:Nat→Nat}:(Jp n s).length=n:=by simp [Jp]
theorem Zd4 {n i:Nat} {s:Nat→Nat} (h:i < n):(Jp n s).getD i 0=(s i:Int):=by
 unfold Jp;rw [List.getD_eq_getElem?_getD,List.getElem?_map,List.getElem?_range h];rfl
theorem ZaF {n:Nat} {s:Nat→Nat}:cG (fun x=>[iv (x:Int)]) n s=cI (Jp n s):=by
 unfold cG Jp cI
 rw [List.map_map,List.flatMap_map]
 induction (List.range n) with
 | nil=>rfl
 | cons a l ih=>rw [List.flatMap_cons,ih];rfl
theorem Zbl {H:Hp} {b:Nat} {cs:List Value} {t:TypeId × Bool} (h:Cl H b cs) (q:UW H b=some t):H.t.get b=some (.cells cs t.1 t.2):=by
 obtain ⟨_,e,l,g⟩:=h
 unfold UW at q
 rw [g] at q
 cases q;exact g
theorem Zbj {H:Hp} {b:Nat} {cs:List Value} {e:TypeId} {l:Bool} (h:H.t.get b=some (.cells cs e l)):UW H b=some (e,l):=by unfold UW;rw [h]
section
variable {kn:Kn} {lo:Nat} {H:Hp}
set_option maxRecDepth 100000 in
theorem ZdA {ms:List Mb} {bd cap:Nat} (hlb:lo≤bd) (hn160:ms.length≤160) (hc:Cl H bd (mbc ms)) (hlo:lo≤H.next):∃ s H',FnX Try.prog kn lo 47 [.slice (some ⟨bd,0,none⟩) ms.length cap,.func (.func 48) #[] #[]] H (.tuple #[]) H'∧PRm 0 ms.length (fun i=>i) s∧So (fun i=>(ms.getD i Mb.z).g) 0 ms.length s∧KT bd H H'∧Cl H' bd (mbc (UX ms Mb.z s)):=by
 have key:=Zr (kn:=kn) (lo:=lo) (H:=H) (args:=[.slice (some ⟨bd,0,none⟩) ms.length cap,.func (.func 48) #[] #[]]) (Q:=fun w H'=>w=.tuple #[]∧∃ s,PRm 0 ms.length (fun i=>i) s∧So (fun i=>(ms.getD i Mb.z).g) 0 ms.length s∧KT bd H H'∧Cl H' bd (mbc (UX ms Mb.z s))) Try.func47 B47 N47 Z47 L47 (by simp) ?_
 ·obtain ⟨w,H',h,rfl,s,r⟩:=key;exact ⟨s,H',h,r⟩
 have hk:=KT.refl (H:=H) hc.1
 refine Zc<|Y7 (v:=.func (.func 48) #[] #[]) rfl ?_
 intro H1 kH1 nH1 c1
 have c1:Cl H1 H.next [.func (.func 48) #[] #[]]:=c1
 have mH1:=kH1.1
 have hk:=hk.keep kH1
 have hc:=kH1.cl hc (by simp)
 refine Zb ?_
 show Zp _ _ _ _ _ _ _ _
 refine Za rfl<|Zg (v:=.func (.func 63) #[] #[pt H.next]) rfl (by kernel_rfl) ?_
 obtain ⟨cb,ecb⟩:∃ cb,cb=H.next:=⟨_,rfl⟩
 have hbd:=hk.b
 have hecb:bd < cb:=by omega
 rw [← ecb] at c1 ⊢
 have hlcb:=c1.1
 have hcm:V9 Try.prog kn lo bd 63 #[.pointer (some ⟨cb,0,none⟩)] (fun x=>.agg #[iv (ms.getD x Mb.z).g,iv (ms.getD x Mb.z).b]) ms.length (fun i=>(ms.getD i Mb.z).g) H1:=fun HH kH x y hx hy=>by
  have mH:=kH.1
  obtain ⟨r,H9,f9,hr,k9⟩:=Zee (kn:=kn) (lo:=lo) (H:=HH) (kH.rd c1.rd (by simp;omega)) (by omega) (a:=(ms.getD x Mb.z).g) (b:=(ms.getD x Mb.z).b) (c:=(ms.getD y Mb.z).g) (d:=(ms.getD y Mb.z).b)
  exact ⟨r,H9,YF rfl (by simpa using f9),k9,hr⟩
 obtain ⟨H2,s,fH2,pH2,sH2,kH2,cH2⟩:=Zez (kn:=kn) (lo:=lo) (H:=H1) (bd:=bd) (n:=ms.length) (v:=fun i=>(ms.getD i Mb.z).g) (u:=fun i=>(ms.getD i Mb.z).b) (by omega) hlb hn160 (cap:=cap) (by have e:=Zfl (l:=ms) (d:=Mb.z) (e:=Mb.f);unfold mbc at hc;rw [← e] at hc;exact hc) hcm
 refine Zs (vs:=[.slice (some ⟨bd,0,none⟩) ms.length cap,.func (.func 63) #[] #[.pointer (some ⟨cb,0,none⟩)]]) rfl (Zh fH2) ?_
 have hk:=hk.trans kH2
 refine Zb ?_
 have hcz:Cl H2 bd (mbc (UX ms Mb.z s)):=by unfold mbc;rw [← KG];exact cH2
 exact And.intro trivial (Exists.intro _ (And.intro rfl ⟨rfl,s,pH2,sH2,hk,hcz⟩))
set_option maxRecDepth 100000 in
theorem ZcV {xs:List Int} {bd cap:Nat} (hlb:lo≤bd) (hn160:xs.length≤160) (hc:Cl H bd (cI xs)) (hlo:lo≤H.next) (hx0:∀ a∈xs,0≤a∧a≤1099511627776):∃ H',FnX Try.prog kn lo 60 [.slice (some ⟨bd,0,none⟩) xs.length cap,.func (.func 61) #[] #[]] H (.tuple #[]) H'∧KT bd H H'∧Cl H' bd (cI (dsc xs)):=by
 have key:=Zr (kn:=kn) (lo:=lo) (H:=H) (args:=[.slice (some ⟨bd,0,none⟩) xs.length cap,.func (.func 61) #[] #[]]) (Q:=fun w H'=>w=.tuple #[]∧KT bd H H'∧Cl H' bd (cI (dsc xs))) Try.func60 B60 N60 Z60 L60 (by simp) ?_
 ·obtain ⟨w,H',h,rfl,r⟩:=key;exact ⟨H',h,r⟩
 have hk:=KT.refl (H:=H) hc.1
 refine Zc<|Y7 (v:=.func (.func 61) #[] #[]) rfl ?_
 intro H1 kH1 nH1 c1
 have c1:Cl H1 H.next [.func (.func 61) #[] #[]]:=c1
 have mH1:=kH1.1
 have hk:=hk.keep kH1
 have hc:=kH1.cl hc (by simp)
 refine Zb ?_
 show Zp _ _ _ _ _ _ _ _
 refine Za rfl<|Zg (v:=.func (.func 74) #[] #[pt H.next]) rfl (by kernel_rfl) ?_
 obtain ⟨cb,ecb⟩:∃ cb,cb=H.next:=⟨_,rfl⟩
 have hbd:=hk.b
 have hecb:bd < cb:=by omega
 rw [← ecb] at c1 ⊢
 have hlcb:=c1.1
 have hcm:V9 Try.prog kn lo bd 74 #[.pointer (some ⟨cb,0,none⟩)] (fun x=>iv (xs.getD x 0)) xs.length (fun i=>-(xs.getD i 0)) H1:=fun HH kH x y hx hy=>by
  have mH:=kH.1
  obtain ⟨r,H9,f9,hr,k9⟩:=Zd3 (kn:=kn) (lo:=lo) (H:=HH) (kH.rd c1.rd (by simp;omega)) (by omega) (a:=xs.getD x 0) (b:=xs.getD y 0) (yK hx0 hx) (yK hx0 hy)
  exact ⟨r,H9,YF rfl (by simpa using f9),k9,hr⟩
 obtain ⟨H2,s,fH2,pH2,sH2,kH2,cH2⟩:=Zbo (kn:=kn) (lo:=lo) (H:=H1) (bd:=bd) (n:=xs.length) (v:=fun i=>xs.getD i 0) (by omega) hlb hn160 (cap:=cap) (by have e:=Zfl (l:=xs) (d:=0) (e:=fun x=>[iv x]);rw [qg] at e;rw [← e] at hc;exact hc) hcm
 refine Zs (vs:=[.slice (some ⟨bd,0,none⟩) xs.length cap,.func (.func 74) #[] #[.pointer (some ⟨cb,0,none⟩)]]) rfl (Zh fH2) ?_
 have hk:=hk.trans kH2
 refine Zb ?_
 have hys:UX xs 0 s=dsc xs:=Zgh (ye pH2) ((JU (f:=fun x:Int=>-x) sH2).imp fun h=>by omega)
 have hcz:Cl H2 bd (cI (dsc xs)):=by rw [← hys,← qg,← KG];exact cH2
 exact And.intro trivial (Exists.intro _ (And.intro rfl ⟨rfl,hk,hcz⟩))
set_option maxRecDepth 100000 in
theorem Zdz {ms:List Mb} {sa:Option Addr} {n cap:Nat} (hs:Sl H sa n cap (mbc ms)) (hl:ms.length=n) (hn:n≤400) (hm:∀ m∈ms,okM m) {tot all:Int} (ht0:0≤tot) (ht1:tot≤1048576) (ha0:0 < all) (ha1:all≤439804651110400) {t1 t2 t3:Nat} (r1:Rd H t1 [iv tot]) (r2:Rd H t2 [.slice sa n cap]) (r3:Rd H t3 [iv all]) {bd capd:Nat} (hlb:lo≤bd) (hn160:n≤160) (hc:Cl H bd (cI (idx n))) (hlo:lo≤H.next) (hb1:t1≠bd) (hb2:t2≠bd) (hb3:t3≠bd) (hb4:∀ b,sa=some ⟨b,0,none⟩→b≠bd):∃ s H',FnX Try.prog kn lo 60 [.slice (some ⟨bd,0,none⟩) n capd,.func (.func 66) #[] #[.pointer (some ⟨t1,0,none⟩),.pointer (some ⟨t2,0,none⟩),.pointer (some ⟨t3,0,none⟩)]] H (.tuple #[]) H'∧PRm 0 n (fun i=>i) s∧So (fun x=>-(tot * (ms.getD x Mb.z).b % all)) 0 n s∧KT bd H H'∧Cl H' bd (cI (Jp n s)):=by
 have key:=Zr (kn:=kn) (lo:=lo) (H:=H) (args:=[.slice (some ⟨bd,0,none⟩) n capd,.func (.func 66) #[] #[.pointer (some ⟨t1,0,none⟩),.pointer (some ⟨t2,0,none⟩),.pointer (some ⟨t3,0,none⟩)]]) (Q:=fun w H'=>w=.tuple #[]∧∃ s,PRm 0 n (fun i=>i) s∧So (fun x=>-(tot * (ms.getD x Mb.z).b % all)) 0 n s∧KT bd H H'∧Cl H' bd (cI (Jp n s))) Try.func60 B60 N60 Z60 L60 (by simp) ?_
 ·obtain ⟨w,H',h,rfl,s,r⟩:=key;exact ⟨s,H',h,r⟩
 have hk:=KT.refl (H:=H) hc.1
 have fs:=hs.old
 refine Zc<|Y7 (v:=.func (.func 66) #[] #[.pointer (some ⟨t1,0,none⟩),.pointer (some ⟨t2,0,none⟩),.pointer (some ⟨t3,0,none⟩)]) rfl ?_
 intro H1 kH1 nH1 c1
 have c1:Cl H1 H.next [.func (.func 66) #[] #[.pointer (some ⟨t1,0,none⟩),.pointer (some ⟨t2,0,none⟩),.pointer (some ⟨t3,0,none⟩)]]:=c1
 have mH1:=kH1.1
 have hk:=hk.keep kH1
 have hc:=kH1.cl hc (by simp)
 have hs:=kH1.sl0 hs
 have r1:=kH1.rd r1 (by simp)
 have r2:=kH1.rd r2 (by simp)
 have r3:=kH1.rd r3 (by simp)
 refine Zb ?_
 show Zp _ _ _ _ _ _ _ _
 refine Za rfl<|Zg (v:=.func (.func 74) #[] #[pt H.next]) rfl (by kernel_rfl) ?_
 obtain ⟨cb,ecb⟩:∃ cb,cb=H.next:=⟨_,rfl⟩
 have hbd:=hk.b
 have hecb:bd < cb:=by omega
 rw [← ecb] at c1 ⊢
 have hlcb:=c1.1
 have hcm:V9 Try.prog kn lo bd 74 #[.pointer (some ⟨cb,0,none⟩)] (fun x=>iv (x:Int)) n (fun x=>-(tot * (ms.getD x Mb.z).b % all)) H1:=fun HH kH x y hx hy=>by
  have mH:=kH.1
  obtain ⟨r,H9,f9,hr,k9⟩:=Ze2 (kn:=kn) (lo:=lo) (H:=HH) (kH.sl hs (fun b e=>by have:=hb4 b e;simp;omega)) hl hn hm ht0 ht1 ha0 ha1 (kH.rd r1 (by simp;omega)) (kH.rd r2 (by simp;omega)) (kH.rd r3 (by simp;omega)) (kH.rd c1.rd (by simp;omega)) (by omega) hx hy
  exact ⟨r,H9,YF rfl (by simpa using f9),k9,hr⟩
 obtain ⟨H2,s,fH2,pH2,sH2,kH2,cH2⟩:=Zbo (kn:=kn) (lo:=lo) (H:=H1) (bd:=bd) (n:=n) (v:=fun i=>(i:Int)) (by omega) hlb hn160 (cap:=capd) (by rw [← JB] at hc;exact hc) hcm
 refine Zs (vs:=[.slice (some ⟨bd,0,none⟩) n capd,.func (.func 74) #[] #[.pointer (some ⟨cb,0,none⟩)]]) rfl (Zh fH2) ?_
 have hk:=hk.trans kH2
 refine Zb ?_
 exact And.intro trivial (Exists.intro _ (And.intro rfl ⟨rfl,s,pH2,sH2,hk,by rw [← ZaF];exact cH2⟩))
set_option maxRecDepth 100000 in
theorem ZeP {xs:List Int} {bd k:Nat} (hlb:lo≤bd) (hl:xs.length=k) (h0:0 < k) (hn160:k≤160) (hc:Cl H bd (cI xs)) (hg:H.t.get bd=some (.cells (cI xs) 3 true)) (hlo:lo≤H.next) (hx0:∀ a∈xs,0≤a∧a≤1099511627776) {mb:Int} (hm1:1≤mb) (hm2:mb≤1000):∃ H',FnX Try.prog kn lo 46 [.slice (some ⟨bd,0,none⟩) k k,iv mb] H (.slice (some ⟨bd,0,none⟩) (min mb.toNat k) k) H'∧KT bd H H'∧Cl H' bd (cI (dsc xs)):=by
 have key:=Zr (kn:=kn) (lo:=lo) (H:=H) (args:=[.slice (some ⟨bd,0,none⟩) k k,iv mb]) (Q:=fun w H'=>w=.slice (some ⟨bd,0,none⟩) (min mb.toNat k) k∧KT bd H H'∧Cl H' bd (cI (dsc xs))) Try.func46 B46 N46 Z46 L46 (by simp) ?_
 ·obtain ⟨w,H',h,rfl,q⟩:=key;exact ⟨H',h,q⟩
 have hk:=KT.refl (H:=H) hc.1
 refine Zc<|Za rfl<|Zb<|Zc<|Za rfl ?_
 obtain ⟨H1,fH1,kH1,cH1⟩:=ZcV (kn:=kn) (lo:=lo) (H:=H) (cap:=k) hlb (by omega) hc (by omega) hx0
 rw [hl] at fH1
 refine Zs (vs:=[.slice (some ⟨bd,0,none⟩) k k,.func (.func 61) #[] #[]]) rfl (Zh fH1) ?_
 have hk:=hk.trans kH1
 refine Zb<|Zc<|Za rfl<|Za rfl<|Za rfl<|YG (m:=k) rfl ?_
 obtain ⟨M,eM⟩:∃ M,M=min mb.toNat k:=⟨_,rfl⟩
 have hM:min mb (k:Int)=(M:Int):=by omega
 refine Zhb (a:=mb) (b:=(k:Int)) rfl rfl ?_
 show Zp _ _ _ _ _ (Zt _ _ (iv (min mb (k:Int)))) _ _
 rw [hM]
 have hgt:=Zbl cH1 (kH1.tg.trans (Zbj hg))
 have hacz:Acc lo 0 3 H1 (.slice (some ⟨bd,0,none⟩) k k) k (cI (dsc xs)):=.inr ⟨bd,rfl,h0,by omega,hlb,cH1.1,hgt⟩
 obtain ⟨tv,kdt,et,dt,_,ta,htv,hts,hta⟩:=jl (lo:=lo) (k:=M) hacz (by rw [UU,hl]) (by omega)
 have hta:=hta h0;cases hta;subst htv
 refine XQ (v:=.slice (some ⟨bd,0,none⟩) M k) (H':=H1) (k:=kdt) rfl rfl (et _ _ _ _ _ _ _ rfl rfl) (by rcases dt with rfl | ⟨bR,rfl,hbR⟩;exact (fun b e=>by cases e);exact (fun b e=>by cases e;exact hbR))<|Za rfl<|Zb ?_
 exact And.intro trivial (Exists.intro _ (And.intro rfl ⟨by rw [← eM];rfl,hk,cH1⟩))
set_option maxRecDepth 100000 in
set_option maxHeartbeats 1000000 in
theorem Zed {ms:List Mb} {sa:Option Addr} {n cap:Nat} (hs:Sl H sa n cap (mbc ms)) (hl:ms.length=n) (hn:n≤400) (hlo:lo≤H.next) (hm:∀ m∈ms,okM m) (hn160:n≤160) (h0:0 < n) {tot:Int} (ht0:0≤tot) (ht1:tot≤1048576) (ha0:0 < YD ms) (ha1:YD ms≤439804651110400):∃ (s:Nat→Nat) (bd:Nat) (H':Hp),FnX Try.prog kn lo 53 [.slice sa n cap,iv tot] H (.slice (some ⟨bd,0,none⟩) n n) H'∧PRm 0 n (fun i=>i) s∧So (fun x=>-(tot * (ms.getD x Mb.z).b % YD ms)) 0 n s∧H.next≤bd∧lo≤bd∧bd < H'.next∧H'.t.get bd=some (.cells (cI (Jp n s)) 3 true)∧Keep H H' []:=by
 have key:=Zr (kn:=kn) (lo:=lo) (H:=H) (args:=[.slice sa n cap,iv tot]) (Q:=fun w H'=>∃ (s:Nat→Nat) (bd:Nat),w=.slice (some ⟨bd,0,none⟩) n n∧PRm 0 n (fun i=>i) s∧So (fun x=>-(tot * (ms.getD x Mb.z).b % YD ms)) 0 n s∧H.next≤bd∧lo≤bd∧bd < H'.next∧H'.t.get bd=some (.cells (cI (Jp n s)) 3 true)∧Keep H H' []) Try.func53 B53 N53 Z53 L53 (by simp) ?_
 ·obtain ⟨w,H',h,s,bd,rfl,r⟩:=key;exact ⟨s,bd,H',h,r⟩
 have hk:=Keep.refl H []
 have fs:=hs.old
 refine Zc<|Y7 (v:=.slice sa n cap) rfl ?_
 intro H1 kH1 nH1 c1
 have c1:Cl H1 H.next [.slice sa n cap]:=c1
 have mH1:=kH1.1
 have hk:=hk.trans kH1
 have hs:=kH1.sl0 hs
 refine Y7 (v:=iv tot) rfl ?_
 intro H2 kH2 nH2 c2
 have c2:Cl H2 H1.next [iv tot]:=c2
 have mH2:=kH2.1
 have hk:=hk.trans kH2
 have hs:=kH2.sl0 hs
 have c1:=kH2.cl c1 (by simp)
 refine Za rfl<|Zb<|Zc<|Yq (b:=H.next) (o:=0) (v:=.slice sa n cap) rfl c1.rd rfl ?_
 obtain ⟨H3,fH3,kH3⟩:=Jq (kn:=kn) (lo:=lo) (H:=H2) hs hl hn (by omega) hm
 refine Zs (vs:=[.slice sa n cap]) rfl (Zh fH3) ?_
 have mH3:=kH3.1
 have hk:=hk.trans kH3
 have hs:=kH3.sl0 hs
 have c1:=kH3.cl c1 (by simp)
 have c2:=kH3.cl c2 (by simp)
 refine W0 ?_
 intro H4 kH4 nH4 c4
 have c4:Cl H4 H3.next [iv 0]:=c4
 have mH4:=kH4.1
 have hk:=hk.trans kH4
 have hs:=kH4.sl0 hs
 have c1:=kH4.cl c1 (by simp)
 have c2:=kH4.cl c2 (by simp)
 refine ZcB (b:=H3.next) (o:=0) rfl rfl c4 (by omega) rfl rfl (by simp) ?_
 intro H5 kH5 nH5 sH5
 have mH5:=kH5.1
 have hk:=hk.new kH5 (fun b hb=>by simp at hb ⊢;omega)
 have hs:=kH5.sl hs (fun b e=>by have:=fs b e;first | (simp;done) | (simp;omega))
 have c1:=kH5.cl c1 (by first | (simp;done) | (simp;omega))
 have c2:=kH5.cl c2 (by first | (simp;done) | (simp;omega))
 have c4:Cl H5 H3.next [iv (YD ms)]:=sH5
 refine Zb<|Zc<|Za rfl<|Zb<|Zc<|Yq (b:=H.next) (o:=0) (v:=.slice sa n cap) rfl c1.rd rfl<|YG (m:=n) rfl<|Za rfl<|Zb ?_
 refine Zx (fn:=Try.f53) ZiD N53 Zin (fun z:Nat × Value=>[(2,pt H.next),(3,pt H1.next),(5,pt H3.next),(6,z.2),(11,iv (n:Int)),(12,iv (z.1:Int))])
  (fun k z H'=>z.1+k=n∧Keep H H' []∧H5.next≤H'.next∧Sl H' sa n cap (mbc ms)∧Cl H' H.next [.slice sa n cap]∧Cl H' H1.next [iv tot]∧Cl H' H3.next [iv (YD ms)]∧Acc lo H5.next 3 H' z.2 z.1 (cI (idx z.1))) n (0,.slice none 0 0) ⟨by simp,hk,Nat.le_refl _,hs,c1,c2,c4,.inl ⟨rfl,rfl,rfl⟩⟩ ⟨rfl,rfl,rfl,rfl,rfl,rfl,trivial⟩ ?_
 rintro k ⟨i,wv⟩ L1 ⟨hik,hk,hnx,hs,r2,r1,r3,hacc⟩
 simp only [] at hik hacc
 have mk:=hk.1;have kacc:=Keep.refl L1 []
 refine Zc<|ZF (a:=(i:Int)) (b:=(n:Int)) rfl rfl<|Zb ?_
 refine And.intro (fun q1=>?_) (fun q1=>?_)
 ·have q1:(i:Int) < (n:Int):=of_decide_eq_true q1
  first | refine Zl ?_ | skip
  refine Zc<|Za rfl<|Za rfl<|Zb ?_
  show Zp _ _ _ _ _ _ _ _
  refine Za rfl<|Za rfl ?_
  obtain ⟨H6,hH6⟩:∃ H6,L1.new (.cells [iv (i:Int)] 3 false)=H6:=⟨_,rfl⟩
  refine XQ (H':=H6) (k:=.heavy) rfl (by kernel_rfl) ((Xu (v:=iv (i:Int)) ZeE zo3 rfl rfl rfl (by decide)).trans (by rw [← hH6];rfl)) (fun b e=>by cases e) ?_
  obtain ⟨kH6,nH6,c6⟩:=ZL hH6;clear hH6
  have c6:Cl H6 L1.next [iv (i:Int)]:=c6
  have mH6:=kH6.1
  have hk:=hk.trans kH6
  have hs:=kH6.sl0 hs
  have r2:=kH6.cl r2 (by simp)
  have r1:=kH6.cl r1 (by simp)
  have r3:=kH6.cl r3 (by simp)
  have kacc:=kacc.trans kH6
  obtain ⟨H7,kdH7,eH7,dH7,aH7,kbH7⟩:=YB (P:=Try.prog) (lo:=lo) (k:=i) (t1:=67) ZeE Zeh (c6.sl (Nat.le_refl 1)) rfl (by decide) rfl (by rw [qo,yq];omega) (by omega) (hacc.keep kacc) (by omega) (by omega)
  refine XQ (k:=kdH7) rfl (by cases wv<;>kernel_rfl) (eH7 _ _ _ _ _ _ _ rfl rfl) (Jj dH7 _) ?_
  have hk:=kbH7.keep hk (by omega)
  have hs:=kbH7.sl hs (fun b e=>by have:=fs b e;omega)
  have r2:=kbH7.cl r2 (by omega)
  have r1:=kbH7.cl r1 (by omega)
  have r3:=kbH7.cl r3 (by omega)
  have mH7:=kbH7.1
  refine Za rfl<|Zb ?_
  show Zp _ _ _ _ _ _ _ _
  refine Zy (a:=(i:Int)) (b:=1) rfl rfl ⟨by omega,by omega⟩<|Za rfl<|Zb ?_
  have hacc2:Acc lo H5.next 3 H7 (.slice (some ⟨H6.next,0,none⟩) (i+1) (i+1)) (i+1) (cI (idx (i+1))):=by rw [Zfu];unfold cI at *;rw [List.map_append];exact aH7
  exact ⟨k - 1,(i+1,_),by omega,⟨by simp only [];omega,hk,by omega,hs,r2,r1,r3,hacc2⟩,rfl,rfl,rfl,rfl,rfl,rfl,trivial⟩
 ·have q1:¬ ((i:Int) < (n:Int)):=of_decide_eq_false q1
  have ein:i=n:=by omega
  rcases hacc with ⟨q0,_⟩ | ⟨bd,rfl,q0,q1,q2,q3,q4⟩
  ·exfalso;omega
  rw [ein] at q0 q4 ⊢
  first | (refine ZC ?_;show wC _ _ _ _ _ _ _ _ _) | skip
  refine Zc<|Za rfl<|Zg (v:=.func (.func 66) #[] #[pt H1.next,pt H.next,pt H3.next]) rfl (by kernel_rfl) ?_
  obtain ⟨s,H8,fH8,pH8,sH8,kH8,cH8⟩:=Zdz (kn:=kn) (lo:=lo) (H:=L1) (capd:=n) hs hl hn hm ht0 ht1 ha0 ha1 (t1:=H1.next) (t2:=H.next) (t3:=H3.next) r1.rd r2.rd r3.rd (bd:=bd) (by omega) hn160 (by rw [← JB];exact ⟨q3,3,true,by rw [JB];exact q4⟩) (by omega) (by omega) (by omega) (by omega) (fun b e=>by have:=fs b e;omega)
  refine Zs (vs:=[.slice (some ⟨bd,0,none⟩) n n,.func (.func 66) #[] #[.pointer (some ⟨H1.next,0,none⟩),.pointer (some ⟨H.next,0,none⟩),.pointer (some ⟨H3.next,0,none⟩)]]) rfl (Zh fH8)<|Zb<|Zc<|Za rfl<|Za rfl<|Zb ?_
  exact And.intro trivial (Exists.intro _ (And.intro rfl ⟨s,bd,rfl,pH8,sH8,by omega,by omega,cH8.1,Zbl cH8 (kH8.tg.trans (Zbj q4)),hk.new kH8.kp (fun b hb=>.inr (by simp at hb;omega))⟩))
end
end
end Go.Ax

/-
 Pool: shares (32) (written by program).
-/
namespace Go.Ax
open Go Go.RowKit Go.Proofs

noncomputable section
def shQ (ms:List Mb) (tot:Int) (m:Mb):Qt:=⟨m.g,m.b,tot * m.b / YD ms⟩
def shP (ms:List Mb) (tot:Int):List Qt:=ms.map (shQ ms tot)
def shJ (ms:List Mb) (tot:Int) (s:Nat→Nat) (j:Nat):List Qt:=(List.range ms.length).map fun i=>⟨(ms.getD i Mb.z).g,(ms.getD i Mb.z).b,tot * (ms.getD i Mb.z).b / YD ms+(if i∈(List.range j).map s then 1 else 0)⟩
theorem Ze9 {ms:List Mb} {tot:Int} {s:Nat→Nat}:shJ ms tot s 0=shP ms tot:=by
 unfold shJ shP
 refine List.ext_getElem? fun i=>?_
 rcases Nat.lt_or_ge i ms.length with q | q
 ·simp [q,shQ]
 ·simp [q]
theorem UO {ms:List Mb} {tot:Int} {s:Nat→Nat} {j:Nat}:(shJ ms tot s j).length=ms.length:=by simp [shJ]
theorem ZdL {ms:List Mb} {tot:Int} {s:Nat→Nat} {j i:Nat} (h:i < ms.length):(shJ ms tot s j).getD i Qt.z=⟨(ms.getD i Mb.z).g,(ms.getD i Mb.z).b,tot * (ms.getD i Mb.z).b / YD ms+(if i∈(List.range j).map s then 1 else 0)⟩:=by
 unfold shJ;rw [List.getD_eq_getElem?_getD,List.getElem?_map,List.getElem?_range h];rfl
theorem ZaR {n:Nat} {s:Nat→Nat} (p:PRm 0 n (fun i=>i) s) {i j:Nat} (hi:i < n) (hj:j < n) (e:s i=s j):i=j:=by
 have hid:rg (fun i:Nat=>i) 0 n=List.range n:=by unfold rg;rw [List.range_eq_range'];simp
 have h:=p.perm
 rw [hid] at h
 have hn:(rg s 0 n).Nodup:=h.nodup_iff.2 List.nodup_range
 have key:∀ i j,i < j→j < n→s i≠s j:=by
  intro i j hij hj e
  have:=(List.pairwise_iff_getElem.1 hn) i j (by rw [Zat];omega) (by rw [Zat];omega) hij
  apply this
  simp only [rg,List.getElem_map,List.getElem_range']
  simpa using e
 rcases Nat.lt_trichotomy i j with q | q | q
 ·exact absurd e (key i j q hj)
 ·exact q
 ·exact absurd e.symm (key j i q hi)
theorem qy {n:Nat} {s:Nat→Nat} (p:PRm 0 n (fun i=>i) s) {i:Nat} (hi:i < n):s i < n:=p.dom (fun k h=>h) (Nat.le_refl _) i hi
theorem ZgM {ms:List Mb} {tot:Int} {s:Nat→Nat} {j:Nat} (p:PRm 0 ms.length (fun i=>i) s) (hj:j < ms.length):(shJ ms tot s j).set (s j) ⟨(ms.getD (s j) Mb.z).g,(ms.getD (s j) Mb.z).b,tot * (ms.getD (s j) Mb.z).b / YD ms+1⟩=shJ ms tot s (j+1):=by
 refine List.ext_getElem? fun i=>?_
 rw [List.getElem?_set,UO]
 rcases Nat.lt_or_ge i ms.length with q | q
 ·by_cases e:s j=i
  ·rw [if_pos e,if_pos (by omega),← e]
   unfold shJ
   rw [List.getElem?_map,List.getElem?_range (by omega)]
   simp only [Option.map_some]
   rw [if_pos (show s j∈(List.range (j+1)).map s from List.mem_map.2 ⟨j,by simp,rfl⟩)]
  ·rw [if_neg e]
   unfold shJ
   rw [List.getElem?_map,List.getElem?_map,List.getElem?_range q]
   simp only [Option.map_some]
   have:i∈(List.range (j+1)).map s↔i∈(List.range j).map s:=by
    rw [List.range_succ,List.map_append,List.mem_append]
    simp only [List.map_cons,List.map_nil,List.mem_singleton]
    constructor
    ·rintro (h | h)
     ·exact h
     ·exact absurd h.symm e
    ·exact fun h=>.inl h
   simp only [this]
 ·rw [if_neg (by have:=qy p hj;omega),List.getElem?_eq_none (by rw [UO];exact q),List.getElem?_eq_none (by rw [UO];exact q)]
theorem ZeH {ms:List Mb} {tot:Int} {s:Nat→Nat} {j:Nat} (p:PRm 0 ms.length (fun i=>i) s) (hj:j < ms.length):((shJ ms tot s j).getD (s j) Qt.z).a=tot * (ms.getD (s j) Mb.z).b / YD ms:=by
 rw [ZdL (qy p hj)]
 have:s j ∉ (List.range j).map s:=by
  intro h
  obtain ⟨i,hi,e⟩:=List.mem_map.1 h
  have hi:=List.mem_range.1 hi
  have:=ZaR p (i:=i) (j:=j) (by omega) hj e
  omega
 simp only [if_neg this]
 omega
theorem ZeM {l:List Qt} {i:Nat} {v:Int} (h:i < l.length):(qtc l).set (0+i * 3+2) (iv v)=qtc (l.set i ⟨(l.getD i Qt.z).g,(l.getD i Qt.z).b,v⟩):=
 qV (f:=Qt.f) (fun _ _=>rfl) (VN h) (by decide) rfl
def U0 (ms:List Mb) (tot:Int):Int:=tot - Xr (shP ms tot)
def bI (ms:List Mb) (x:Int):Int:=(ms.getD x.toNat Mb.z).b
theorem KB {ms:List Mb} {F:Mb→Int}:∀ n,n≤ms.length→YK (fun x=>F (ms.getD x.toNat Mb.z)) (idx n)=YK (fun x=>x) ((ms.take n).map F)
 | 0,_=>rfl
 | n+1,h=>by
  rw [Zfu,Uj,KB n (by omega),Xj (z:=Mb.z) (by omega),List.map_append,Uj]
  simp [YK]
theorem ZdG {ms:List Mb}:YK (bI ms) (idx ms.length)=YD ms:=by
 have:=KB (ms:=ms) (F:=fun m=>m.b) ms.length (Nat.le_refl _)
 rw [List.take_length] at this
 exact this
theorem Zcm {ms:List Mb} {tot:Int}:j4 tot (YD ms) (bI ms) (idx ms.length)=U0 ms tot:=by
 have:=KB (ms:=ms) (F:=fun m=>tot * m.b / YD ms) ms.length (Nat.le_refl _)
 rw [List.take_length] at this
 unfold j4 U0 Xr shP
 rw [List.map_map]
 show tot - YK (fun x=>tot * (ms.getD x.toNat Mb.z).b / YD ms) _=_
 rw [this]
 rfl
theorem jU {ms:List Mb} {tot:Int} (ha:0 < YD ms):0≤U0 ms tot∧U0 ms tot≤ms.length:=by
 have h0:0 < (idx ms.length).length:=by
  rw [yq]
  rcases Nat.eq_zero_or_pos ms.length with e | e
  ·exfalso
   have:ms=[]:=List.eq_nil_of_length_eq_zero e
   subst this
   exact absurd ha (by decide)
  ·exact e
 have:=Zen (total:=tot) (b:=bI ms) ha ZdG
 rw [Zcm,jm] at this
 have h2:=List.length_filter_le (fun g=>decide (0 < cut tot (YD ms) (bI ms g))) (idx ms.length)
 rw [yq] at h2
 omega
theorem yp:∀ {l:List Int},(∀ a∈l,0≤a)→0≤YK (fun x=>x) l
 | [],_=>Int.le_refl _
 | y :: l,h=>by
  have h0:=h y List.mem_cons_self
  have:=yp (l:=l) fun a ha=>h a (List.mem_cons_of_mem _ ha)
  simp only [YK];omega
theorem JX:∀ {l:List Int},(∀ a∈l,0≤a)→∀ x∈l,x≤YK (fun x=>x) l
 | y :: l,h,x,hx=>by
  have h0:=h y List.mem_cons_self
  have hr:0≤YK (fun x=>x) l:=by
   exact yp (fun a ha=>h a (List.mem_cons_of_mem _ ha))
  simp only [YK]
  rcases List.mem_cons.1 hx with e | e
  ·omega
  ·have:=JX (fun a ha=>h a (List.mem_cons_of_mem _ ha)) x e;omega
theorem Zdg {ms:List Mb} {tot:Int} (hm:∀ m∈ms,okM m) (ht0:0≤tot) (ht1:tot≤1048576) (ha:0 < YD ms):∀ q∈shP ms tot,okQ q:=by
 intro q hq
 obtain ⟨m,hmm,e⟩:=List.mem_map.1 hq
 have k:=hm m hmm
 have hb:m.b≤YD ms:=by
  have:=JX (l:=ms.map (·.b)) (fun a ha=>(Zbw hm a ha).1) m.b (List.mem_map.2 ⟨m,hmm,rfl⟩)
  exact this
 rw [← e]
 have h1:0≤tot * m.b:=Int.mul_nonneg ht0 k.2.2.1
 have h2:tot * m.b≤tot * YD ms:=Int.mul_le_mul_of_nonneg_left hb ht0
 constructor
 ·exact Int.ediv_nonneg h1 (by omega)
 ·have:tot * m.b / YD ms≤tot:=Int.ediv_le_of_le_mul ha h2
  show tot * m.b / YD ms≤2199023255552
  omega
section
variable {kn:Kn} {lo:Nat} {H:Hp}
set_option maxRecDepth 100000 in
set_option maxHeartbeats 1000000 in
theorem jM {ms:List Mb} {sa:Option Addr} {n cap:Nat} (hs:Sl H sa n cap (mbc ms)) (hl:ms.length=n) (hn:n≤400) (hlo:lo≤H.next) (hm:∀ m∈ms,okM m) (hn160:n≤160) (h0:0 < n) {tot:Int} (ht0:0≤tot) (ht1:tot≤1048576) (ha0:0 < YD ms) (ha1:YD ms≤439804651110400):∃ (s:Nat→Nat) (qb:Nat) (H':Hp),FnX Try.prog kn lo 32 [.slice sa n cap,iv tot] H (.slice (some ⟨qb,0,none⟩) n n) H'∧PRm 0 n (fun i=>i) s∧So (fun x=>-(tot * (ms.getD x Mb.z).b % YD ms)) 0 n s∧H.next≤qb∧Cl H' qb (qtc (shJ ms tot s (U0 ms tot).toNat))∧Keep H H' []:=by
 have key:=Zr (kn:=kn) (lo:=lo) (H:=H) (args:=[.slice sa n cap,iv tot]) (Q:=fun w H'=>∃ (s:Nat→Nat) (qb:Nat),w=.slice (some ⟨qb,0,none⟩) n n∧PRm 0 n (fun i=>i) s∧So (fun x=>-(tot * (ms.getD x Mb.z).b % YD ms)) 0 n s∧H.next≤qb∧Cl H' qb (qtc (shJ ms tot s (U0 ms tot).toNat))∧Keep H H' []) Try.func32 B32 N32 Z32 L32 (by simp) ?_
 ·obtain ⟨w,H',h,s,qb,rfl,r⟩:=key;exact ⟨s,qb,H',h,r⟩
 have hk:=Keep.refl H []
 have fs:=hs.old
 refine Zc<|Za rfl<|Zb<|Zc<|Za rfl ?_
 obtain ⟨H1,fH1,kH1⟩:=Jq (kn:=kn) (lo:=lo) (H:=H) hs hl hn (by omega) hm
 refine Zs (vs:=[.slice sa n cap]) rfl (Zh fH1) ?_
 have mH1:=kH1.1
 have hk:=hk.trans kH1
 have hs:=kH1.sl0 hs
 refine Za rfl<|Zb<|Zc<|Za rfl<|Zb<|Zc<|Za rfl<|YG (m:=n) rfl<|Za rfl<|Zb ?_
 refine Zx (fn:=Try.f32) Zh8 N32 ZgZ (fun z:Nat × Value=>[(0,.slice sa n cap),(1,iv tot),(5,iv (YD ms)),(6,z.2),(13,.slice sa n cap),(14,iv (n:Int)),(15,iv (z.1:Int))])
  (fun k z H'=>z.1+k=n∧Keep H H' []∧H1.next≤H'.next∧Sl H' sa n cap (mbc ms)∧Acc lo H1.next 44 H' z.2 ((ms.take z.1).map (shQ ms tot)).length (qtc ((ms.take z.1).map (shQ ms tot)))) n (0,.slice none 0 0) ⟨by simp,hk,Nat.le_refl _,hs,.inl ⟨rfl,rfl,rfl⟩⟩ ⟨rfl,rfl,rfl,rfl,rfl,rfl,rfl,trivial⟩ ?_
 rintro k ⟨i,wv⟩ L1 ⟨hik,hk,hnx,hs,hacc⟩
 simp only [] at hik hacc
 have mk:=hk.1;have kacc:=Keep.refl L1 [];have hql:((ms.take i).map (shQ ms tot)).length=i:=by rw [List.length_map,List.length_take];omega
 refine Zc<|ZF (a:=(i:Int)) (b:=(n:Int)) rfl rfl<|Zb ?_
 refine And.intro (fun q1=>?_) (fun q1=>?_)
 ·have q1:(i:Int) < (n:Int):=of_decide_eq_true q1
  have hi:i < n:=by omega
  rcases id hs with ⟨_,h0s,_⟩ | ⟨sb,es,rs,_⟩
  ·omega
  have ls:=rs.1
  have lsb2:=fs sb es
  have hmi:=Xt (z:=Mb.z) hm (show i < ms.length by omega);obtain ⟨hm1,hm2,hm3,hm4⟩:=hmi;have hmul:=ZcH ht0 ht1 hm3 hm4
  first | refine Zl ?_ | skip
  refine Zc<|W8 (b:=sb) (o:=0) (k:=i) (j:=(i:Int)) (by rw [← es];rfl) rfl rfl hi<|WF (b:=sb) (o:=0+i * 2) rfl rs (QL (by omega))<|W0 ?_
  intro H2 kH2 nH2 c2
  have c2:Cl H2 L1.next [iv 0,iv 0]:=c2
  have mH2:=kH2.1
  have hk:=hk.trans kH2
  have hs:=kH2.sl0 hs
  have kacc:=kacc.trans kH2
  have rs:=kH2.rd rs (by simp)
  refine Vs (b:=L1.next) (o:=0) rfl rfl c2 (by omega) rfl rfl (by simp) ?_
  intro H3 kH3 nH3 sH3
  have mH3:=kH3.1
  have hk:=hk.new kH3 (fun b hb=>by simp at hb ⊢;omega)
  have hs:=kH3.sl hs (fun b e=>by have:=fs b e;first | (simp;done) | (simp;omega))
  have kacc:=kacc.new kH3 (fun b hb=>by simp at hb ⊢;omega)
  have rs:=kH3.rd rs (by first | (simp;done) | (simp;omega))
  have c2:Cl H3 L1.next [iv ((ms.getD i Mb.z).g),iv ((ms.getD i Mb.z).b)]:=sH3
  refine Zb ?_
  first | refine Z2 ?_ | refine Wm ?_ | refine Vt ?_ | (refine YO ?_;refine Z2 ?_)
  refine Zf rfl<|Yl (b:=L1.next) (o:=0) rfl<|ZP (b:=L1.next) (o:=0) (v:=iv ((ms.getD i Mb.z).g)) rfl c2.rd rfl<|Yl (b:=L1.next) (o:=0) rfl<|ZP (b:=L1.next) (o:=1) (v:=iv ((ms.getD i Mb.z).b)) rfl c2.rd rfl<|Zf rfl<|Yl (b:=L1.next) (o:=0) rfl<|ZP (b:=L1.next) (o:=1) (v:=iv ((ms.getD i Mb.z).b)) rfl c2.rd rfl<|Zco (a:=tot) (b:=(ms.getD i Mb.z).b) rfl rfl ⟨by omega,by omega⟩<|Zf rfl<|ZgD (a:=tot * ((ms.getD i Mb.z).b)) (b:=(YD ms)) rfl rfl (by omega) (by omega) ⟨by omega,by omega⟩<|XF (v:=.agg #[iv ((ms.getD i Mb.z).g),iv ((ms.getD i Mb.z).b),iv ((tot * ((ms.getD i Mb.z).b)) / (YD ms))]) rfl (by kernel_rfl) ?_
  obtain ⟨H4,hH4⟩:∃ H4,H3.new (.cells [iv ((ms.getD i Mb.z).g),iv ((ms.getD i Mb.z).b),iv ((tot * ((ms.getD i Mb.z).b)) / (YD ms))] 44 false)=H4:=⟨_,rfl⟩
  refine Q7 (H':=H4) (k:=.heavy) rfl (by kernel_rfl) ((Xu (v:=.agg #[iv ((ms.getD i Mb.z).g),iv ((ms.getD i Mb.z).b),iv ((tot * ((ms.getD i Mb.z).b)) / (YD ms))]) ZdX Zh9 rfl rfl rfl (by decide)).trans (by rw [← hH4];rfl)) (fun b e=>by cases e) ?_
  obtain ⟨kH4,nH4,c4⟩:=ZL hH4;clear hH4
  have c4:Cl H4 H3.next [iv ((ms.getD i Mb.z).g),iv ((ms.getD i Mb.z).b),iv ((tot * ((ms.getD i Mb.z).b)) / (YD ms))]:=c4
  have mH4:=kH4.1
  have hk:=hk.trans kH4
  have hs:=kH4.sl0 hs
  have kacc:=kacc.trans kH4
  have rs:=kH4.rd rs (by simp)
  have c2:=kH4.cl c2 (by simp)
  obtain ⟨H5,kdH5,eH5,dH5,aH5,kbH5⟩:=YB (P:=Try.prog) (lo:=lo) (k:=((ms.take i).map (shQ ms tot)).length) (t1:=27) ZdX Zix (c4.sl (Nat.le_refl 1)) rfl (by decide) rfl (by rw [qi]) (by omega) (hacc.keep kacc) (by omega) (by omega)
  refine Q7 (k:=kdH5) rfl (by cases wv<;>kernel_rfl) (eH5 _ _ _ _ _ _ _ rfl rfl) (Jj dH5 _) ?_
  have hk:=kbH5.keep hk (by omega)
  have hs:=kbH5.sl hs (fun b e=>by have:=fs b e;omega)
  have mH5:=kbH5.1
  refine Zf rfl ?_
  refine ZN (by rcases dH5 with rfl | ⟨bH5,rfl,hbH5⟩<;>repeat' first | exact True.intro | exact (fun h=>h) | refine And.intro ?_ ?_ | (intro h;have h:(_:Nat)=_:=h;omega)) ?_
  show Zp _ _ _ _ _ _ _ _
  refine Zy (a:=(i:Int)) (b:=1) rfl rfl ⟨by omega,by omega⟩<|Za rfl<|Zb ?_
  have hU:ms.take (i+1)=ms.take i ++ [(ms.getD i Mb.z)]:=Xj (by omega)
  have hacc2:Acc lo H1.next 44 H5 (.slice (some ⟨H4.next,0,none⟩) (((ms.take i).map (shQ ms tot)).length+1) (((ms.take i).map (shQ ms tot)).length+1)) ((ms.take (i+1)).map (shQ ms tot)).length (qtc ((ms.take (i+1)).map (shQ ms tot))):=by unfold qtc at *;rw [hU,List.map_append,List.flatMap_append,List.length_append];exact aH5
  exact ⟨k - 1,(i+1,_),by omega,⟨by simp only [];omega,hk,by omega,hs,hacc2⟩,rfl,rfl,rfl,rfl,rfl,rfl,rfl,trivial⟩
 ·have q1:¬ ((i:Int) < (n:Int)):=of_decide_eq_false q1
  have ein:i=n:=by omega
  rw [ein,← hl,List.take_length] at hacc
  have hshl:(ms.map (shQ ms tot)).length=n:=by rw [List.length_map,hl]
  rw [hshl] at hacc
  rcases hacc with ⟨q0,_⟩ | ⟨qb,rfl,q0,q1,q2,q3,q4⟩
  ·exfalso;omega
  have hq:Cl L1 qb (qtc (shJ ms tot (fun i=>i) 0)):=⟨q3,44,true,by rw [Ze9];exact q4⟩
  have hq:Cl L1 qb (qtc (shP ms tot)):=⟨q3,44,true,q4⟩
  first | (refine ZC ?_;show wC _ _ _ _ _ _ _ _ _) | skip
  refine Zc<|Za rfl<|Za rfl ?_
  obtain ⟨s,ib,H6,fH6,hp,hso,hib1,hib2,hib3,hib4,kH6⟩:=Zed (kn:=kn) (lo:=lo) (H:=L1) hs hl hn (by omega) hm hn160 h0 ht0 ht1 ha0 ha1
  refine Zs (vs:=[.slice sa n cap,iv tot]) rfl (Zh fH6) ?_
  have mH6:=kH6.1
  have hk:=hk.trans kH6
  have hs:=kH6.sl0 hs
  have hq:=kH6.cl hq (by simp)
  have hib:Acc lo 0 3 H6 (.slice (some ⟨ib,0,none⟩) n n) n (cI (Jp n s)):=.inr ⟨ib,rfl,h0,by omega,hib2,hib3,hib4⟩
  refine Za rfl<|Za rfl ?_
  have hqs:Sl H6 (some ⟨qb,0,none⟩) n n (qtc (shP ms tot)):=.inr ⟨qb,rfl,hq.rd,Nat.le_refl _⟩
  obtain ⟨H7,fH7,kH7⟩:=JN (kn:=kn) (lo:=lo) (H:=H6) hqs (by unfold shP;exact hshl) hn (by omega) (Zdg hm ht0 ht1 ha0)
  refine Zs (vs:=[.slice (some ⟨qb,0,none⟩) n n]) rfl (Zh fH7) ?_
  have mH7:=kH7.1
  have hk:=hk.trans kH7
  have hs:=kH7.sl0 hs
  have hq:=kH7.cl hq (by simp)
  have hib:=hib.keep kH7
  have hmk:=jU (tot:=tot) ha0;have hmd:U0 ms tot=tot - Xr (shP ms tot):=rfl;have haa:0≤Xr (shP ms tot):=yp fun a ha=>(ZaY (Zdg hm ht0 ht1 ha0) a ha).1
  refine ZZ (a:=tot) (b:=(Xr (shP ms tot))) rfl rfl ⟨by omega,by omega⟩ ?_
  obtain ⟨K,eK⟩:∃ K:Nat,K=(U0 ms tot).toNat:=⟨_,rfl⟩
  have hK:tot - Xr (shP ms tot)=(K:Int):=by omega
  rw [hK]
  obtain ⟨tv,kdt,et,dt,_,ta,htv,hts,hta⟩:=jl (lo:=lo) (k:=K) hib (by rw [qU]) (by omega)
  have hta:=hta h0;cases hta;subst htv
  refine XQ (v:=.slice (some ⟨ib,0,none⟩) K n) (H':=H7) (k:=kdt) rfl rfl (et _ _ _ _ _ _ _ rfl rfl) (by rcases dt with rfl | ⟨bR,rfl,hbR⟩;exact (fun b e=>by cases e);exact (fun b e=>by cases e;exact hbR)) ?_
  have hri:Rd H7 ib (cI (Jp n s)):=by rcases hib with ⟨z,_⟩ | ⟨z,ez,_,_,_,z1,z2⟩;omega;cases ez;exact ⟨z1,by unfold cellsOf;rw [z2]⟩
  refine YG (m:=K) rfl<|Za rfl<|Zb ?_
  have hq:Cl H7 qb (qtc (shJ ms tot s 0)):=by rw [Ze9];exact hq
  refine Zx (fn:=Try.f32) Zh6 N32 ZiI (fun j:Nat=>[(6,.slice (some ⟨qb,0,none⟩) n n),(41,.slice (some ⟨ib,0,none⟩) K n),(42,iv (K:Int)),(43,iv (j:Int))])
   (fun k j H'=>j+k=K∧Keep H H' []∧H7.next≤H'.next∧Rd H' ib (cI (Jp n s))∧Cl H' qb (qtc (shJ ms tot s j))) K 0 ⟨by omega,hk,Nat.le_refl _,hri,hq⟩ ⟨rfl,rfl,rfl,rfl,trivial⟩ ?_
  rintro k j L2 ⟨hjk,hk,hnx2,hri,hq⟩
  have mk:=hk.1
  refine Zc<|ZF (a:=(j:Int)) (b:=(K:Int)) rfl rfl<|Zb ?_
  refine And.intro (fun q2=>?_) (fun q2=>?_)
  ·have q2:(j:Int) < (K:Int):=of_decide_eq_true q2
   have hjn:j < n:=by omega
   have hsj:=qy hp hjn;have hij:=Zd4 (s:=s) hjn
   have hpl:PRm 0 ms.length (fun i=>i) s:=hl.symm ▸ hp
   have hnot:=ZeH (tot:=tot) hpl (by omega:j < ms.length)
   have hmi:=Xt (z:=Mb.z) hm (show s j < ms.length by omega);obtain ⟨hm1,hm2,hm3,hm4⟩:=hmi;have hmul:=ZcH ht0 ht1 hm3 hm4;have hqd:=Int.ediv_nonneg hmul.1 (show 0≤YD ms by omega);have hqe:=Int.ediv_le_self (YD ms) hmul.1
   first | refine Zl ?_ | skip
   refine Zc<|W8 (b:=ib) (o:=0) (k:=j) (j:=(j:Int)) rfl rfl rfl (by omega)<|Yq (b:=ib) (o:=0+j * 1) (v:=iv (s j:Int)) rfl hri (by rw [← hij];exact Zaa (by rw [qU];omega))<|Za rfl<|Zb ?_
   show Zp _ _ _ _ _ _ _ _
   refine Za rfl<|Za rfl<|W8 (b:=qb) (o:=0) (k:=s j) (j:=(s j:Int)) rfl rfl rfl (by omega)<|ZK (b:=qb) (o:=0+(s j) * 3) rfl<|Yq (b:=qb) (o:=0+(s j) * 3+2) (v:=iv (((shJ ms tot s j).getD (s j) Qt.z).a)) rfl hq.rd (Zbm (l:=shJ ms tot s j) (i:=(s j)) (j:=2) (by rw [UO];omega) rfl)<|Zy (a:=((shJ ms tot s j).getD (s j) Qt.z).a) (b:=1) rfl rfl ⟨by omega,by omega⟩<|W8 (b:=qb) (o:=0) (k:=s j) (j:=(s j:Int)) rfl rfl rfl (by omega)<|ZK (b:=qb) (o:=0+(s j) * 3) rfl<|ZcB (b:=qb) (o:=0+s j * 3+2) rfl rfl hq (by omega) rfl rfl (by rw [qi,UO];omega) ?_
   intro H8 kH8 nH8 sH8
   have mH8:=kH8.1
   have hq:Cl H8 qb (qtc (shJ ms tot s (j+1))):=by rw [← ZgM hpl (by omega:j < ms.length)];rw [ZeM (by rw [UO];omega),hnot,ZdL (by omega)] at sH8;exact sH8
   have hk:=hk.new kH8 (fun b hb=>.inr (by simp at hb;omega))
   have hri:=kH8.rd hri (by simp;omega)
   refine Zb ?_
   show Zp _ _ _ _ _ _ _ _
   refine Zy (a:=(j:Int)) (b:=1) rfl rfl ⟨by omega,by omega⟩<|Za rfl<|Zb ?_
   exact ⟨k - 1,j+1,by omega,⟨by omega,hk,by omega,hri,hq⟩,rfl,rfl,rfl,rfl,trivial⟩
  ·have q2:¬ ((j:Int) < (K:Int)):=of_decide_eq_false q2
   first | (refine ZC ?_;show wC _ _ _ _ _ _ _ _ _) | skip
   refine Zc<|Za rfl<|Za rfl<|Zb ?_
   have ejK:j=K:=by omega
   rw [ejK,eK] at hq
   exact And.intro trivial (Exists.intro _ (And.intro rfl ⟨s,qb,rfl,hp,hso,by omega,hq,hk⟩))
end
end
end Go.Ax

/-
 Pool: gather: the amounts of each grower,in a map (44) (written by program).
-/
namespace Go.Ax
open Go Go.RowKit Go.Proofs

noncomputable section
section
variable {P:Program} {kn:Kn} {lo n:Nat} {r:List RO} {S:Rg} {H:Hp} {K:Rg→Hp→Prop} {d:Option Nat} {rd:Bool} {masks:List Nat}
theorem jo {ops:List RO} {K:Exit→Rg→Hp→Prop} (h:Zv P kn lo n masks ops [] S H fun S' H'=>K .normal S' H'):wCM P kn lo n rd (.dreg ops masks) S H K:=.inl h
theorem Zdf {id:Nat} {ops:List RO} {K:Exit→Rg→Hp→Prop} (h:Zv P kn lo n masks ops [] S H fun S' H'=>K .normal S' H'):wCM P kn lo n rd (.block id (.dreg ops masks)) S H K:=.inl h
theorem Zdl {id:Nat} {ops:List RO} {c:RC} {K:Exit→Rg→Hp→Prop} (h:Zv P kn lo n masks ops [] S H fun S' H'=>wCM P kn lo n rd c S' H' K):wCM P kn lo n rd (.seq (.block id (.dreg ops masks)) c) S H K:=.inl h
theorem XM (s:Snd P kn) {c:Call} {f:FuncId} {v:Value} {args:List Value} {t0:Bool} (ht:YH S c=some (.fn (.func f) #[],v :: args)) (h:∃ H',FnX P kn lo f (v :: args) H (.bool t0) H'∧Keep H H' [])
  (hk:∀ t H',t0=t→Keep H H' []→Zo P kn lo n r (Zt S d (.bool t)) H' K) (hs:Ww f=false:=by rfl):Zo P kn lo n (⟨d,none,.call c true⟩ :: r) S H K:=by
 obtain ⟨H',hf,k⟩:=h
 exact Z3 s ht (Zh hf hs) (hk t0 H' rfl k)
end
theorem Jr {P:Program} {lo:Nat} {H:Hp} {t0 t1 e ep:TypeId} {size k cap2 f:Nat} {a:Option Addr} {v:Value} {cs news:List Value} (he:ZT P t0=some (e,size)) (ht:P.underlying t1=some (.slice ep))
  (hs:Sl H a 1 cap2 news) (hl:news.length=1 * size) (hz:0 < size) (hone:news.all one=true) (hcl:cs.length=k * size) (hk:k < 1000) (ha:Acc lo f e H v k cs) (hlo:lo≤H.next) (hf:f≤H.next) :
  ∃ H1 kd,(∀ (n:Nat) (S:Rg) (d:Option Tmp) (x y:Operand) (ty:TypeId) (p:String),evS S x=some v→evS S y=some (.slice a 1 cap2)→Zu P lo (frS n S) H ⟨d,.call ⟨.builtin .append,#[x,y],#[t0,t1]⟩,ty,p,#[],none⟩=some (.val (.slice (some ⟨H.next,0,none⟩) (k+1) (k+1)) H1,kd))∧(kd=.heavy∨∃ b,kd=.store b∧f≤b∧bkv v=some b)∧
   Acc lo f e H1 (.slice (some ⟨H.next,0,none⟩) (k+1) (k+1)) (k+1) (cs ++ news)∧YR f H H1∧(∀ (w:Value) (m:Nat) (ds:List Value),Acc lo f e H w m ds→Ap v w→Acc lo f e H1 w m ds):=by
 rcases ha with ⟨rfl,rfl,rfl⟩ | ⟨b,rfl,h0,hb,hlb,hn,hg⟩
 ·refine ⟨H.new (.cells news e true),.heavy,?_,.inl rfl,?_,YR.of (ZL rfl).1 hf,fun w m ds hw _=>hw.keep (ZL rfl).1⟩
  ·intro n S d x y ty p hx hy
   unfold Zu
   simp only [evs,Ym,hx,hy,Yw,List.getElem?_toArray,List.getElem?_cons_zero,List.getElem?_cons_succ,he,ht,Jl hs hl,Z9]
   rfl
  ·refine .inr ⟨H.next,rfl,by omega,hf,hlo,Nat.lt_succ_self _,?_⟩
   show (H.t.set H.next _).get H.next=_
   rw [Tr.get_set,if_pos rfl];rfl
 ·have h1:Nat.ble (0+(k+1) * size) cs.length=false:=by
   cases h:Nat.ble (0+(k+1) * size) cs.length with
   | false=>rfl
   | true=>have:=Nat.le_of_ble_eq_true h;rw [hcl,Nat.succ_mul] at this;omega
  have h2:Nat.beq (0+k * size) cs.length=true:=by rw [hcl,Nat.zero_add];exact Nat.beq_refl _
  have h3:Nat.ble (k+1) 1048576=true:=Nat.ble_eq_true_of_le (by omega)
  have h4:Nat.beq e e=true:=Nat.beq_refl e
  refine ⟨({ H with t:=H.t.set b .dead }:Hp).new (.cells (cs ++ news) e true),.store b,?_,.inr ⟨b,rfl,hb,rfl⟩,?_,?_,?_⟩
  ·intro n S d x y ty p hx hy
   unfold Zu
   simp only [evs,Ym,hx,hy,Yw,List.getElem?_toArray,List.getElem?_cons_zero,List.getElem?_cons_succ,he,ht,Jl hs hl,Z9,hg,h1,h2,h3,h4,hone,Nat.ble_eq_true_of_le hlb,Bool.and_self,cond_true,cond_false,List.drop_zero,show Nat.beq 1 0=false from rfl]
  ·refine .inr ⟨H.next,rfl,by omega,hf,hlo,Nat.lt_succ_self _,?_⟩
   show ((H.t.set b .dead).set H.next _).get H.next=_
   rw [Tr.get_set,if_pos rfl]
  ·exact zf hb hf
  ·intro w m ds hw hap
   rcases hw with h | ⟨b2,rfl,q1,q2,q3,q4,q5⟩
   ·exact .inl h
   ·have hne:b≠b2:=hap b b2 rfl rfl
    refine .inr ⟨b2,rfl,q1,q2,q3,Nat.lt_succ_of_lt q4,?_⟩
    show ((H.t.set b .dead).set H.next _).get b2=_
    rw [Tr.get_set,if_neg (by omega),Tr.get_set,if_neg (fun e=>hne e.symm)]
    exact q5
section
variable {P:Program} {lo:Nat} {H:Hp} {α:Type} [DecidableEq α] {enc:α→Value}
theorem Zad {tm tk te:TypeId} (k:XE P tk enc) (hu:P.underlying tm=some (.map tk te)) {b c:Nat} {L:ML α} {a:α} {v:Value} (hm:Mqa enc H b L c) (hl:lo≤b) :
  ∃ H',(∀ (S:Rg) (n:Nat) x y w dd ty p,evS S x=some (.map (some b))→evS S y=some (enc a)→evS S w=some v→Zu P lo (frS n S) H ⟨dd,.mapUpdate tm x y w,ty,p,#[],none⟩=some (.skip H',.store b))∧Keep H H' [b]∧H'.next=H.next∧Mqa enc H' b (Y6 a v c L) (YY a c L):=by
 obtain ⟨k1,k2⟩:=Jd (H:=H) (b:=b) (o:=.mq (mEs enc (Y6 a v c L)) (YY a c L)) (fun cs e=>by cases e)
 exact ⟨_,fun S n x y w dd ty p hx hy hw=>ZbK k hu hx hy hw hm hl,k1,rfl,hm.1,k2⟩
theorem YR.mqa {f:Nat} {H H1:Hp} {b:Nat} {L:ML α} {c:Nat} (k:YR f H H1) (h:Mqa enc H b L c) (hb:b < f):Mqa enc H1 b L c:=⟨Nat.lt_of_lt_of_le h.1 k.le,by rw [k.same b hb];exact h.2⟩
theorem Acc.keepB {lo f f2:Nat} {e:TypeId} {H H1:Hp} {v:Value} {n:Nat} {cs:List Value} (h:Acc lo f e H v n cs) (k:YR f2 H H1) (hx:∀ b,bkv v=some b→b < f2):Acc lo f e H1 v n cs:=
 h.imp id fun ⟨b,e1,h0,hf,hl,hn,hg⟩=>⟨b,e1,h0,hf,hl,Nat.lt_of_lt_of_le hn k.le,by rw [k.same b (hx b (by rw [e1];rfl))];exact hg⟩
theorem Acc.keepN {lo f:Nat} {e:TypeId} {H H1:Hp} {v:Value} {n bd:Nat} {cs:List Value} (h:Acc lo f e H v n cs) (k:Keep H H1 [bd]) (hx:∀ b,bkv v=some b→b≠bd):Acc lo f e H1 v n cs:=
 h.imp id fun ⟨b,e1,h0,hf,hl,hn,hg⟩=>⟨b,e1,h0,hf,hl,Nat.lt_of_lt_of_le hn k.1,by rw [k.2 b hn (by have:=hx b (by rw [e1];rfl);simpa using this)];exact hg⟩
theorem Acc.lt {lo f:Nat} {e:TypeId} {H:Hp} {v:Value} {n:Nat} {cs:List Value} (h:Acc lo f e H v n cs) (b:Nat) (hb:bkv v=some b):b < H.next:=by
 rcases h with ⟨_,_,rfl⟩ | ⟨b2,rfl,_,_,_,hn,_⟩
 ·cases hb
 ·cases hb;exact hn
end
theorem Zfh:Try.prog.underlying 80=some (.map 3 67):=by kernel_rfl
theorem Zgf:ZB Try.prog (zeroValue 67)=some (.slice none 0 0):=by kernel_rfl
structure Gat (lo f:Nat) (g:Gl) (cs:List Cp) (H:Hp) (L:ML Int) (c:Nat):Prop where
 wf:WfA L c
 key:∀ x,(Z7 x L).isSome=true↔YE g x cs≠[]
 val:∀ x v,Z7 x L=some v→Acc lo f 3 H v (YE g x cs).length (cI (YE g x cs))
 ap:∀ x y v w,x≠y→Z7 x L=some v→Z7 y L=some w→Ap v w
theorem Gat.nil {lo f:Nat} {g:Gl} {H:Hp}:Gat lo f g [] H [] 0:=⟨WfA.nil,fun x=>by simp [Z7,YE],(fun x v h=>by cases h),(fun x y v w _ h=>by cases h)⟩
theorem Gat.keep {lo f:Nat} {g:Gl} {cs:List Cp} {H H1:Hp} {L:ML Int} {c:Nat} (h:Gat lo f g cs H L c) (k:Keep H H1 []):Gat lo f g cs H1 L c:=⟨h.wf,h.key,fun x v e=>(h.val x v e).keep k,h.ap⟩
theorem Gat.keepW {lo f b:Nat} {g:Gl} {cs:List Cp} {H H1:Hp} {L:ML Int} {c:Nat} (h:Gat lo f g cs H L c) (k:Keep H H1 [b]) (hb:b < f):Gat lo f g cs H1 L c:=⟨h.wf,h.key,fun x v e=>(h.val x v e).keepW k hb,h.ap⟩
theorem Gat.at' {lo f:Nat} {g:Gl} {cs:List Cp} {H:Hp} {L:ML Int} {c:Nat} (h:Gat lo f g cs H L c) (x:Int):Acc lo f 3 H ((Z7 x L).getD (.slice none 0 0)) (YE g x cs).length (cI (YE g x cs)):=by
 cases e:Z7 x L with
 | some v=>exact h.val x v e
 | none=>
  have:YE g x cs=[]:=Classical.byContradiction fun q=>by have:=(h.key x).2 q;rw [e] at this;cases this
  rw [this];exact .inl ⟨rfl,rfl,rfl⟩
theorem Zf5 {g:Gl} {x:Int} {c:Cp} (h:inY g c=false):okX g x c=false:=by simp [okX,h]
theorem ZfT {g:Gl} {x:Int} {c:Cp} (h:c.r≠x):okX g x c=false:=by simp [okX,h]
theorem Gat.no {lo f:Nat} {g:Gl} {cs:List Cp} {i:Nat} {H:Hp} {L:ML Int} {c:Nat} (h:Gat lo f g (cs.take i) H L c) (hi:i < cs.length) (hy:inY g (cs.getD i Cp.z)=false):Gat lo f g (cs.take (i+1)) H L c:=by
 have e:∀ x,YE g x (cs.take (i+1))=YE g x (cs.take i):=fun x=>ZaU hi (Zf5 hy)
 exact ⟨h.wf,fun x=>by rw [e];exact h.key x,fun x v q=>by rw [e];exact h.val x v q,h.ap⟩
theorem Gat.yes {lo f:Nat} {g:Gl} {cs:List Cp} {i:Nat} {H H1:Hp} {L:ML Int} {c j1 j2:Nat} (h:Gat lo f g (cs.take i) H L c) (hi:i < cs.length) (hy:inY g (cs.getD i Cp.z)=true) {v0:Value} (e0:v0=(Z7 (cs.getD i Cp.z).r L).getD (.slice none 0 0))
  (q3:Acc lo f 3 H1 (.slice (some ⟨H.next,0,none⟩) j1 j2) ((YE g (cs.getD i Cp.z).r (cs.take i)).length+1) (cI (YE g (cs.getD i Cp.z).r (cs.take i)) ++ [iv (cs.getD i Cp.z).a]))
  (q5:∀ (w:Value) (m:Nat) (ds:List Value),Acc lo f 3 H w m ds→Ap v0 w→Acc lo f 3 H1 w m ds) :
  Gat lo f g (cs.take (i+1)) H1 (Y6 (cs.getD i Cp.z).r (.slice (some ⟨H.next,0,none⟩) j1 j2) c L) (YY (cs.getD i Cp.z).r c L):=by
 have e1:YE g (cs.getD i Cp.z).r (cs.take (i+1))=YE g (cs.getD i Cp.z).r (cs.take i) ++ [(cs.getD i Cp.z).a]:=Zc6 hi (by unfold okX;rw [hy];simp)
 have e2:∀ x,x≠(cs.getD i Cp.z).r→YE g x (cs.take (i+1))=YE g x (cs.take i):=fun x hx=>ZaU hi (ZfT fun q=>hx q.symm)
 have ha:∀ y w,y≠(cs.getD i Cp.z).r→Z7 y L=some w→Ap v0 w:=by
  intro y w hy e
  cases q:Z7 (cs.getD i Cp.z).r L with
  | none=>rw [q] at e0;subst e0;intro b c h;cases h
  | some u=>rw [q] at e0;subst e0;exact h.ap _ _ _ _ (fun q=>hy q.symm) q e
 refine ⟨h.wf.put _ _,fun x=>?_,fun x v e=>?_,fun x y v w hxy ex ey=>?_⟩
 ·rw [VK]
  split
  ·rename_i q;subst q;rw [e1];simp
  ·rename_i q;rw [e2 x q];exact h.key x
 ·rw [VK] at e
  split at e
  ·rename_i q;subst q;cases e;rw [e1,List.length_append];unfold cI at *;rw [List.map_append];exact q3
  ·rename_i q;rw [e2 x q];exact q5 _ _ _ (h.val x v e) (ha x v q e)
 ·rw [VK] at ex ey
  split at ex
  ·rename_i q;subst q;cases ex
   rw [if_neg (fun q=>hxy q.symm)] at ey
   exact (h.val y w ey).ap _ _
  ·split at ey
   ·cases ey;exact ((h.val x v ex).ap _ _).symm
   ·exact h.ap x y v w hxy ex ey
theorem Ut {L:ML Int} {x:Int}:(Z7 x L).isSome=true↔x∈L.map (·.1):=KN
theorem Gat.len {lo f:Nat} {g:Gl} {cs:List Cp} {H:Hp} {L:ML Int} {c:Nat} (h:Gat lo f g cs H L c):L.length≤cs.length:=by
 have:=Xy (D:=L.map (·.1)) (L:=cs.map (·.r)) h.wf.keys fun x hx=>by
  obtain ⟨c,hc,e,_⟩:=Q9.1 ((h.key x).1 (Ut.2 hx))
  exact List.mem_map.2 ⟨c,hc,e⟩
 simpa using this
section
variable {kn:Kn} {lo:Nat} {H:Hp}
set_option maxRecDepth 100000 in
set_option maxHeartbeats 1000000 in
theorem Zb7 (s:Snd Try.prog kn) {cs:List Cp} {sa:Option Addr} {n cap:Nat} {g:Gl} (hs:Sl H sa n cap (cpc cs)) (hl:cs.length=n) (hn:n≤260) (hb:cs.any Xe=false) (hg:vG g=true) (hlo:lo≤H.next) :
  FnM Try.prog lo 44 [.slice sa n cap,.agg (Gl.f g).toArray] H fun v H'=>∃ mb L c f,v=.map (some mb)∧H.next≤mb∧mb < f∧f≤H'.next∧Mqa iv H' mb L c∧Gat lo f g cs H' L c∧Keep H H' []:=by
 refine WP s Try.func44 B44 N44 Z44 L44 (by simp) ?_
 have hk:=Keep.refl H []
 have fs:=hs.old
 have hgt:=qO hg
 refine Zm<|Uz (v:=.agg (Gl.f g).toArray) rfl ?_
 intro H1 kH1 nH1 c1
 have c1:Cl H1 H.next [iv g.y,iv g.k,iv g.b,iv g.p]:=c1
 have mH1:=kH1.1
 have hk:=hk.trans kH1
 have hs:=kH1.sl0 hs
 refine Zd rfl<|Zi<|Zm<|qJ (enc:=iv) ?_
 intro H2 kH2 nH2 hmq
 have mH2:=kH2.1
 have hk:=hk.trans kH2
 have hs:=kH2.sl0 hs
 have c1:=kH2.cl c1 (by simp)
 refine Zd rfl<|Zi<|Zm<|Zd rfl<|Jz (m:=n) rfl<|Zd rfl<|Zi ?_
 refine Wl s (fn:=Try.f44) Zht N44 ZhN (fun i:Nat=>[(3,pt H.next),(5,.map (some H1.next)),(9,.slice sa n cap),(10,iv (n:Int)),(11,iv (i:Int))])
  (fun k i H'=>i+k=n∧Keep H H' []∧H2.next≤H'.next∧Sl H' sa n cap (cpc cs)∧Cl H' H.next [iv g.y,iv g.k,iv g.b,iv g.p]∧∃ L c,Mqa iv H' H1.next L c∧Gat lo H2.next g (cs.take i) H' L c) n 0 ⟨by omega,hk,Nat.le_refl _,hs,c1,[],0,hmq,Gat.nil⟩ ⟨rfl,rfl,rfl,rfl,rfl,trivial⟩ ?_
 rintro k i L1 ⟨hik,hk,hnx,hs,cg,L,c,hmq,hG⟩
 have mk:=hk.1;have kacc:=Keep.refl L1 []
 refine Zm<|UG (a:=(i:Int)) (b:=(n:Int)) rfl rfl<|Zi ?_
 refine And.intro (fun q1=>?_) (fun q1=>?_)
 ·have q1:(i:Int) < (n:Int):=of_decide_eq_true q1
  have hi:i < n:=by omega
  rcases id hs with ⟨_,h0s,_⟩ | ⟨sb,es,rs,_⟩
  ·omega
  have ls:=rs.1
  have lsb2:=fs sb es
  have hcx:=qe (Zgm (z:=Cp.z) hb (show i < cs.length by omega))
  have hla:=jA (g:=g) (x:=(cs.getD i Cp.z).r) (cs:=cs.take i)
  rw [List.length_take] at hla
  first | refine Z8 ?_ | skip
  refine Zm<|yn (b:=sb) (o:=0) (k:=i) (j:=(i:Int)) (by rw [← es];rfl) rfl rfl hi<|YW (b:=sb) (o:=0+i * 3) rfl rs (Kv (by omega))<|qz ?_
  intro H3 kH3 nH3 c3
  have c3:Cl H3 L1.next [iv 0,iv 0,iv 0]:=c3
  have mH3:=kH3.1
  have hk:=hk.trans kH3
  have hs:=kH3.sl0 hs
  have cg:=kH3.cl cg (by simp)
  have kacc:=kacc.trans kH3
  have rs:=kH3.rd rs (by simp)
  refine qd (b:=L1.next) (o:=0) rfl rfl c3 (by omega) rfl rfl (by simp) ?_
  intro H4 kH4 nH4 sH4
  have mH4:=kH4.1
  have hk:=hk.new kH4 (fun b hb=>by simp at hb ⊢;omega)
  have hs:=kH4.sl hs (fun b e=>by have:=fs b e;first | (simp;done) | (simp;omega))
  have cg:=kH4.cl cg (by first | (simp;done) | (simp;omega))
  have kacc:=kacc.new kH4 (fun b hb=>by simp at hb ⊢;omega)
  have rs:=kH4.rd rs (by first | (simp;done) | (simp;omega))
  have c3:Cl H4 L1.next [iv ((cs.getD i Cp.z).r),iv ((cs.getD i Cp.z).y),iv ((cs.getD i Cp.z).a)]:=sH4
  refine Zi<|Zm<|Xn (b:=L1.next) (o:=0) rfl<|WB (b:=L1.next) (o:=1) (v:=iv ((cs.getD i Cp.z).y)) rfl c3.rd rfl<|Xn (b:=H.next) (o:=0) rfl<|WB (b:=H.next) (o:=0) (v:=iv g.y) rfl cg.rd rfl<|Xn (b:=H.next) (o:=0) rfl<|WB (b:=H.next) (o:=1) (v:=iv g.k) rfl cg.rd rfl<|ZgE (a:=g.y) (b:=g.k) rfl rfl ⟨by omega,by omega⟩<|KR (a:=(cs.getD i Cp.z).y) (b:=g.y - g.k) rfl rfl ?_
  intro t2 g2;cases t2
  ·have g2:¬ (((cs.getD i Cp.z).y) ≥ (g.y - g.k)):=of_decide_eq_false g2
   refine Zd rfl<|X5 rfl<|X5 rfl<|X5 rfl<|X5 rfl<|X5 rfl<|Zk (v:=.bool false) rfl rfl<|Zi<|ZR ?_
   first | refine Z8 ?_ | skip
   show Zo _ _ _ _ _ _ _ _
   refine WG (a:=(i:Int)) (b:=1) rfl rfl ⟨by omega,by omega⟩<|Zd rfl<|Zi ?_
   have hyn:inY g (cs.getD i Cp.z)=false:=by simp only [inY,Bool.and_eq_false_iff,decide_eq_false_iff_not];omega
   exact ⟨k - 1,i+1,by omega,⟨by omega,hk,by omega,hs,cg,L,c,kacc.mqa hmq (by simp),(hG.keep kacc).no (by omega) hyn⟩,rfl,rfl,rfl,rfl,rfl,trivial⟩
  ·have g2:((cs.getD i Cp.z).y) ≥ (g.y - g.k):=of_decide_eq_true g2
   refine Zd rfl ?_
   refine Yd rfl (Xn (b:=L1.next) (o:=0) rfl ?_)
   refine Yd rfl (WB (b:=L1.next) (o:=1) (v:=iv ((cs.getD i Cp.z).y)) rfl c3.rd rfl ?_)
   refine Yd rfl (Xn (b:=H.next) (o:=0) rfl ?_)
   refine Yd rfl (WB (b:=H.next) (o:=0) (v:=iv g.y) rfl cg.rd rfl ?_)
   refine Yd rfl (Kt (a:=(cs.getD i Cp.z).y) (b:=g.y) rfl rfl ?_)
   intro t3 g3;cases t3
   ·have g3:¬ (((cs.getD i Cp.z).y) < g.y):=of_decide_eq_false g3
    refine Zk (v:=.bool false) rfl rfl<|Zi<|ZR ?_
    first | refine Z8 ?_ | skip
    show Zo _ _ _ _ _ _ _ _
    refine WG (a:=(i:Int)) (b:=1) rfl rfl ⟨by omega,by omega⟩<|Zd rfl<|Zi ?_
    have hyn:inY g (cs.getD i Cp.z)=false:=by simp only [inY,Bool.and_eq_false_iff,decide_eq_false_iff_not];omega
    exact ⟨k - 1,i+1,by omega,⟨by omega,hk,by omega,hs,cg,L,c,kacc.mqa hmq (by simp),(hG.keep kacc).no (by omega) hyn⟩,rfl,rfl,rfl,rfl,rfl,trivial⟩
   ·have g3:((cs.getD i Cp.z).y) < g.y:=of_decide_eq_true g3
    refine Zk (v:=.bool true) rfl rfl<|Zi<|Xm ?_
    first | refine jo ?_ | refine Zdf ?_ | refine Zdl ?_ | (refine YO ?_;refine jo ?_)
    refine Zf rfl<|Yl (b:=L1.next) (o:=0) rfl<|ZP (b:=L1.next) (o:=0) (v:=iv ((cs.getD i Cp.z).r)) rfl c3.rd rfl<|Zf rfl<|Yl (b:=L1.next) (o:=0) rfl<|ZP (b:=L1.next) (o:=0) (v:=iv ((cs.getD i Cp.z).r)) rfl c3.rd rfl ?_
    obtain ⟨wv,ewv⟩:∃ wv,wv=(Z7 (cs.getD i Cp.z).r L).getD (.slice none 0 0):=⟨_,rfl⟩
    have hmq1:=kacc.mqa hmq (by simp)
    refine Q7 (v:=wv) (H':=H4) (k:=.read H1.next) (yk rfl rfl) rfl ((Qn ym Zfh Zgf rfl rfl rfl hmq1 false).trans (by rw [ewv];rfl)) (fun q e=>by cases e;exact hmq1.1)<|Yl (b:=L1.next) (o:=0) rfl<|ZP (b:=L1.next) (o:=2) (v:=iv ((cs.getD i Cp.z).a)) rfl c3.rd rfl ?_
    obtain ⟨H5,hH5⟩:∃ H5,H4.new (.cells [iv ((cs.getD i Cp.z).a)] 3 false)=H5:=⟨_,rfl⟩
    refine Q7 (H':=H5) (k:=.heavy) rfl (by kernel_rfl) ((Xu (v:=iv ((cs.getD i Cp.z).a)) ZeE zo3 rfl rfl rfl (by decide)).trans (by rw [← hH5];rfl)) (fun b e=>by cases e) ?_
    obtain ⟨kH5,nH5,c5⟩:=ZL hH5;clear hH5
    have c5:Cl H5 H4.next [iv ((cs.getD i Cp.z).a)]:=c5
    have mH5:=kH5.1
    have hk:=hk.trans kH5
    have hs:=kH5.sl0 hs
    have cg:=kH5.cl cg (by simp)
    have kacc:=kacc.trans kH5
    have rs:=kH5.rd rs (by simp)
    have c3:=kH5.cl c3 (by simp)
    have hG1:=hG.keep kacc
    have hmq1:=kacc.mqa hmq (by simp)
    have hat:=hG1.at' (cs.getD i Cp.z).r
    rw [← ewv] at hat
    have hat0:∀ b,bkv wv=some b→b < L1.next:=by rw [ewv];exact (hG.at' (cs.getD i Cp.z).r).lt
    obtain ⟨H6,kdH6,eH6,dH6,aH6,kbH6,oth⟩:=Jr (P:=Try.prog) (lo:=lo) (k:=(YE g (cs.getD i Cp.z).r (cs.take i)).length) (t1:=67) ZeE Zeh (c5.sl (Nat.le_refl 1)) rfl (by decide) rfl (by rw [qo,Nat.mul_one]) (by omega) hat (by omega) (by omega)
    have dH6:kdH6=.heavy∨∃ b,kdH6=.store b∧H2.next≤b∧b < L1.next:=dH6.imp id fun ⟨b,x,y,z⟩=>⟨b,x,y,hat0 b z⟩
    refine Q7 (k:=kdH6) rfl (by cases wv<;>kernel_rfl) (eH6 _ _ _ _ _ _ _ rfl rfl) (Jj (dH6.imp id fun ⟨b,x,y,_⟩=>⟨b,x,y⟩) _) ?_
    have hk:=kbH6.keep hk (by omega)
    have hs:=kbH6.sl hs (fun b e=>by have:=fs b e;omega)
    have cg:=kbH6.cl cg (by omega)
    have mH6:=kbH6.1
    have hmq1:=kbH6.mqa hmq1 (by omega)
    have hyy:inY g (cs.getD i Cp.z)=true:=by simp only [inY,Bool.and_eq_true,decide_eq_true_eq];omega
    have hG1:=hG1.yes (by omega) hyy ewv aH6 oth
    obtain ⟨H7,fH7,kH7,nH7,hmq2⟩:=Zad (P:=Try.prog) (lo:=lo) (H:=H6) ym Zfh (a:=(cs.getD i Cp.z).r) (v:=.slice (some ⟨H5.next,0,none⟩) ((YE g (cs.getD i Cp.z).r (cs.take i)).length+1) ((YE g (cs.getD i Cp.z).r (cs.take i)).length+1)) hmq1 (by omega)
    refine Zem (b:=H1.next) (Zfr rfl rfl rfl) rfl (fH7 _ _ _ _ _ _ _ _ rfl rfl rfl) ?_
    have mH7:=kH7.1
    have hk:=hk.new kH7 (fun b hb=>by simp at hb ⊢;omega)
    have hs:=kH7.sl hs (fun b e=>by have:=fs b e;first | (simp;done) | (simp;omega))
    have cg:=kH7.cl cg (by first | (simp;done) | (simp;omega))
    have hG2:=hG1.keepW kH7 (by omega)
    refine ZN (by rcases dH6 with rfl | ⟨bH6,rfl,hbH6,hvH6⟩<;>repeat' first | exact True.intro | exact (fun h=>h) | refine And.intro ?_ ?_ | (intro h;have h:(_:Nat)=_:=h;omega)) ?_
    show Zo _ _ _ _ _ _ _ _
    refine WG (a:=(i:Int)) (b:=1) rfl rfl ⟨by omega,by omega⟩<|Zd rfl<|Zi ?_
    exact ⟨k - 1,i+1,by omega,⟨by omega,hk,by omega,hs,cg,_,_,hmq2,hG2⟩,rfl,rfl,rfl,rfl,rfl,trivial⟩
 ·have q1:¬ ((i:Int) < (n:Int)):=of_decide_eq_false q1
  first | (refine Vd ?_;show wCM _ _ _ _ _ _ _ _ _) | skip
  refine Zm<|Zd rfl<|Zd rfl<|Zi ?_
  have e:i=n:=by omega
  rw [e,← hl,List.take_length] at hG
  exact And.intro trivial (Exists.intro _ (And.intro rfl ⟨H1.next,L,c,H2.next,rfl,by omega,by omega,by omega,hmq,hG,hk⟩))
end
end
end Go.Ax

/-
 Pool: membersOf: who counts,with the base,by number (26) (written by program).
-/
namespace Go.Ax
open Go Go.RowKit Go.Proofs

noncomputable section
section
variable {P:Program} {kn:Kn} {lo n:Nat}
theorem UM {rd:Bool} {x y:RC} {S:Rg} {H:Hp} {K:Exit→Rg→Hp→Prop} (h:wCM P kn lo n rd x S H fun e S' H'=>match e with | .normal=>wCM P kn lo n rd y S' H' K | e=>K e S' H'):wCM P kn lo n rd (.seq x y) S H K:=h
theorem zr {rd:Bool} {id:Nat} {b:RC} {S:Rg} {H:Hp} {K:Exit→Rg→Hp→Prop} (h:wCM P kn lo n rd b S H fun e S' H'=>match e with | .exit j=>(bif Nat.beq j id then K .normal S' H' else K (.exit j) S' H') | e=>K e S' H'):wCM P kn lo n rd (.block id b) S H K:=h
theorem K6 {rd:Bool} {c:Code} {S:Rg} {H:Hp} {K:Exit→Rg→Hp→Prop} (h:Yf P lo n rd c S H K):wCM P kn lo n rd (.other c) S H K:=h
theorem Y0 {o:RO} {S:Rg} {H:Hp} {K:Rg→Hp→Prop} (h:Zo P kn lo n [o] S H K):Xf P kn lo n S H o K:=h
theorem KD.own {ops:List RO} {V:Nat→Value} {done:Nat→Bool} {S S':Rg} (h:KD ops V done S S') (i:Nat) {d:Nat} {v:Value} (hi:(ops[i]?).map (·.dst)=some (some d)) (hd:done i=true) (hv:V i=v):lk S' d=some v:=by
 cases ho:ops[i]? with
 | none=>rw [ho] at hi;cases hi
 | some o=>rw [ho] at hi;rw [← hv];exact h.1 i o d ho (by simpa using hi) hd
theorem KD.old {ops:List RO} {V:Nat→Value} {done:Nat→Bool} {S S':Rg} (h:KD ops V done S S') {j:Nat} {v:Value} (hv:lk S j=some v) (hj:(ops.all fun o=>!(o.dst == some j))=true):lk S' j=some v:=
 h.2 j v hv fun o ho e=>by have:=List.all_eq_true.1 hj o ho;rw [e] at this;simp at this
end
def mbY (g:Gl) (cs:List Cp) (y:Int × Value × Nat):Mb:=⟨y.1,bs g cs y.1⟩
theorem y9 {α:Type}:∀ {L:ML α},(L.map (·.1)).Nodup→∀ p q,p∈L→q∈L→p.1=q.1→p=q
 | a :: l,hn,p,q,hp,hq,e=>by
  simp only [List.map_cons,List.nodup_cons] at hn
  rcases List.mem_cons.1 hp with rfl | hp'<;>rcases List.mem_cons.1 hq with rfl | hq'
  ·rfl
  ·exact absurd (List.mem_map.2 ⟨q,hq',e.symm⟩:p.1∈l.map (·.1)) hn.1
  ·exact absurd (List.mem_map.2 ⟨p,hp',e⟩:q.1∈l.map (·.1)) hn.1
  ·exact y9 hn.2 p q hp' hq' e
theorem Gat.app {lo f:Nat} {g:Gl} {cs:List Cp} {H:Hp} {L:ML Int} {c:Nat} (h:Gat lo f g cs H L c) {y z:Int × Value × Nat} (hy:y∈L) (hz:z∈L) (e:y≠z):Ap y.2.1 z.2.1:=
 h.ap y.1 z.1 _ _ (fun q=>e (y9 h.wf.keys y z hy hz q)) (QW h.wf y hy) (QW h.wf z hz)
theorem Gat.ne {lo f:Nat} {g:Gl} {cs:List Cp} {H:Hp} {L:ML Int} {c:Nat} (h:Gat lo f g cs H L c) {y:Int × Value × Nat} (hy:y∈L):YE g y.1 cs≠[]:=(h.key y.1).1 (Ut.2 (List.mem_map.2 ⟨y,hy,rfl⟩))
theorem zm {α β:Type} {f:α→β}:∀ {l:List α},l.Nodup→(∀ a∈l,∀ b∈l,f a=f b→a=b)→(l.map f).Nodup
 | [],_,_=>List.nodup_nil
 | a :: l,h,k=>by
  rw [List.nodup_cons] at h
  rw [List.map_cons,List.nodup_cons]
  refine ⟨fun q=>?_,zm h.2 fun x hx y hy=>k x (List.mem_cons_of_mem _ hx) y (List.mem_cons_of_mem _ hy)⟩
  obtain ⟨b,hb,e⟩:=List.mem_map.1 q
  have:=k a List.mem_cons_self b (List.mem_cons_of_mem _ hb) e.symm
  subst this;exact h.1 hb
theorem Zcy {lo f:Nat} {g:Gl} {cs:List Cp} {H:Hp} {L:ML Int} {c:Nat} (h:Gat lo f g cs H L c) (hb:cs.any Xe=false) {D:ML Int} (hn:D.Nodup) (hD:∀ y,y∈D↔y∈L) {ms:List Mb} (hp:ms.Perm (D.map (mbY g cs))) (hs:ms.Pairwise fun a b=>a.g≤b.g):ms=mbL g cs:=by
 have hg:(ms.map (·.g)).Nodup:=by
  refine (hp.map (·.g)).nodup_iff.2 ?_
  rw [List.map_map]
  exact zm hn fun a ha b hb e=>y9 h.wf.keys a b ((hD a).1 ha) ((hD b).1 hb) e
 have hs2:ms.Pairwise fun a b=>a.g < b.g:=by
  have h2:ms.Pairwise fun a b=>a.g≠b.g:=List.pairwise_map.1 hg
  exact (hs.and h2).imp fun q=>by omega
 refine ZdW hs2 QV fun m=>?_
 rw [hp.mem_iff,yo hb,List.mem_map]
 constructor
 ·rintro ⟨y,hy,rfl⟩;exact ⟨h.ne ((hD y).1 hy),rfl⟩
 ·rintro ⟨h1,h2⟩
  obtain ⟨y,hy,e⟩:=List.mem_map.1 (Ut.1 ((h.key m.g).2 h1))
  refine ⟨y,(hD y).2 hy,?_⟩
  unfold mbY;rw [e,← h2]
theorem Zhp:ZT Try.prog 60=some (79,2):=by kernel_rfl
theorem ZiW:Yt Try.prog 79=some (.agg #[iv 0,iv 0]):=by kernel_rfl
theorem ZjA:Try.prog.underlying 60=some (.slice 79):=by kernel_rfl
theorem Zgc {g:Gl} {cs:List Cp} {x:Int} {k:Nat} (h:(YE g x cs).length=k):top (min g.b.toNat k) (dsc (YE g x cs)) / ((min g.b.toNat k:Nat):Int)=bs g cs x:=by
 unfold bs avg
 rw [UU,h]
 congr 1
 unfold top
 congr 1
 rw [List.take_eq_take_iff,UU,h]
 omega
section
variable {kn:Kn} {lo:Nat} {H:Hp}
theorem Zb4:∃ H',FnX Try.prog kn lo 47 [.slice none 0 0,.func (.func 48) #[] #[]] H (.tuple #[]) H'∧Keep H H' []:=by
 have key:=Zr (kn:=kn) (lo:=lo) (H:=H) (args:=[.slice none 0 0,.func (.func 48) #[] #[]]) (Q:=fun w H'=>w=.tuple #[]∧Keep H H' []) Try.func47 B47 N47 Z47 L47 (by simp) ?_
 ·obtain ⟨w,H',h,rfl,r⟩:=key;exact ⟨H',h,r⟩
 have hk:=Keep.refl H []
 refine Zc<|Y7 (v:=.func (.func 48) #[] #[]) rfl ?_
 intro H1 kH1 nH1 c1
 have c1:Cl H1 H.next [.func (.func 48) #[] #[]]:=c1
 have mH1:=kH1.1
 have hk:=hk.trans kH1
 refine Zb ?_
 show Zp _ _ _ _ _ _ _ _
 refine Za rfl<|Zg (v:=.func (.func 63) #[] #[pt H.next]) rfl (by kernel_rfl) ?_
 obtain ⟨H2,fH2,kH2⟩:=ZdE (kn:=kn) (lo:=lo) (H:=H1) (cv:=.func (.func 63) #[] #[.pointer (some ⟨H.next,0,none⟩)])
 refine Zs (vs:=[.slice none 0 0,.func (.func 63) #[] #[.pointer (some ⟨H.next,0,none⟩)]]) rfl (Zh fH2) ?_
 have mH2:=kH2.1
 have hk:=hk.trans kH2
 have c1:=kH2.cl c1 (by simp)
 refine Zb ?_
 exact And.intro trivial (Exists.intro _ (And.intro rfl ⟨rfl,hk⟩))
theorem Acc.low_b {lo f:Nat} {e:TypeId} {H:Hp} {v:Value} {n:Nat} {cs:List Value} (h:Acc lo f e H v n cs) (b:Nat) (hb:bkv v=some b):f≤b∧b < H.next:=by
 rcases h with ⟨_,_,rfl⟩ | ⟨b2,rfl,_,q,_,hn,_⟩
 ·cases hb
 ·cases hb;exact ⟨q,hn⟩
theorem YR.ita {f:Nat} {H H1:Hp} {it m c:Nat} {D:ML Int} (k:YR f H H1) (h:Ita H it m c D) (hb:it < f):Ita H1 it m c D:=⟨Nat.lt_of_lt_of_le h.1 k.le,by rw [k.same it hb];exact h.2⟩
set_option maxRecDepth 100000 in
set_option maxHeartbeats 1000000 in
theorem WN (s:Snd Try.prog kn) {cs:List Cp} {sa:Option Addr} {n cap:Nat} {g:Gl} (hs:Sl H sa n cap (cpc cs)) (hl:cs.length=n) (hn:n≤100) (hb:cs.any Xe=false) (hg:vG g=true) (hlo:lo≤H.next) :
  FnM Try.prog lo 26 [.slice sa n cap,.agg (Gl.f g).toArray] H fun v H'=>Keep H H' []∧∃ a cap,v=.slice a (mbL g cs).length cap∧Sl H' a (mbL g cs).length cap (mbc (mbL g cs)):=by
 refine WP s Try.func26 B26 N26 Z26 L26 (by simp) ?_
 have hk:=Keep.refl H []
 have fs:=hs.old
 have hgt:=qO hg
 refine Zm<|Uz (v:=.agg (Gl.f g).toArray) rfl ?_
 intro H1 kH1 nH1 c1
 have c1:Cl H1 H.next [iv g.y,iv g.k,iv g.b,iv g.p]:=c1
 have mH1:=kH1.1
 have hk:=hk.trans kH1
 have hs:=kH1.sl0 hs
 refine Zd rfl<|Zi<|Zm<|Zd rfl<|Zi<|Zm<|Zd rfl<|YW (b:=H.next) (o:=0) rfl c1.rd (show row 4 _ _=some [iv g.y,iv g.k,iv g.b,iv g.p] from rfl)<|YA (t:=.fn (.func 44) #[]) rfl (ZV s.hN (Zb7 (H:=H1) s hs hl (by omega) hb hg (by omega))) ?_
 rintro _ H2 ⟨mb,L,c,f,rfl,hmb1,hmb2,hf,hmq,hG,kH2⟩
 have mH2:=kH2.1
 have hk:=hk.trans kH2
 have hs:=kH2.sl0 hs
 have c1:=kH2.cl c1 (by simp)
 have hlt:∀ y∈L,∀ b,bkv y.2.1=some b→b < H2.next:=fun y hy=>(hG.val _ _ (QW hG.wf y hy)).lt
 refine Za7 rfl hmq ?_
 intro H3 kH3 nH3 iH3
 have mH3:=kH3.1
 have hk:=hk.trans kH3
 have hs:=kH3.sl0 hs
 have c1:=kH3.cl c1 (by simp)
 have hmq:=kH3.mqa hmq (by simp)
 have hG:=hG.keep kH3
 refine Zi ?_
 obtain ⟨it,eit⟩:∃ it,it=H2.next:=⟨_,rfl⟩
 have hit:=iH3
 rw [← eit] at hit
 have hne:mb≠it:=by omega
 have hoit:H.next≤it:=by omega
 rw [← eit] at hlt
 have hLn:=hG.len
 have hU0:∀ y∈L,y ∉ ([]:ML Int)→Acc lo f 3 H3 y.2.1 (YE g y.1 cs).length (cI (YE g y.1 cs)):=fun y hy _=>hG.val _ _ (QW hG.wf y hy)
 refine Wl s (fn:=Try.f26) ZgR N26 Zhx (fun z:ML Int × Value=>[(3,.pointer (some ⟨H.next,0,none⟩)),(5,z.2),(11,.pointer (some ⟨it,0,none⟩))])
  (fun k z H'=>k=L.length - z.1.length∧z.1.Nodup∧(∀ y∈z.1,y∈L)∧Keep H H' []∧H3.next≤H'.next∧Ita H' it mb c z.1∧Mqa iv H' mb L c∧Cl H' H.next [iv g.y,iv g.k,iv g.b,iv g.p]∧(∀ y∈L,y ∉ z.1→Acc lo f 3 H' y.2.1 (YE g y.1 cs).length (cI (YE g y.1 cs)))∧Acc lo H3.next 79 H' z.2 z.1.length (mbc (z.1.map (mbY g cs)))) _ ([],.slice none 0 0) ⟨rfl,List.nodup_nil,(fun y h=>by cases h),hk,Nat.le_refl _,hit,hmq,c1,hU0,.inl ⟨rfl,rfl,rfl⟩⟩ ⟨rfl,rfl,by rw [eit];rfl,True.intro⟩ ?_
 rintro k ⟨D,wv⟩ L1 ⟨hkk,hnd,hD,hk,f2,i2,m2,cg,hU,hacc⟩
 simp only [] at hkk hnd hD i2 hU hacc
 refine Zm (ZaS rfl i2 m2 hG.wf hD ym.fl (by omega) (fun hall=>?_) (fun y hy hny G3 k3 n3 i3=>?_))
 ·refine Zk (v:=.bool false) rfl (by kernel_rfl) (Zi (UM (Q2 (t:=false) rfl (fun h=>by cases h) fun _=>Vd ?_)))
  show wCM _ _ _ _ _ _ _ _ _
  have hDL:∀ y,y∈D↔y∈L:=fun y=>⟨hD y,hall y⟩
  have hDn:=Xy hnd hD
  rcases hacc with ⟨hz0,_,rfl⟩ | ⟨bd,rfl,hz0,hbd1,hbd2,hbd3,hbd4⟩
  ·refine Zm<|Zd rfl ?_
   obtain ⟨H4,fH4,kH4⟩:=Zb4 (kn:=kn) (lo:=lo) (H:=L1)
   refine Z3 s (vs:=[.slice none 0 0,.func (.func 48) #[] #[]]) rfl (Zh fH4) ?_
   have mH4:=kH4.1
   have hk:=hk.trans kH4
   have hD0:D=[]:=List.eq_nil_of_length_eq_zero hz0
   subst hD0
   have hms:=Zcy hG hb hnd hDL (ms:=[]) (.refl _) List.Pairwise.nil
   refine Zi<|Zm<|Zd rfl<|Zd rfl<|Zi ?_
   exact And.intro trivial (Exists.intro _ (And.intro rfl ⟨hk,none,0,by rw [← hms];rfl,by rw [← hms];exact .inl ⟨.inl rfl,rfl,rfl,rfl⟩⟩))
  ·refine Zm<|Zd rfl ?_
   have hml:(D.map (mbY g cs)).length=D.length:=by rw [List.length_map]
   obtain ⟨σ,H5,fH5,hpr,hso,ktH5,czH5⟩:=ZdA (kn:=kn) (lo:=lo) (H:=L1) (ms:=D.map (mbY g cs)) (bd:=bd) (cap:=D.length) hbd2 (by omega) ⟨hbd3,79,true,hbd4⟩ (by omega)
   rw [hml] at fH5
   refine Z3 s (vs:=[.slice (some ⟨bd,0,none⟩) D.length D.length,.func (.func 48) #[] #[]]) rfl (Zh fH5) ?_
   have hk:=hk.new ktH5.kp (fun b hb=>.inr (by simp at hb;omega))
   have mH5:=ktH5.kp.1
   have hms:=Zcy hG hb hnd hDL (ye hpr) (JU (f:=fun m:Mb=>m.g) hso)
   have hdl:D.length=(mbL g cs).length:=by rw [← hms,jD,hml]
   rw [hms] at czH5
   refine Zi<|Zm<|Zd rfl<|Zd rfl<|Zi ?_
   exact And.intro trivial (Exists.intro _ (And.intro rfl ⟨hk,some ⟨bd,0,none⟩,D.length,by rw [← hdl];rfl,.inr ⟨bd,rfl,czH5.rd,by omega⟩⟩))
 ·have hay:=hU y hy hny
  rcases hay with ⟨ha0,_⟩ | ⟨bd,ev,ha0,hf1,hlb,hbn,hgb⟩
  ·exact absurd (List.eq_nil_of_length_eq_zero ha0) (hG.ne hy)
  have hbl:=hlt y hy bd (by rw [ev];rfl)
  obtain ⟨K,eK⟩:∃ K,K=(YE g y.1 cs).length:=⟨_,rfl⟩
  rw [← eK] at ev ha0
  have m3:Mqa iv G3 mb L c:=k3.mqa m2 (by simpa using hne)
  have hsub:∀ x∈D ++ [y],x∈L:=fun x hx=>by
   rcases List.mem_append.1 hx with h | h
   ·exact hD x h
   ·simp at h;rw [h];exact hy
  have hnd2:(D ++ [y]).Nodup:=List.nodup_append.2 ⟨hnd,by simp,fun a ha b hb e=>hny (by simp at hb;rw [← hb,← e];exact ha)⟩
  have hlen2:(D ++ [y]).length=D.length+1:=by simp
  have hDL:=Xy hnd2 hsub
  have hKn:=jA (g:=g) (x:=y.1) (cs:=cs)
  have hain:=yu (g:=g) (x:=y.1) hb
  have hgb3:G3.t.get bd=some (.cells (cI (YE g y.1 cs)) 3 true):=by rw [k3.2 bd hbn (by simp;omega)];exact hgb
  have cb3:Cl G3 bd (cI (YE g y.1 cs)):=⟨by omega,3,true,hgb3⟩
  have cg3:=k3.cl cg (by simp;omega)
  have hk:=hk.new k3 (fun b hb=>.inr (by simp at hb;omega))
  obtain ⟨G4,f4,kt4,c4⟩:=ZeP (kn:=kn) (lo:=lo) (H:=G3) (bd:=bd) (xs:=(YE g y.1 cs)) (k:=K) hlb eK.symm ha0 (by omega) cb3 hgb3 (by omega) hain (mb:=g.b) (by omega) (by omega)
  have k4:=kt4.kp
  have mH4:=k4.1
  have cg4:=k4.cl cg3 (by simp;omega)
  have hsl4:Sl G4 (some ⟨bd,0,none⟩) (min g.b.toNat K) K (cI (dsc (YE g y.1 cs))):=.inr ⟨bd,rfl,c4.rd,by omega⟩
  obtain ⟨G5,f5,k5⟩:=Zag (kn:=kn) (lo:=lo) (H:=G4) hsl4 (by omega) (by rw [UU];omega) (by rw [UU];omega) (by omega) (ZfL hb)
  rw [Zgc eK.symm] at f5
  have mH5:=k5.1
  have k45:Keep G3 G5 [bd]:=k4.trans (k5.mono (by simp))
  have hk:=hk.new k45 (fun b hb=>.inr (by simp at hb;omega))
  have hacc5:Acc lo H3.next 79 G5 wv D.length (mbc (D.map (mbY g cs))):=(hacc.keepW k3 (by omega)).keepW k45 (by omega)
  refine Zk (v:=.bool true) rfl (by kernel_rfl) (Zi (UM (Q2 (t:=true) rfl (fun _=>Z8 ?_) fun h=>by cases h)))
  refine zr (Zm (Za3 rfl i3 m3 hG.wf hy ym.fl ?_))
  rw [ev]
  refine Zk (v:=iv y.1) rfl (by kernel_rfl) (Zk (v:=.slice (some ⟨bd,0,none⟩) K K) rfl (by kernel_rfl) (Zd rfl (Zd rfl (Zi ?_))))
  refine Zce (Zd rfl (Zd rfl (Zd rfl (Xn rfl (WB (v:=iv g.b) rfl cg3.rd rfl ?_)))))
  refine Z3 s (vs:=[.slice (some ⟨bd,0,none⟩) K K,iv g.b]) rfl (Zh f4)<|Z3 s (vs:=[.slice (some ⟨bd,0,none⟩) (min g.b.toNat K) K]) rfl (Zh f5)<|Zk (v:=.agg #[iv y.1,iv (bs g cs y.1)]) rfl (by kernel_rfl) ?_
  have kacc:=Keep.refl G5 []
  obtain ⟨H6,hH6⟩:∃ H6,G5.new (.cells [iv y.1,iv (bs g cs y.1)] 79 false)=H6:=⟨_,rfl⟩
  refine Wf (H':=H6) (k:=.heavy) rfl (by kernel_rfl) ((Xu (v:=.agg #[iv y.1,iv (bs g cs y.1)]) Zhp ZiW rfl rfl rfl (by decide)).trans (by rw [← hH6];rfl)) (fun b e=>by cases e) ?_
  obtain ⟨kH6,nH6,c6⟩:=ZL hH6;clear hH6
  have c6:Cl H6 G5.next [iv y.1,iv (bs g cs y.1)]:=c6
  have mH6:=kH6.1
  have hk:=hk.trans kH6
  have kacc:=kacc.trans kH6
  obtain ⟨H7,kdH7,eH7,dH7,aH7,kbH7⟩:=YB (P:=Try.prog) (lo:=lo) (k:=D.length) (t1:=60) Zhp ZjA (c6.sl (Nat.le_refl 1)) rfl (by decide) rfl (by rw [Zev,List.length_map]) (by omega) (hacc5.keep kacc) (by omega) (by omega)
  refine Wf (k:=kdH7) rfl (by cases wv<;>kernel_rfl) (eH7 _ _ _ _ _ _ _ rfl rfl) (Jj dH7 _) ?_
  have hk:=kbH7.keep hk (by omega)
  have mH7:=kbH7.1
  have ka:YR H3.next G5 H7:=⟨Nat.le_trans kH6.1 kbH7.1,fun b q=>(kbH7.2 b q).trans (kH6.2 b (by omega) (by simp)),fun b cs q1 q2=>(kbH7.3 b cs q1 q2).elim fun x y=>kH6.3 b cs x y⟩
  refine Zd rfl (Zi ?_)
  have hU2:∀ z∈L,z ∉ D ++ [y]→Acc lo f 3 H7 z.2.1 (YE g z.1 cs).length (cI (YE g z.1 cs)):=fun z hz hnz=>by
   have hzy:z≠y:=fun e=>hnz (by rw [e];simp)
   have q1:=(hU z hz (fun e=>hnz (by simp [e]))).keepN k3 (fun b q=>by have:=hG.val _ _ (QW hG.wf z hz);have:=hlt z hz b q;have:=(hU z hz (fun e=>hnz (by simp [e]))).low_b b q;omega)
   exact (q1.keepN k45 (fun b q=>hG.app hz hy hzy b bd q (by rw [ev];rfl))).keepB ka (fun b q=>by have:=hlt z hz b q;omega)
  have i5:Ita H7 it mb c (D ++ [y]):=ka.ita (k45.ita i3 (by simp;omega)) (by omega)
  have m5:Mqa iv H7 mb L c:=ka.mqa (k45.mqa m3 (by simp;omega)) (by omega)
  have cg5:=ka.cl (k45.cl cg3 (by simp;omega)) (by omega)
  refine ⟨_,(D ++ [y],_),by simp only [hlen2];omega,⟨rfl,hnd2,hsub,hk,by omega,i5,m5,cg5,hU2,?_⟩,rfl,rfl,rfl,True.intro⟩
  simp only []
  rw [hlen2]
  unfold mbc
  rw [List.map_append,List.flatMap_append]
  exact aH7
end
end
end Go.Ax

/-! Drawn regions whose values are told by the run: calls that come to one of several ends. Pieces of code over the machine. -/
namespace Go.Ax
open Go Go.RowKit
section
variable {P:Program} {kn:Kn} {lo n:Nat} {rd:Bool}
def Zdn (V:Nat→Value) (i:Nat) (v:Value):Nat→Value:=fun j=>bif Nat.beq j i then v else V j
def ZiH (P:Program) (kn:Kn) (lo n:Nat) (ops:List RO) (HP:(Nat→Bool)→(Nat→Value)→Hp→Prop) (S:Rg) (i m:Nat) (o:RO):Prop:=
 ∀ (done:Nat→Bool) (V:Nat→Value) (S':Rg) (H':Hp),done i=false→(∀ j,m.testBit j=true→done j=true)→HP done V H'→KD ops V done S S'→Xf P kn lo n S' H' o fun S2 H2=>∃ v,S2=Zt S' o.dst v∧HP (jS done i) (Zdn V i v) H2
def Zea (P:Program) (kn:Kn) (lo n:Nat) (ops:List RO) (HP:(Nat→Bool)→(Nat→Value)→Hp→Prop) (S:Rg) (ms:List Nat):List RO→Nat→Prop
 | [],_=>True
 | o :: r,i=>ZiH P kn lo n ops HP S i (ms.getD (ops.length - 1 - i) 0) o∧Zea P kn lo n ops HP S ms r (i+1)
theorem qK {ops:List RO} {HP:(Nat→Bool)→(Nat→Value)→Hp→Prop} {S:Rg} {ms:List Nat}:∀ (l:List RO) (k:Nat),Zea P kn lo n ops HP S ms l k→∀ i o,l[i]? = some o→ZiH P kn lo n ops HP S (k+i) (ms.getD (ops.length - 1 - (k+i)) 0) o
 | [],_,_,i,o,e=>by simp at e
 | x :: l,k,h,i,o,e=>by
  cases i with
  | zero=>simp at e;subst e;exact h.1
  | succ i=>rw [show k+(i+1)=k+1+i by omega];exact qK l (k+1) h.2 i o (by simpa using e)
theorem ZbA (s:Snd P kn) {id:Nat} {ops:Array Oper} {ord:Nat→Bool} {rl:List RO} {S:Rg} {H:Hp} {K:Exit→Rg→Hp→Prop} (hreg:U2 ops=true) (hl:YT P n ops.toList ord ops.toList 0=some rl) {HP:(Nat→Bool)→(Nat→Value)→Hp→Prop} {V0:Nat→Value} (hnd:(rl.filterMap (·.dst)).Nodup) (h0:HP (fun _=>false) V0 H) (hops:Zea P kn lo n rl HP S (X2 ops.toList 0 []) rl 0) (hend:∀ done V H',(∀ i,i < rl.length→done i=true)→HP done V H'→K .normal (ZbQ V rl 0 S) H') :
  Yf P lo n rd (.region id ops true) S H K:=by
 obtain ⟨hlen,hget⟩:=Qe ops.toList 0 hl
 have hlen:rl.length=ops.size:=by simpa using hlen
 have hR:=VQ hreg
 have key:∀ (fuel t:Nat) (L:Array Bool) (V:Nat→Value) (S':Rg) (H':Hp),L.size=ops.size→todo ops L≤fuel→(∀ (i:Nat) o,ops[i]? = some o→ZW L i→∀ e∈o.after,Region.binds .any e=true→ZW L e.on)→HP (fun i=>L.getD i false) V H'→KD rl V (fun i=>L.getD i false) S S'→
   Ub P lo n rd ops (Region.linearise.go .any ops fuel t L []) S' H' K:=by
  have fin:∀ (L:Array Bool) (V:Nat→Value) (S':Rg) (H':Hp),(∀ i,i < ops.size→ZW L i)→HP (fun i=>L.getD i false) V H'→KD rl V (fun i=>L.getD i false) S S'→Ub P lo n rd ops [] S' H' K:=by
   intro L V S' H' hall hHP hKD
   have hk:=hend _ V H' (fun i hi=>hall i (by rw [← hlen];exact hi)) hHP
   have hsub:=qj (V:=V) (S':=S') rl 0 S hnd (fun i o d e1 e2=>by
    have hi:i < rl.length:=by
     rcases Nat.lt_or_ge i rl.length with q | q
     ·exact q
     ·rw [List.getElem?_eq_none q] at e1;cases e1
    rw [Nat.zero_add]
    exact hKD.1 i o d e1 e2 (hall i (by rw [← hlen];exact hi))) hKD.2
   exact fun base r w A tmps ds rdv cs k hlo hrel hF hn hr hS=>Ub.nil hk base r w A tmps ds rdv cs k hlo hrel hF hn hr fun j v e=>hS j v (hsub j v e)
  intro fuel
  induction fuel with
  | zero=>
   intro t L V S' H' hL hf hcl hHP hKD
   simp only [Region.linearise.go,List.reverse_nil]
   exact fin L V S' H' (UP (by omega)) hHP hKD
  | succ fuel ih=>
   intro t L V S' H' hL hf hcl hHP hKD
   have hgo:Region.linearise.go .any ops (fuel+1) t L []=match (Region.ready .any ops L)[t % (Region.ready .any ops L).length]? with
    | some i=>Region.linearise.go .any ops fuel (t / (Region.ready .any ops L).length) (L.setIfInBounds i true) [i]
    | none=>[]:=by
    simp only [Region.linearise.go]
    rfl
   cases hi:(Region.ready .any ops L)[t % (Region.ready .any ops L).length]? with
   | none=>
    have hnil:Region.ready .any ops L=[]:=by
     cases hr:Region.ready .any ops L with
     | nil=>rfl
     | cons x xs=>
      rw [hr] at hi
      have hlt:t % (x :: xs).length < (x :: xs).length:=Nat.mod_lt _ (by simp)
      rw [List.getElem?_eq_getElem hlt] at hi
      cases hi
    rw [hgo,hi]
    exact fin L V S' H' (VS hR hL hnil) hHP hKD
   | some i=>
    have hmem:=List.mem_of_getElem? hi
    obtain ⟨hlt,hun,o,ho,hr⟩:=Vu.1 hmem
    have hLi:i < L.size:=by rw [hL];exact hlt
    have hunD:L.getD i false=false:=by
     have:L[i]? = some (L[i]'hLi):=Array.getElem?_eq_getElem hLi
     simp only [Array.getD_eq_getD_getElem?,this,Option.getD_some] at hun ⊢
     exact hun
    have hun':¬ ZW L i:=by unfold ZW;rw [hunD];simp
    rw [hgo,hi]
    simp only
    rw [linearise_go_acc,List.reverse_singleton,List.singleton_append]
    obtain ⟨ro,hrl,hro⟩:=hget i o (by simpa using ho)
    have hanc:∀ j,Anc ops i j→ZW L j:=by
     have cl:∀ {a b},Anc ops a b→ZW L a→ZW L b:=by
      intro a b ha
      induction ha with
      | edge ho he hb=>exact fun hj=>hcl _ _ ho hj _ he hb
      | more ho he hb _ ih=>exact fun hj=>ih (hcl _ _ ho hj _ he hb)
     intro j ha
     cases ha with
     | edge ho' he hb=>rw [ho] at ho';cases ho';exact hr _ he hb
     | more ho' he hb ha=>rw [ho] at ho';cases ho';exact cl ha (hr _ he hb)
    have hm:=UD ops
    have h1:=qK rl 0 hops i ro hrl
    rw [Nat.zero_add,hlen] at h1
    have hmask:∀ j,((X2 ops.toList 0 []).getD (ops.size - 1 - i) 0).testBit j=true→L.getD j false=true:=by
     intro j hj
     have hlt':ops.size - 1 - i < (X2 ops.toList 0 []).length:=by rw [hm.1];omega
     have hg:=List.getElem?_eq_getElem hlt'
     rw [List.getD_eq_getElem?_getD,hg,Option.getD_some] at hj
     exact hanc j (hm.2 i _ hlt hg j hj)
    refine Ju s ho hro (h1 _ V S' H' hunD hmask hHP hKD) fun {S2 H2} q=>?_
    obtain ⟨v0,rfl,hHP2⟩:=q
    have hset:(fun j=>(L.setIfInBounds i true).getD j false)=jS (fun j=>L.getD j false) i:=by
     funext j
     unfold jS
     by_cases e:j=i
     ·subst e
      rw [Nat.beq_refl,cond_true]
      exact (Yb hLi).2 (.inl rfl)
     ·have:Nat.beq j i=false:=by
       cases hb:Nat.beq j i with
       | false=>rfl
       | true=>exact absurd (Nat.eq_of_beq_eq_true hb) e
      rw [this,cond_false]
      simp only [Array.getD_eq_getD_getElem?,Array.getElem?_setIfInBounds]
      rw [if_neg (fun q=>e q.symm)]
    refine ih _ _ (Zdn V i v0) _ _ (by simp [hL]) (by have:=Jc hLi hlt hun';omega) ?_ (by rw [hset];exact hHP2) ?_
    ·intro j oj hoj hdj e he hb
     rcases (Yb hLi).1 hdj with rfl | hdj
     ·rw [ho] at hoj;cases hoj
      exact (Yb hLi).2 (.inr (hr _ he hb))
     ·exact (Yb hLi).2 (.inr (hcl _ _ hoj hdj _ he hb))
    ·rw [hset]
     refine ⟨fun j oj d e1 e2 e3=>?_,fun j v e q=>?_⟩
     ·by_cases e:j=i
      ·subst e
       rw [hrl] at e1;cases e1
       rw [e2]
       simp only [Zt,lk,Zdn,Nat.beq_refl,cond_true]
      ·have hV:Zdn V i v0 j=V j:=by
        have:Nat.beq j i=false:=by
         cases hb:Nat.beq j i with
         | false=>rfl
         | true=>exact absurd (Nat.eq_of_beq_eq_true hb) e
        simp only [Zdn,this,cond_false]
       rw [hV]
       have hd:L.getD j false=true:=by
        unfold jS at e3
        have:Nat.beq j i=false:=by
         cases hb:Nat.beq j i with
         | false=>rfl
         | true=>exact absurd (Nat.eq_of_beq_eq_true hb) e
        rw [this,cond_false] at e3
        exact e3
       cases hod:ro.dst with
       | none=>exact hKD.1 j oj d e1 e2 hd
       | some d'=>
        have hne:d'≠d:=fun q=>e (WI hnd j i oj ro d e1 hrl e2 (by rw [hod,q]))
        have hb:Nat.beq d' d=false:=by
         cases hb:Nat.beq d' d with
         | false=>rfl
         | true=>exact absurd (Nat.eq_of_beq_eq_true hb) hne
        simp only [Zt,lk,hb,cond_false]
        exact hKD.1 j oj d e1 e2 hd
     ·cases hod:ro.dst with
      | none=>exact hKD.2 j v e q
      | some d'=>
       have hne:d'≠j:=fun x=>q ro (List.mem_of_getElem? hrl) (by rw [hod,x])
       have hb:Nat.beq d' j=false:=by
        cases hb:Nat.beq d' j with
        | false=>rfl
        | true=>exact absurd (Nat.eq_of_beq_eq_true hb) hne
       simp only [Zt,lk,hb,cond_false]
       exact hKD.2 j v e q
 intro base r w A tmps ds rdv cs k hlo hrel hF hn hr hS
 have hst:=key ops.size (w.tape w.drawn (.order A.fn id)) (Array.replicate ops.size false) V0 S H (by simp) (by
  unfold todo;have:=List.countP_le_length (p:=fun i=>!(Array.replicate ops.size false).getD i false) (l:=List.range ops.size);simpa using this)
  (fun i o ho hd=>by unfold ZW at hd;simp [Array.getD_eq_getD_getElem?,Array.getElem?_replicate] at hd;split at hd<;>simp at hd)
  (by
   have:(fun i=>(Array.replicate ops.size false).getD i false)=fun _=>false:=by
    funext i
    simp only [Array.getD_eq_getD_getElem?,Array.getElem?_replicate]
    split<;>rfl
   rw [this];exact h0)
  ⟨fun i o d _ _ hd=>by simp [Array.getD_eq_getD_getElem?,Array.getElem?_replicate] at hd;split at hd<;>simp at hd,fun j v e _=>e⟩
 have hrel':Rel P r base H { w with drawn:=w.drawn+1 }:=⟨hrel.dom,hrel.cont,hrel.inj,hrel.top⟩
 have hp0:Zq P lo base r H w r H { w with drawn:=w.drawn+1 }:=⟨.refl r,hrel',Nat.le_refl _,fun _ _ e=>.inl e,fun k hk q=>rfl,fun _ _=>rfl,⟨rfl,rfl,rfl,Nat.le_refl _⟩⟩
 obtain ⟨e,S1,H1,T1,a,b,q⟩:=hst base r { w with drawn:=w.drawn+1 } A tmps ds rdv cs k hlo hrel' hF hn hr hS
 refine ⟨e,S1,H1,T1,a,b,ZU.of_steps (Steps.one Km) ?_⟩
 simp only [Region.schedule,s.hm,Bool.true_or,if_true]
 exact ZU.after hlo hp0 (Js.refl A) q
theorem Zc0 {c:Code} {l:List RO} {ms:List Nat} (h:low P n c=some (.dreg l ms)):∃ id ops ord,c=.region id ops true∧U2 ops=true∧YT P n ops.toList ord ops.toList 0=some l∧ms=X2 ops.toList 0 []:=by
 cases c<;>simp only [low] at h
 case region id ops draw=>
  cases draw with
  | true=>
   simp only [cond_true] at h
   obtain ⟨hr,h⟩:=Ze h
   split at h<;>first | (cases h;done) | skip
   rename_i x hx
   cases h
   exact ⟨id,ops,_,rfl,hr,hx,rfl⟩
  | false=>
   simp only [cond_false] at h
   split at h<;>cases h
 all_goals first | (cases h;done) | (split at h<;>first | (cases h;done) | (split at h<;>cases h;done))
theorem zD (s:Snd P kn) {c:Code} {rl:List RO} {ms:List Nat} {S S0:Rg} {H:Hp} {K:Exit→Rg→Hp→Prop} (hL:low P n c=some (.dreg rl ms)) (hS:WD S0 S) (HP:(Nat→Bool)→(Nat→Value)→Hp→Prop) (V0:Nat→Value) (hnd:(rl.filterMap (·.dst)).Nodup) (h0:HP (fun _=>false) V0 H) (hops:Zea P kn lo n rl HP S0 ms rl 0)
  (hend:∀ done V H',(∀ i,i < rl.length→done i=true)→HP done V H'→K .normal (ZbQ V rl 0 S0) H'):Yf P lo n rd c S H K:=by
 obtain ⟨id,ops,ord,rfl,hr,hl,rfl⟩:=Zc0 hL
 exact (ZbA s hr hl hnd h0 hops hend).forget hS.get
theorem Zf4 (s:Snd P kn) {c:Code} {r:RC} (hl:LV P n c r):∀ {S:Rg} {H:Hp} {K:Exit→Rg→Hp→Prop},wCM P kn lo n rd r S H K→Yf P lo n rd c S H K:=by
 induction hl with
 | low h=>exact fun w=>Ya s _ h w
 | other c=>exact fun w=>w
 | seq _ _ ih1 ih2=>exact fun w=>Yf.seq ((ih1 w).mono fun e S' H' q=>by
   cases e with
   | normal=>exact ih2 q
   | _=>exact q)
 | block id _ ih=>exact fun w=>Yf.block (ih w)
 | cond o _ _ ih1 ih2=>
  intro S H K w
  simp only [wCM] at w
  split at w<;>first | exact w.elim | skip
  rename_i t ht
  cases t with
  | true=>exact Yf.cond ht (ih1 (w.1 rfl))
  | false=>exact Yf.cond ht (ih2 (w.2 rfl))
theorem Zcu {f:FuncId} {fn:Func} {R:RC} {n:Nat} {rs:List ResultVar} {args:List Value} {H:Hp} {Q:Value→Hp→Prop} (s:Snd P kn) (hf:P.funcs[f]? = some fn) (hb:fn.body=some (at_ fn [])) (hn:fn.ntmps=n) (hz:fn.results.toList=rs) (hL:LV P n (at_ fn []) R) (hl:args.length≤n)
  (h:wCM P kn lo n false R (VB args 0) H fun e S' H'=>(match e with | .normal=>True | .ret=>True | _=>False)∧∃ vs,Wg P S' H' rs=some vs∧Q (X1 vs) H'):FnM P lo f args H Q:=by
 subst hn hz
 exact zo hf hb hl (Zf4 s hL h)
end
end Go.Ax

/-
 Pool: Quotas,Percent,Shares (11,13,15) (written by program).
-/
namespace Go.Ax
open Go Go.RowKit Go.Proofs

noncomputable section
noncomputable def R11D:RC:=(.dreg [oM 14 0,oD 15 3 4,⟨some 16,none,(.call ⟨(.value (.func 26)),#[(.tmp 14),(.tmp 15)],#[22,24]⟩ false)⟩,oJ 17 3 3,oL 18 17 1,oC 19 25 #[(.tmp 16),(.tmp 18)] #[60,3],oM 4 19,oN 5 0] [127,63,31,8,0,3,0,0])
theorem Zjx:low Try.prog 20 (at_ Try.f11 [1,1,0])=some R11D:=by kernel_rfl
noncomputable def R11v:RC:=(.seq (.reg [oK 3 24 1,⟨some 4,none,(.mov (.const (.slice none 0 0)))⟩,oN 5 0])
 (.seq (.seq (.reg [oM 6 0,oC 7 23 #[(.tmp 6)] #[22],oU 8 7,oM 9 8,⟨some 10,(some (9,false)),(.lda (.tmp 3) 4)⟩,oH 11 9 false 24 #[(.tmp 10)] #[24],oV 12 9 false 11,oO 13 9 12])
 (.cond (.tmp 13) (.seq (.reg [⟨some 4,none,(.mov (.const (.slice none 0 0)))⟩,oN 5 1])
 .ret)
 .skip))
 (.seq (.other (at_ Try.f11 [1,1,0]))
 .ret)))
theorem V11:LV Try.prog 20 (at_ Try.f11 []) R11v:=by
 have e:at_ Try.f11 []=(.seq (at_ Try.f11 [0]) (.seq (at_ Try.f11 [1,0]) (.seq (at_ Try.f11 [1,1,0]) (at_ Try.f11 [1,1,1])))):=by kernel_rfl
 rw [e]
 exact (.seq (.low (by kernel_rfl)) (.seq (.low (by kernel_rfl)) (.seq (.other _) (.low (by kernel_rfl)))))
theorem V5 {cs:List Cp} {g:Gl} {a b:Bool} (h1:vC cs=a) (h2:vG g=b):vA cs g=(a && b):=by unfold vA;rw [h1,h2]
def yN (n:Nat):Bool:=(decide (100 < n) && decide (n≤256)) || decide (260 < n)
theorem Zgn {n:Nat} (h:n≤100):yN n=false:=by
 simp only [yN,Bool.or_eq_false_iff,Bool.and_eq_false_iff,decide_eq_false_iff_not]
 omega
theorem QJ {n:Nat} (h:yN n=false) (h2:n≤256):n≤100:=by
 simp only [yN,Bool.or_eq_false_iff,Bool.and_eq_false_iff,decide_eq_false_iff_not] at h
 omega
theorem Kw {g:Gl} {cs:List Cp} (hb:cs.any Xe=false) (hg:vG g=true):∀ m∈mbL g cs,okM m:=Zgl hb hg
section
variable {kn:Kn} {lo:Nat} {H:Hp}
set_option maxRecDepth 100000 in
set_option maxHeartbeats 1000000 in
theorem yg (s:Snd Try.prog kn) {cs:List Cp} {sa:Option Addr} {n cap:Nat} (hs:Sl H sa n cap (cpc cs)) (hl:cs.length=n) (hn:n≤400) (hlo:lo≤H.next) (hmn:yN n=false) {g:Gl} :
  FnM Try.prog lo 11 [.slice sa n cap,.agg (Gl.f g).toArray] H fun v H'=>∃ u,v=.tuple #[u,iv (quE cs g)]∧Acc lo H.next 44 H' u (quL cs g).length (qtc (quL cs g))∧Keep H H' []:=by
 refine Zcu s Try.func11 B11 N11 Z11 V11 (by simp) ?_
 have hk:=Keep.refl H []
 have fs:=hs.old
 refine Zm<|Uz (v:=.agg (Gl.f g).toArray) rfl ?_
 intro H1 kH1 nH1 c1
 have c1:Cl H1 H.next [iv g.y,iv g.k,iv g.b,iv g.p]:=c1
 have mH1:=kH1.1
 have hk:=hk.trans kH1
 have hs:=kH1.sl0 hs
 refine Zd rfl<|Zd rfl<|Zi<|Zm<|Zd rfl<|XM s rfl (ZaT hs hl (by omega) (by omega)) ?_
 intro tH2 H2 hH2 kH2
 have mH2:=kH2.1
 have hk:=hk.trans kH2
 have hs:=kH2.sl0 hs
 have c1:=kH2.cl c1 (by simp)
 cases tH2
 ·have qvC:=hH2
  refine Zk (v:=.bool true) rfl rfl<|Zd rfl<|X5 rfl<|X5 rfl<|X5 rfl<|Zk (v:=.bool true) rfl rfl<|Zi<|Xm<|Zm<|Zd rfl<|Zd rfl<|Zi ?_
  have hvA:vA cs g=false:=by first | (rw [V5 qvC qvG];rfl) | (unfold vA;rw [qvC];rfl)
  exact And.intro trivial (Exists.intro _ (And.intro rfl ⟨.slice none 0 0,by unfold quE;rw [if_neg (by rw [hvA];simp)];rfl,by unfold quL;rw [if_neg (by rw [hvA];simp)];exact .inl ⟨rfl,rfl,rfl⟩,hk⟩))
 ·have qvC:=hH2
  refine Zk (v:=.bool false) rfl rfl<|Zd rfl ?_
  refine Yd rfl (YW (b:=H.next) (o:=0) rfl c1.rd (show row 4 _ _=some [iv g.y,iv g.k,iv g.b,iv g.p] from rfl) ?_)
  refine Yd rfl (XM s rfl (Za1 (g:=g) (by omega)) ?_)
  intro tH3 H3 hH3 kH3
  have mH3:=kH3.1
  have hk:=hk.trans kH3
  have hs:=kH3.sl0 hs
  have c1:=kH3.cl c1 (by simp)
  cases tH3
  ·have qvG:=hH3
   refine Yd rfl (Zk (v:=.bool true) rfl rfl ?_)
   refine Zk (v:=.bool true) rfl rfl<|Zi<|Xm<|Zm<|Zd rfl<|Zd rfl<|Zi ?_
   have hvA:vA cs g=false:=by first | (rw [V5 qvC qvG];rfl) | (unfold vA;rw [qvC];rfl)
   exact And.intro trivial (Exists.intro _ (And.intro rfl ⟨.slice none 0 0,by unfold quE;rw [if_neg (by rw [hvA];simp)];rfl,by unfold quL;rw [if_neg (by rw [hvA];simp)];exact .inl ⟨rfl,rfl,rfl⟩,hk⟩))
  ·have qvG:=hH3
   refine Yd rfl (Zk (v:=.bool false) rfl rfl ?_)
   refine Zk (v:=.bool false) rfl rfl<|Zi<|ZR ?_
   first | refine Z8 ?_ | skip
   have hvA:vA cs g=true:=V5 qvC qvG
   have hb:=(KA hvA).1;have hg:=(KA hvA).2;have hsm:=QJ hmn (by have:=(ZbF qvC).1;omega)
   have hgt:=qO hg;have hmlen:=UR (g:=g) hb;have hmok:=Kw hb hg
   refine UM (K6 ?_)
   have hxl:lo≤H3.next:=by omega
   refine zD s Zjx (S0:=[(0,.slice sa n cap),(3,.pointer (some ⟨H.next,0,none⟩))]) ⟨rfl,rfl,trivial⟩ (fun done V H'=>Keep H3 H' []∧(done 0=true→V 0=.slice sa n cap)∧(done 1=true→V 1=.agg (Gl.f g).toArray)∧(done 2=true→∃ a cp,V 2=.slice a (mbL g cs).length cp∧Sl H' a (mbL g cs).length cp (mbc (mbL g cs)))∧(done 3=true→V 3=.pointer (some ⟨H.next,0+3,none⟩))∧(done 4=true→V 4=iv g.p)∧(done 5=true→Acc lo H3.next 44 H' (V 5) (qtL g.p (mbL g cs)).length (qtc (qtL g.p (mbL g cs))))∧(done 6=true→Acc lo H3.next 44 H' (V 6) (qtL g.p (mbL g cs)).length (qtc (qtL g.p (mbL g cs))))∧(done 7=true→V 7=iv 0)) (fun _=>iv 0) (by decide) ⟨Keep.refl _ _,(fun h=>by cases h),(fun h=>by cases h),(fun h=>by cases h),(fun h=>by cases h),(fun h=>by cases h),(fun h=>by cases h),(fun h=>by cases h),(fun h=>by cases h)⟩ ⟨?_,?_,?_,?_,?_,?_,?_,?_,True.intro⟩ (fun done V H9 hd hp=>?_)
   ·rintro done V S' H' hd hm ⟨k,p0,p1,p2,p3,p4,p5,p6,p7⟩ kd
    exact Y0 (Zd (kd.old rfl rfl) (Zi ⟨_,rfl,k,fun _=>rfl,p1,p2,p3,p4,p5,p6,p7⟩))
   ·rintro done V S' H' hd hm ⟨k,p0,p1,p2,p3,p4,p5,p6,p7⟩ kd
    exact Y0 (YW (b:=H.next) (o:=0) (kd.old rfl rfl) (k.rd c1.rd (by simp)) rfl (Zi ⟨_,rfl,k,p0,fun _=>rfl,p2,p3,p4,p5,p6,p7⟩))
   ·rintro done V S' H' hd hm ⟨k,p0,p1,p2,p3,p4,p5,p6,p7⟩ kd
    have mk:=k.1
    have h14:lk S' 14=some (.slice sa n cap):=kd.own 0 rfl (hm 0 (by decide)) (p0 (hm 0 (by decide)))
    have h15:lk S' 15=some (.agg (Gl.f g).toArray):=kd.own 1 rfl (hm 1 (by decide)) (p1 (hm 1 (by decide)))
    refine Y0 (YA (t:=.fn (.func 26) #[]) (vs:=[.slice sa n cap,.agg (Gl.f g).toArray]) (by simp only [YH,zq,evS,h14,h15];rfl) (ZV s.hN (WN (H:=H') s (k.sl0 hs) hl hsm hb hg (by omega))) ?_)
    rintro _ H2 ⟨k2,a,cp,rfl,hs2⟩
    exact Zi ⟨_,rfl,k.trans k2,p0,p1,fun _=>⟨a,cp,rfl,hs2⟩,p3,p4,fun h=>(p5 h).keep k2,fun h=>(p6 h).keep k2,p7⟩
   ·rintro done V S' H' hd hm ⟨k,p0,p1,p2,p3,p4,p5,p6,p7⟩ kd
    exact Y0 (Xn (b:=H.next) (o:=0) (kd.old rfl rfl) (Zi ⟨_,rfl,k,p0,p1,p2,fun _=>rfl,p4,p5,p6,p7⟩))
   ·rintro done V S' H' hd hm ⟨k,p0,p1,p2,p3,p4,p5,p6,p7⟩ kd
    exact Y0 (WB (b:=H.next) (o:=0+3) (v:=iv g.p) (kd.own 3 rfl (hm 3 (by decide)) (p3 (hm 3 (by decide)))) (k.rd c1.rd (by simp)) rfl (Zi ⟨_,rfl,k,p0,p1,p2,p3,fun _=>rfl,p5,p6,p7⟩))
   ·rintro done V S' H' hd hm ⟨k,p0,p1,p2,p3,p4,p5,p6,p7⟩ kd
    have mk:=k.1
    obtain ⟨a,cp,e2,s2⟩:=p2 (hm 2 (by decide))
    have h16:lk S' 16=some (.slice a (mbL g cs).length cp):=kd.own 2 rfl (hm 2 (by decide)) e2
    have h18:lk S' 18=some (iv g.p):=kd.own 4 rfl (hm 4 (by decide)) (p4 (hm 4 (by decide)))
    obtain ⟨v,H2,f2,a2,k2⟩:=Ud (kn:=kn) (lo:=lo) (H:=H') s2 rfl (by omega) (by omega) hmok (p:=g.p) (by omega) (by omega)
    exact Y0 (Z3 s (t:=.fn (.func 25) #[]) (vs:=[.slice a (mbL g cs).length cp,iv g.p]) (by simp only [YH,zq,evS,h16,h18];rfl) (Zh f2) (Zi ⟨v,rfl,k.trans k2,p0,p1,fun h=>(by obtain ⟨a,cp,e,q⟩:=p2 h;exact ⟨a,cp,e,k2.sl0 q⟩),p3,p4,fun _=>a2.low (by omega),fun h=>(p6 h).keep k2,p7⟩))
   ·rintro done V S' H' hd hm ⟨k,p0,p1,p2,p3,p4,p5,p6,p7⟩ kd
    exact Y0 (Zd (kd.own 5 rfl (hm 5 (by decide)) rfl) (Zi ⟨V 5,rfl,k,p0,p1,p2,p3,p4,p5,fun _=>p5 (hm 5 (by decide)),p7⟩))
   ·rintro done V S' H' hd hm ⟨k,p0,p1,p2,p3,p4,p5,p6,p7⟩ kd
    exact Y0 (Zd rfl (Zi ⟨_,rfl,k,p0,p1,p2,p3,p4,p5,p6,fun _=>rfl⟩))
   obtain ⟨k,p0,p1,p2,p3,p4,p5,p6,p7⟩:=hp
   have p6:=p6 (hd 6 (by decide));have p7:=p7 (hd 7 (by decide))
   have mk:=k.1
   refine yE ⟨True.intro,[V 6,V 7],rfl,V 6,?_,?_,hk.trans k⟩
   ·rw [p7];unfold quE;rw [if_pos hvA];rfl
   ·unfold quL;rw [if_pos hvA];exact p6.low (by omega)
end
end
end Go.Ax

/-
 Pool: Percent,and the document's (13,14) (written by program).
-/
namespace Go.Ax
open Go Go.RowKit Go.Proofs

noncomputable section
def tot (ms:List Mb) (k:Nat):Int:=Xr (qtL (k:Int) ms)
theorem qY {ms:List Mb} (h:∀ m∈ms,okM m) {j k:Nat} (hjk:j≤k):tot ms j≤tot ms k:=by
 unfold tot
 induction ms with
 | nil=>exact Int.le_refl _
 | cons m ms ih=>
  have ih:=ih fun x hx=>h x (List.mem_cons_of_mem _ hx)
  have hm:=(h m List.mem_cons_self).2.2.1
  have h1:m.b * (j:Int)≤m.b * (k:Int):=Int.mul_le_mul_of_nonneg_left (by omega) hm
  have h2:m.b * (j:Int) / 1000≤m.b * (k:Int) / 1000:=Int.ediv_le_ediv (by decide) h1
  have e:∀ k:Int,Xr (qtL k (m :: ms))=m.b * k / 1000+Xr (qtL k ms):=fun k=>rfl
  rw [e,e]
  omega
theorem ZfE {ms:List Mb}:tot ms 0=0:=by
 unfold tot
 induction ms with
 | nil=>rfl
 | cons m ms ih=>
  show m.b * ((0:Nat):Int) / 1000+Xr (qtL ((0:Nat):Int) ms)=0
  rw [ih];simp
def Mx (ms:List Mb) (dm:Int) (m:Nat):Prop:=m≤1000∧tot ms m≤dm∧∀ j,j≤1000→tot ms j≤dm→j≤m
theorem Mx.uniq {ms:List Mb} {dm:Int} {m m':Nat} (h:Mx ms dm m) (h':Mx ms dm m'):m=m':=by
 have a:=h.2.2 m' h'.1 h'.2.1
 have b:=h'.2.2 m h.1 h.2.1
 omega
theorem Mx.of {ms:List Mb} {dm:Int} (hm:∀ m∈ms,okM m) (hd:0≤dm) {m:Nat} (h:Lst (Zcg ms dm) 1000 m):Mx ms dm m:=by
 obtain ⟨h1,h2,h3⟩:=h
 refine ⟨h1,?_,fun j hj hd2=>?_⟩
 ·rcases h2 with rfl | h2
  ·rw [ZfE];exact hd
  ·rcases Nat.eq_zero_or_pos m with rfl | h0
   ·rw [ZfE];exact hd
   ·have:=of_decide_eq_false h2
    have e:(((m - 1:Nat):Int)+1)=(m:Int):=by omega
    rw [e] at this
    unfold tot;omega
 ·rcases h3 with rfl | h3
  ·exact hj
  ·have:=of_decide_eq_true h3
   rcases Nat.lt_or_ge m j with q | q
   ·have t:=qY hm (show m+1≤j from q)
    have e:(((m+1:Nat):Int))=(m:Int)+1:=by omega
    unfold tot at t hd2
    rw [e] at t
    omega
   ·exact q
def PcS (cs:List Cp) (g:Gl) (dm v e:Int):Prop:=if vA cs g=true then (if inB dm 0 1099511627776=true then e=0∧∃ m:Nat,v=m∧Mx (mbL g cs) dm m else v=0∧e=2) else v=0∧e=1
theorem PcS.uniq {cs:List Cp} {g:Gl} {dm v e v' e':Int} (h:PcS cs g dm v e) (h':PcS cs g dm v' e'):v=v'∧e=e':=by
 unfold PcS at h h'
 split at h<;>rename_i q
 ·rw [if_pos q] at h'
  split at h<;>rename_i q2
  ·rw [if_pos q2] at h'
   obtain ⟨rfl,m,rfl,hm⟩:=h
   obtain ⟨rfl,m',rfl,hm'⟩:=h'
   exact ⟨by rw [hm.uniq hm'],rfl⟩
  ·rw [if_neg q2] at h'
   exact ⟨h.1.trans h'.1.symm,h.2.trans h'.2.symm⟩
 ·rw [if_neg q] at h'
  exact ⟨h.1.trans h'.1.symm,h.2.trans h'.2.symm⟩
theorem zp {p:Int} {ms:List Mb} {i:Nat} (h:i < ms.length):(qtL p ms).getD i Qt.z=qtM p (ms.getD i Mb.z):=by
 unfold qtL
 rw [List.getD_eq_getElem?_getD,List.getElem?_map,List.getD_eq_getElem?_getD,List.getElem?_eq_getElem h];rfl
theorem WR {p:Int} {ms:List Mb}:(qtL p ms).length=ms.length:=by unfold qtL;rw [List.length_map]
theorem ZcG {a b:List Qt}:Xr (a ++ b)=Xr a+Xr b:=by unfold Xr;rw [List.map_append,Uj]
theorem ZfK {p:Int} {ms:List Mb} {i:Nat} (h:i < ms.length):Xr ((qtL p ms).take (i+1))=Xr ((qtL p ms).take i)+(ms.getD i Mb.z).b * p / 1000:=by
 rw [Xj (z:=Qt.z) (by rw [WR];exact h),ZcG,zp h]
 show _+((ms.getD i Mb.z).b * p / 1000+0)=_
 omega
theorem Zew {l:List Qt} (h:∀ q∈l,okQ q) (i:Nat) (hl:l.length≤400):0≤Xr (l.take i)∧Xr (l.take i)≤2199023255552 * 400:=by
 have q:∀ a∈(l.take i).map (·.a),0≤a∧a≤2199023255552:=ZaY fun q hq=>h q (List.mem_of_mem_take hq)
 have:=Vm (k:=((l.take i).map (·.a)).length) q
 rw [Kc] at this
 have e:min ((l.take i).map (·.a)).length ((l.take i).map (·.a)).length≤400:=by simp only [List.length_map,List.length_take];omega
 have:=jg (B:=2199023255552) (by decide) e
 unfold Xr
 omega
section
variable {kn:Kn} {lo:Nat} {H:Hp}
set_option maxRecDepth 100000 in
set_option maxHeartbeats 1000000 in
theorem VW (s:Snd Try.prog kn) {cs:List Cp} {sa:Option Addr} {n cap:Nat} (hs:Sl H sa n cap (cpc cs)) (hl:cs.length=n) (hn:n≤400) (hlo:lo≤H.next) (hmn:yN n=false) {g:Gl} {dm:Int} :
  FnM Try.prog lo 13 [.slice sa n cap,.agg (Gl.f g).toArray,iv dm] H fun v H'=>∃ u e,v=.tuple #[iv u,iv e]∧PcS cs g dm u e∧Keep H H' []:=by
 refine WP s Try.func13 B13 N13 Z13 L13 (by simp) ?_
 have hk:=Keep.refl H []
 have fs:=hs.old
 refine Zm<|Uz (v:=.agg (Gl.f g).toArray) rfl ?_
 intro H1 kH1 nH1 c1
 have c1:Cl H1 H.next [iv g.y,iv g.k,iv g.b,iv g.p]:=c1
 have mH1:=kH1.1
 have hk:=hk.trans kH1
 have hs:=kH1.sl0 hs
 refine Zd rfl<|Zd rfl<|Zi<|Zm<|Zd rfl<|XM s rfl (ZaT hs hl (by omega) (by omega)) ?_
 intro tH2 H2 hH2 kH2
 have mH2:=kH2.1
 have hk:=hk.trans kH2
 have hs:=kH2.sl0 hs
 have c1:=kH2.cl c1 (by simp)
 cases tH2
 ·have qvC:=hH2
  refine Zk (v:=.bool true) rfl rfl<|Zd rfl<|X5 rfl<|X5 rfl<|X5 rfl<|Zk (v:=.bool true) rfl rfl<|Zi<|Xm<|Zm<|Zd rfl<|Zd rfl<|Zi ?_
  have hvA:vA cs g=false:=by first | (rw [V5 qvC qvG];rfl) | (unfold vA;rw [qvC];rfl)
  exact And.intro trivial (Exists.intro _ (And.intro rfl ⟨0,1,rfl,by unfold PcS;rw [if_neg (by rw [hvA];simp)];exact ⟨rfl,rfl⟩,hk⟩))
 ·have qvC:=hH2
  refine Zk (v:=.bool false) rfl rfl<|Zd rfl ?_
  refine Yd rfl (YW (b:=H.next) (o:=0) rfl c1.rd (show row 4 _ _=some [iv g.y,iv g.k,iv g.b,iv g.p] from rfl) ?_)
  refine Yd rfl (XM s rfl (Za1 (g:=g) (by omega)) ?_)
  intro tH3 H3 hH3 kH3
  have mH3:=kH3.1
  have hk:=hk.trans kH3
  have hs:=kH3.sl0 hs
  have c1:=kH3.cl c1 (by simp)
  cases tH3
  ·have qvG:=hH3
   refine Yd rfl (Zk (v:=.bool true) rfl rfl ?_)
   refine Zk (v:=.bool true) rfl rfl<|Zi<|Xm<|Zm<|Zd rfl<|Zd rfl<|Zi ?_
   have hvA:vA cs g=false:=by first | (rw [V5 qvC qvG];rfl) | (unfold vA;rw [qvC];rfl)
   exact And.intro trivial (Exists.intro _ (And.intro rfl ⟨0,1,rfl,by unfold PcS;rw [if_neg (by rw [hvA];simp)];exact ⟨rfl,rfl⟩,hk⟩))
  ·have qvG:=hH3
   refine Yd rfl (Zk (v:=.bool false) rfl rfl ?_)
   refine Zk (v:=.bool false) rfl rfl<|Zi<|ZR ?_
   first | refine Z8 ?_ | skip
   refine Zm<|Zd rfl ?_
   have hvA:vA cs g=true:=V5 qvC qvG
   have hb:=(KA hvA).1;have hg:=(KA hvA).2;have hsm:=QJ hmn (by have:=(ZbF qvC).1;omega)
   have hgt:=qO hg;have hmlen:=UR (g:=g) hb;have hmok:=Kw hb hg
   refine XM s rfl (XD (n:=dm) (m:=1099511627776)) ?_
   intro tH4 H4 hH4 kH4
   have mH4:=kH4.1
   have hk:=hk.trans kH4
   have hs:=kH4.sl0 hs
   have c1:=kH4.cl c1 (by simp)
   cases tH4
   ·have hdm:=hH4;have hdmu:=XJ hH4
    refine Zk (v:=.bool true) rfl rfl<|Zi<|Xm<|Zm<|Zd rfl<|Zd rfl<|Zi ?_
    exact And.intro trivial (Exists.intro _ (And.intro rfl ⟨0,2,rfl,by unfold PcS;rw [if_pos hvA,if_neg (by rw [hdm];simp)];exact ⟨rfl,rfl⟩,hk⟩))
   ·have hdm:=hH4;have hdmu:=YQ hH4
    refine Zk (v:=.bool false) rfl rfl<|Zi<|ZR ?_
    first | refine Z8 ?_ | skip
    refine Zm<|Zd rfl<|YW (b:=H.next) (o:=0) rfl c1.rd (show row 4 _ _=some [iv g.y,iv g.k,iv g.b,iv g.p] from rfl)<|YA (t:=.fn (.func 26) #[]) rfl (ZV s.hN (WN (H:=H4) s hs hl hsm hb hg (by omega))) ?_
    rintro _ H5 ⟨kH5,ma,mcap,rfl,hms⟩
    have mH5:=kH5.1
    have hk:=hk.trans kH5
    have hs:=kH5.sl0 hs
    have c1:=kH5.cl c1 (by simp)
    have fm:=hms.old
    refine Zd rfl ?_
    obtain ⟨m,H6,fH6,hL,kH6⟩:=jE (kn:=kn) (lo:=lo) (H:=H5) hms rfl (by omega) (by omega) hmok (dm:=dm)
    refine Z3 s (vs:=[.slice ma (mbL g cs).length mcap,iv dm]) rfl (Zh fH6) ?_
    have mH6:=kH6.1
    have hk:=hk.trans kH6
    have hs:=kH6.sl0 hs
    have c1:=kH6.cl c1 (by simp)
    have hms:=kH6.sl0 hms
    refine Zd rfl<|Zd rfl<|Zi ?_
    exact And.intro trivial (Exists.intro _ (And.intro rfl ⟨(m:Int),0,rfl,by unfold PcS;rw [if_pos hvA,if_pos hdm];exact ⟨rfl,m,rfl,Mx.of hmok hdmu.1 hL⟩,hk⟩))
end
end
end Go.Ax

/-
 Pool: Shares (15) (written by program).
-/
namespace Go.Ax
open Go Go.RowKit Go.Proofs

noncomputable section
def ZfO (ms:List Mb) (tot:Int) (x:Nat):Int:=-(tot * (ms.getD x Mb.z).b % YD ms)
def shX (ms:List Mb) (tot:Int) (ps:List Nat):List Qt:=(List.range ms.length).map fun i=>⟨(ms.getD i Mb.z).g,(ms.getD i Mb.z).b,tot * (ms.getD i Mb.z).b / YD ms+(if i∈ps then 1 else 0)⟩
theorem yZ {ms:List Mb} {tot:Int} {ps:List Nat}:(shX ms tot ps).length=ms.length:=by simp [shX]
structure Pso (key:Nat→Int) (n:Nat) (ps:List Nat):Prop where
 nd:ps.Nodup
 lt:∀ p∈ps,p < n
 bf:∀ p∈ps,∀ q,q < n→q ∉ ps→Lk key p q
theorem ZdS {n:Nat} {s:Nat→Nat} (p:PRm 0 n (fun i=>i) s) {q:Nat} (h:q < n):∃ i,i < n∧s i=q:=by
 have hid:rg (fun i:Nat=>i) 0 n=List.range n:=by unfold rg;rw [List.range_eq_range'];simp
 have hp:=p.perm
 rw [hid] at hp
 have:=hp.mem_iff.2 (List.mem_range.2 h)
 unfold rg at this
 obtain ⟨i,hi,e⟩:=List.mem_map.1 this
 refine ⟨i,?_,e⟩
 have:=List.mem_range'.1 hi
 omega
theorem Pso.of {key:Nat→Int} {n K:Nat} {s:Nat→Nat} (p:PRm 0 n (fun i=>i) s) (h:So key 0 n s) (hK:K≤n):Pso key n ((List.range K).map s):=by
 refine ⟨zm List.nodup_range fun a ha b hb e=>ZaR p (by have:=List.mem_range.1 ha;omega) (by have:=List.mem_range.1 hb;omega) e,fun x hx=>?_,fun x hx q hq hn=>?_⟩
 ·obtain ⟨i,hi,rfl⟩:=List.mem_map.1 hx
  exact qy p (by have:=List.mem_range.1 hi;omega)
 ·obtain ⟨i,hi,rfl⟩:=List.mem_map.1 hx
  obtain ⟨j,hj,rfl⟩:=ZdS p hq
  have hjK:¬ j < K:=fun q=>hn (List.mem_map.2 ⟨j,List.mem_range.2 q,rfl⟩)
  have:=List.mem_range.1 hi
  exact h i j (Nat.zero_le _) (by omega) hj
theorem Pso.sub {key:Nat→Int} {n:Nat} {ps qs:List Nat} (h:Pso key n ps) (k:Pso key n qs) (e:ps.length=qs.length) {i:Nat} (hi:i∈ps):i∈qs:=by
 refine Classical.byContradiction fun hn=>?_
 have:∃ j,j∈qs∧j ∉ ps:=Classical.byContradiction fun q=>by
  have hs:∀ x∈i :: qs,x∈ps:=fun x hx=>by
   rcases List.mem_cons.1 hx with rfl | hx
   ·exact hi
   ·exact Classical.byContradiction fun z=>q ⟨x,hx,z⟩
  have:=Xy (List.nodup_cons.2 ⟨hn,k.nd⟩) hs
  simp only [List.length_cons] at this
  omega
 obtain ⟨j,hj,hj2⟩:=this
 have a:=h.bf i hi j (k.lt j hj) hj2
 have b:=k.bf j hj i (h.lt i hi) hn
 unfold Lk at a b
 omega
theorem Pso.shX {ms:List Mb} {tot:Int} {key:Nat→Int} {n:Nat} {ps qs:List Nat} (h:Pso key n ps) (k:Pso key n qs) (e:ps.length=qs.length):shX ms tot ps=shX ms tot qs:=by
 unfold Go.Ax.shX
 refine List.map_congr_left fun i _=>?_
 have:i∈ps↔i∈qs:=⟨h.sub k e,k.sub h e.symm⟩
 simp only [this]
def ShS (cs:List Cp) (g:Gl) (tot:Int) (l:List Qt) (e:Int):Prop:=
 if vA cs g=true then (if inB tot 0 1048576=true then (if YD (mbL g cs)=0 then l=[]∧e=4 else e=0∧∃ ps,Pso (ZfO (mbL g cs) tot) (mbL g cs).length ps∧ps.length=(U0 (mbL g cs) tot).toNat∧l=shX (mbL g cs) tot ps) else l=[]∧e=2) else l=[]∧e=1
theorem ShS.uniq {cs:List Cp} {g:Gl} {tot e e':Int} {l l':List Qt} (h:ShS cs g tot l e) (h':ShS cs g tot l' e'):l=l'∧e=e':=by
 unfold ShS at h h'
 split at h<;>rename_i q
 ·rw [if_pos q] at h'
  split at h<;>rename_i q2
  ·rw [if_pos q2] at h'
   split at h<;>rename_i q3
   ·rw [if_pos q3] at h';exact ⟨h.1.trans h'.1.symm,h.2.trans h'.2.symm⟩
   ·rw [if_neg q3] at h'
    obtain ⟨e0,ps,h1,h2,el⟩:=h
    obtain ⟨e0',qs,h1',h2',el'⟩:=h'
    exact ⟨el.trans ((h1.shX h1' (h2.trans h2'.symm)).trans el'.symm),e0.trans e0'.symm⟩
  ·rw [if_neg q2] at h';exact ⟨h.1.trans h'.1.symm,h.2.trans h'.2.symm⟩
 ·rw [if_neg q] at h';exact ⟨h.1.trans h'.1.symm,h.2.trans h'.2.symm⟩
theorem Zeg {ms:List Mb} (h:∀ m∈ms,okM m) (hl:ms.length≤400):0≤YD ms∧YD ms≤439804651110400:=by
 have:=Vm (k:=(ms.map (·.b)).length) (Zbw h)
 rw [Kc] at this
 have e:min (ms.map (·.b)).length (ms.map (·.b)).length≤400:=by simp only [List.length_map];omega
 have:=jg (B:=1099511627776) (by decide) e
 unfold YD
 omega
theorem Zcj {ms:List Mb} (h:YD ms≠0):0 < ms.length:=by
 rcases Nat.eq_zero_or_pos ms.length with e | e
 ·have:ms=[]:=List.eq_nil_of_length_eq_zero e
  subst this;exact (h (show YK (fun x=>x) ([]:List Int)=0 from rfl)).elim
 ·exact e
section
variable {kn:Kn} {lo:Nat} {H:Hp}
set_option maxRecDepth 100000 in
set_option maxHeartbeats 1000000 in
theorem ZbU (s:Snd Try.prog kn) {cs:List Cp} {sa:Option Addr} {n cap:Nat} (hs:Sl H sa n cap (cpc cs)) (hl:cs.length=n) (hn:n≤400) (hlo:lo≤H.next) (hmn:yN n=false) {g:Gl} {tot:Int} :
  FnM Try.prog lo 15 [.slice sa n cap,.agg (Gl.f g).toArray,iv tot] H fun v H'=>∃ u l e,v=.tuple #[u,iv e]∧ShS cs g tot l e∧(∃ a cp,u=.slice a l.length cp∧Sl H' a l.length cp (qtc l))∧Keep H H' []:=by
 refine WP s Try.func15 B15 N15 Z15 L15 (by simp) ?_
 have hk:=Keep.refl H []
 have fs:=hs.old
 refine Zm<|Uz (v:=.agg (Gl.f g).toArray) rfl ?_
 intro H1 kH1 nH1 c1
 have c1:Cl H1 H.next [iv g.y,iv g.k,iv g.b,iv g.p]:=c1
 have mH1:=kH1.1
 have hk:=hk.trans kH1
 have hs:=kH1.sl0 hs
 refine Zd rfl<|Zd rfl<|Zi<|Zm<|Zd rfl<|XM s rfl (ZaT hs hl (by omega) (by omega)) ?_
 intro tH2 H2 hH2 kH2
 have mH2:=kH2.1
 have hk:=hk.trans kH2
 have hs:=kH2.sl0 hs
 have c1:=kH2.cl c1 (by simp)
 cases tH2
 ·have qvC:=hH2
  refine Zk (v:=.bool true) rfl rfl<|Zd rfl<|X5 rfl<|X5 rfl<|X5 rfl<|Zk (v:=.bool true) rfl rfl<|Zi<|Xm<|Zm<|Zd rfl<|Zd rfl<|Zi ?_
  have hvA:vA cs g=false:=by first | (rw [V5 qvC qvG];rfl) | (unfold vA;rw [qvC];rfl)
  exact And.intro trivial (Exists.intro _ (And.intro rfl ⟨.slice none 0 0,[],1,rfl,by unfold ShS;rw [if_neg (by rw [hvA];simp)];exact ⟨rfl,rfl⟩,⟨none,0,rfl,.inl ⟨.inl rfl,rfl,rfl,rfl⟩⟩,hk⟩))
 ·have qvC:=hH2
  refine Zk (v:=.bool false) rfl rfl<|Zd rfl ?_
  refine Yd rfl (YW (b:=H.next) (o:=0) rfl c1.rd (show row 4 _ _=some [iv g.y,iv g.k,iv g.b,iv g.p] from rfl) ?_)
  refine Yd rfl (XM s rfl (Za1 (g:=g) (by omega)) ?_)
  intro tH3 H3 hH3 kH3
  have mH3:=kH3.1
  have hk:=hk.trans kH3
  have hs:=kH3.sl0 hs
  have c1:=kH3.cl c1 (by simp)
  cases tH3
  ·have qvG:=hH3
   refine Yd rfl (Zk (v:=.bool true) rfl rfl ?_)
   refine Zk (v:=.bool true) rfl rfl<|Zi<|Xm<|Zm<|Zd rfl<|Zd rfl<|Zi ?_
   have hvA:vA cs g=false:=by first | (rw [V5 qvC qvG];rfl) | (unfold vA;rw [qvC];rfl)
   exact And.intro trivial (Exists.intro _ (And.intro rfl ⟨.slice none 0 0,[],1,rfl,by unfold ShS;rw [if_neg (by rw [hvA];simp)];exact ⟨rfl,rfl⟩,⟨none,0,rfl,.inl ⟨.inl rfl,rfl,rfl,rfl⟩⟩,hk⟩))
  ·have qvG:=hH3
   refine Yd rfl (Zk (v:=.bool false) rfl rfl ?_)
   refine Zk (v:=.bool false) rfl rfl<|Zi<|ZR ?_
   first | refine Z8 ?_ | skip
   refine Zm<|Zd rfl ?_
   have hvA:vA cs g=true:=V5 qvC qvG
   have hb:=(KA hvA).1;have hg:=(KA hvA).2;have hsm:=QJ hmn (by have:=(ZbF qvC).1;omega)
   have hgt:=qO hg;have hmlen:=UR (g:=g) hb;have hmok:=Kw hb hg
   refine XM s rfl (XD (n:=tot) (m:=1048576)) ?_
   intro tH4 H4 hH4 kH4
   have mH4:=kH4.1
   have hk:=hk.trans kH4
   have hs:=kH4.sl0 hs
   have c1:=kH4.cl c1 (by simp)
   cases tH4
   ·have hdm:=hH4;have hdmu:=XJ hH4
    refine Zk (v:=.bool true) rfl rfl<|Zi<|Xm<|Zm<|Zd rfl<|Zd rfl<|Zi ?_
    exact And.intro trivial (Exists.intro _ (And.intro rfl ⟨.slice none 0 0,[],2,rfl,by unfold ShS;rw [if_pos hvA,if_neg (by rw [hdm];simp)];exact ⟨rfl,rfl⟩,⟨none,0,rfl,.inl ⟨.inl rfl,rfl,rfl,rfl⟩⟩,hk⟩))
   ·have hdm:=hH4;have hdmu:=YQ hH4
    refine Zk (v:=.bool false) rfl rfl<|Zi<|ZR ?_
    first | refine Z8 ?_ | skip
    refine Zm<|Zd rfl<|YW (b:=H.next) (o:=0) rfl c1.rd (show row 4 _ _=some [iv g.y,iv g.k,iv g.b,iv g.p] from rfl)<|YA (t:=.fn (.func 26) #[]) rfl (ZV s.hN (WN (H:=H4) s hs hl hsm hb hg (by omega))) ?_
    rintro _ H5 ⟨kH5,ma,mcap,rfl,hms⟩
    have mH5:=kH5.1
    have hk:=hk.trans kH5
    have hs:=kH5.sl0 hs
    have c1:=kH5.cl c1 (by simp)
    have fm:=hms.old
    refine Zd rfl<|Zi<|Zm<|Zd rfl ?_
    obtain ⟨H6,fH6,kH6⟩:=Jq (kn:=kn) (lo:=lo) (H:=H5) hms rfl (by omega) (by omega) hmok
    refine Z3 s (vs:=[.slice ma (mbL g cs).length mcap]) rfl (Zh fH6) ?_
    have mH6:=kH6.1
    have hk:=hk.trans kH6
    have hs:=kH6.sl0 hs
    have c1:=kH6.cl c1 (by simp)
    have hms:=kH6.sl0 hms
    have hab:=Zeg hmok (by omega)
    refine Zci (a:=(YD (mbL g cs))) (b:=0) rfl rfl<|Zi ?_
    refine And.intro (fun q1=>?_) (fun q1=>?_)
    ·have q1:(YD (mbL g cs))=0:=by simpa using q1
     refine Zm<|Zd rfl<|Zd rfl<|Zi ?_
     have hze:YD (mbL g cs)=0:=by omega
     exact And.intro trivial (Exists.intro _ (And.intro rfl ⟨.slice none 0 0,[],4,rfl,by unfold ShS;rw [if_pos hvA,if_pos hdm,if_pos hze];exact ⟨rfl,rfl⟩,⟨none,0,rfl,.inl ⟨.inl rfl,rfl,rfl,rfl⟩⟩,hk⟩))
    ·have q1:¬ ((YD (mbL g cs))=0):=by simpa using q1
     first | refine Z8 ?_ | skip
     refine Zm<|Zd rfl<|Zd rfl ?_
     have hne:YD (mbL g cs)≠0:=by omega
     have hpos:=Zcj hne
     have hlen:=hmlen
     obtain ⟨σ,qb,H7,fH7,hpr,hso,hqb,hq,kH7⟩:=jM (kn:=kn) (lo:=lo) (H:=H6) hms rfl (by omega) (by omega) hmok (by omega) hpos hdmu.1 hdmu.2 (by omega) hab.2
     refine Z3 s (vs:=[.slice ma (mbL g cs).length mcap,iv tot]) rfl (Zh fH7) ?_
     have mH7:=kH7.1
     have hk:=hk.trans kH7
     have hs:=kH7.sl0 hs
     have c1:=kH7.cl c1 (by simp)
     have hms:=kH7.sl0 hms
     refine Zd rfl<|Zd rfl<|Zi ?_
     have hmk:=jU (tot:=tot) (show 0 < YD (mbL g cs) by omega)
     have hps:=Pso.of (K:=(U0 (mbL g cs) tot).toNat) hpr hso (by omega)
     exact And.intro trivial (Exists.intro _ (And.intro rfl ⟨_,_,0,rfl,by unfold ShS;rw [if_pos hvA,if_pos hdm,if_neg hne];exact ⟨rfl,_,hps,by rw [List.length_map,List.length_range],rfl⟩,⟨some ⟨qb,0,none⟩,(mbL g cs).length,by rw [yZ],by rw [yZ];exact .inr ⟨qb,rfl,hq.rd,Nat.le_refl _⟩⟩,hk⟩))
end
end
end Go.Ax

/-
 Pool: the document: Shares (16) (written by program).
-/
namespace Go.Ax
open Go Go.RowKit Go.Proofs

noncomputable section
def Pk (key:Nat→Int) (ps:List Nat) (i:Nat) (x:Int):Prop:=(x = -1∧∀ j,j < i→j∈ps)∨∃ m:Nat,x=m∧m < i∧m ∉ ps∧∀ j,j < i→j ∉ ps→j≠m→Lk key m j
theorem Pk.skip {key:Nat→Int} {ps:List Nat} {i:Nat} {x:Int} (h:Pk key ps i x) (hc:i∈ps∨∃ m:Nat,x=m∧key m≤key i):Pk key ps (i+1) x:=by
 rcases h with ⟨h1,h2⟩ | ⟨m,h1,h2,h3,h4⟩
 ·refine .inl ⟨h1,fun j hj=>?_⟩
  rcases Nat.lt_or_ge j i with q | q
  ·exact h2 j q
  ·have:j=i:=by omega
   subst this
   rcases hc with c | ⟨m,c,_⟩
   ·exact c
   ·omega
 ·refine .inr ⟨m,h1,by omega,h3,fun j hj hn hm=>?_⟩
  rcases Nat.lt_or_ge j i with q | q
  ·exact h4 j q hn hm
  ·have:j=i:=by omega
   subst this
   rcases hc with c | ⟨m',c,d⟩
   ·exact absurd c hn
   ·have:m'=m:=by omega
    subst this
    unfold Lk;omega
theorem Pk.take {key:Nat→Int} {ps:List Nat} {i:Nat} {x:Int} (h:Pk key ps i x) (hi:i ∉ ps) (hc:x < 0∨∃ m:Nat,x=m∧key i < key m):Pk key ps (i+1) i:=by
 refine .inr ⟨i,rfl,by omega,hi,fun j hj hn hji=>?_⟩
 rcases h with ⟨h1,h2⟩ | ⟨m,h1,h2,h3,h4⟩
 ·exact absurd (h2 j (by omega)) hn
 ·rcases hc with c | ⟨m',c,d⟩
  ·omega
  ·have:m'=m:=by omega
   subst this
   by_cases q:j=m'
   ·subst q;exact .inl d
   ·have:=h4 j (by omega) hn q
    unfold Lk at this ⊢;omega
theorem Pk.init {key:Nat→Int} {ps:List Nat}:Pk key ps 0 (-1):=.inl ⟨rfl,fun j h=>absurd h (by omega)⟩
theorem Pk.found {key:Nat→Int} {ps:List Nat} {n:Nat} {x:Int} (h:Pk key ps n x) (hl:ps.length < n) (p:Pso key n ps):∃ m:Nat,x=m∧m < n∧m ∉ ps∧Pso key n (ps ++ [m]):=by
 rcases h with ⟨h1,h2⟩ | ⟨m,h1,h2,h3,h4⟩
 ·exfalso
  have:=Xy (D:=List.range n) (L:=ps) List.nodup_range fun x hx=>h2 x (List.mem_range.1 hx)
  rw [List.length_range] at this
  omega
 ·refine ⟨m,h1,h2,h3,List.nodup_append.2 ⟨p.nd,by simp,fun a ha b hb e=>h3 (by simp at hb;rw [← hb,← e];exact ha)⟩,fun q hq=>?_,fun q hq r hr hn=>?_⟩
  ·rcases List.mem_append.1 hq with hq | hq
   ·exact p.lt q hq
   ·simp at hq;omega
  ·have hn1:r ∉ ps:=fun z=>hn (List.mem_append.2 (.inl z))
   have hn2:r≠m:=fun z=>hn (by rw [z];simp)
   rcases List.mem_append.1 hq with hq | hq
   ·exact p.bf q hq r hr hn1
   ·simp at hq;subst hq;exact h4 r hr hn1 hn2
theorem Pso.nil {key:Nat→Int} {n:Nat}:Pso key n []:=⟨List.nodup_nil,(fun p h=>by cases h),(fun p h=>by cases h)⟩
section
variable {kn:Kn} {lo:Nat} {H:Hp}
end
end
end Go.Ax


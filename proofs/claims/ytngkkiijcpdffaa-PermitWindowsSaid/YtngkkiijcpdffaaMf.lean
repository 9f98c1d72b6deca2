import Derived.Test.YtngkkiijcpdffaaMe
import Derived.Test.YtngkkiijcpdffaaChecked
import Derived.Deep.Slices
import Derived.Deep.Fields
import Derived.ChangeSame
set_option linter.all false
/-
 Pool: waters mixed,what a river takes,phosphorus (written by program).
-/
namespace Go.Ax
open Go Go.RowKit Go.Proofs

noncomputable section
theorem Jz {P:Program} {S:Rg} {H:Hp} {a x n b:Nat} {t:TypeId} {cs:List Value} {v:Value} (ha:lk S a=some (.pointer (some ⟨x,0,none⟩))) (h1:Xr P t=some true) (hi:∃ i,P.info? t=some i∧i.size=n) (hl:cs.length=n) (h:Cl H x cs) (hb:lk S b=some v):Wf P S H [.cell a t,.tmp b]=some [.agg cs.toArray,v]:=by
 simp only [Wf,ha,hb,WA h1 hi h.rd hl]
theorem ZcN {P:Program} {S:Rg} {H:Hp} {a a2 x x2 n:Nat} {t:TypeId} {cs cs2:List Value} (ha:lk S a=some (.pointer (some ⟨x,0,none⟩))) (ha2:lk S a2=some (.pointer (some ⟨x2,0,none⟩))) (h1:Xr P t=some true) (hi:∃ i,P.info? t=some i∧i.size=n) (hl:cs.length=n) (hl2:cs2.length=n) (h:Cl H x cs) (h2:Cl H x2 cs2):Wf P S H [.cell a t,.cell a2 t]=some [.agg cs.toArray,.agg cs2.toArray]:=by
 simp only [Wf,ha,ha2,WA h1 hi h.rd hl,WA h1 hi h2.rd hl2]
theorem K2 {P:Program} {S:Rg} {H:Hp} {a a2 x x2 n b:Nat} {t:TypeId} {cs cs2:List Value} {v:Value} (ha:lk S a=some (.pointer (some ⟨x,0,none⟩))) (ha2:lk S a2=some (.pointer (some ⟨x2,0,none⟩))) (h1:Xr P t=some true) (hi:∃ i,P.info? t=some i∧i.size=n) (hl:cs.length=n) (hl2:cs2.length=n) (h:Cl H x cs) (h2:Cl H x2 cs2) (hb:lk S b=some v):Wf P S H [.cell a t,.cell a2 t,.tmp b]=some [.agg cs.toArray,.agg cs2.toArray,v]:=by
 simp only [Wf,ha,ha2,hb,WA h1 hi h.rd hl,WA h1 hi h2.rd hl2]
def cnx (a:Fw):Nat→Int | 0=>a.wl | 1=>a.wl | _=>a.wh
def cny (b:Fw):Nat→Int | 0=>b.wl | 1=>b.wh | 2=>b.wl | _=>b.wh
def clA (a b:Fw) (k:Nat):Int:=(cnx a k * a.tl+cny b k * b.tl) / (cnx a k+cny b k)
def chA (a b:Fw) (k:Nat):Int:=(cnx a k * a.th+cny b k * b.th+(cnx a k+cny b k) - 1) / (cnx a k+cny b k)
def mLo (a b:Fw):Nat→Int | 0=>40000 | k+1=>min (mLo a b k) (clA a b k)
def mHi (a b:Fw):Nat→Int | 0=>0 | k+1=>max (mHi a b k) (chA a b k)
theorem j5 {n s m:Int} (h0:0≤n) (hs:0 < s) (h:n < (m+1) * s):0≤n / s∧n / s≤m:=by
 refine ⟨Int.ediv_nonneg h0 (by omega),?_⟩
 have:=Int.ediv_lt_of_lt_mul hs h
 omega
theorem Zc3 {a:Fw} (h:vF a=true) (k:Nat):0≤a.wl∧a.wl≤cnx a k∧cnx a k≤a.wh∧a.wh≤1073741824:=by
 obtain ⟨⟨h1,h2,h3⟩,_⟩:=ZaS h
 unfold cnx
 split<;>omega
theorem ZcX {a:Fw} (h:vF a=true) (k:Nat):0≤a.wl∧a.wl≤cny a k∧cny a k≤a.wh∧a.wh≤1073741824:=by
 obtain ⟨⟨h1,h2,h3⟩,_⟩:=ZaS h
 unfold cny
 split<;>omega
theorem ZaR {a b:Fw} (ha:vF a=true) (hb:vF b=true) (hz:¬ (a.wl=0∧b.wl=0)) (k:Nat) :
  0≤cnx a k∧cnx a k≤1073741824∧0≤cny b k∧cny b k≤1073741824∧0 < cnx a k+cny b k∧
  0≤cnx a k * a.tl∧cnx a k * a.tl≤42949672960000∧0≤cny b k * b.tl∧cny b k * b.tl≤42949672960000∧
  0≤cnx a k * a.th∧cnx a k * a.th≤42949672960000∧0≤cny b k * b.th∧cny b k * b.th≤42949672960000∧
  0≤clA a b k∧clA a b k≤40000∧0≤chA a b k∧chA a b k≤40000:=by
 have h1:=Zc3 ha k
 have h2:=ZcX hb k
 obtain ⟨_,h3,h4,h5⟩:=ZaS ha
 obtain ⟨_,h6,h7,h8⟩:=ZaS hb
 have p1:=XM (x:=cnx a k) (y:=a.tl) (X:=1073741824) (Y:=40000) (by omega) (by omega) (by omega) (by omega)
 have p2:=XM (x:=cny b k) (y:=b.tl) (X:=1073741824) (Y:=40000) (by omega) (by omega) (by omega) (by omega)
 have p3:=XM (x:=cnx a k) (y:=a.th) (X:=1073741824) (Y:=40000) (by omega) (by omega) (by omega) (by omega)
 have p4:=XM (x:=cny b k) (y:=b.th) (X:=1073741824) (Y:=40000) (by omega) (by omega) (by omega) (by omega)
 have q1:=(XM (x:=cnx a k) (y:=a.tl) (X:=cnx a k) (Y:=40000) (by omega) (by omega) (by omega) (by omega)).2
 have q2:=(XM (x:=cny b k) (y:=b.tl) (X:=cny b k) (Y:=40000) (by omega) (by omega) (by omega) (by omega)).2
 have q3:=(XM (x:=cnx a k) (y:=a.th) (X:=cnx a k) (Y:=40000) (by omega) (by omega) (by omega) (by omega)).2
 have q4:=(XM (x:=cny b k) (y:=b.th) (X:=cny b k) (Y:=40000) (by omega) (by omega) (by omega) (by omega)).2
 have d1:=j5 (n:=cnx a k * a.tl+cny b k * b.tl) (s:=cnx a k+cny b k) (m:=40000) (by omega) (by omega) (by omega)
 have d2:=j5 (n:=cnx a k * a.th+cny b k * b.th+(cnx a k+cny b k) - 1) (s:=cnx a k+cny b k) (m:=40000) (by omega) (by omega) (by omega)
 unfold clA chA
 omega
def mxT (a b:Fw):(Int × Int) × Int:=if vF a=false∨vF b=false then ((0,0),1) else if a.wl=0∧b.wl=0 then ((0,0),10) else ((mLo a b 4,mHi a b 4),0)
def moT (a:Fw) (l h limit:Int):Int × Int:=if vF a=false∨spB l h 40000=false then (0,1) else if inB limit 0 40000=false then (0,2) else if limit < a.th then (0,12) else if h≤limit then (1073741824,0) else (min 1073741824 (a.wl * (limit - a.th) / (h - limit)),0)
def baT (x:Ph):(Int × Int) × (Int × Int) × Int:=if vP x=false then ((0,0),(0,0),1) else if x.bh+x.ih - x.ol - x.rl * x.cl < 0 then ((0,0),(0,0),4) else ((max 0 (x.bl+x.il - x.oh - x.rh * x.ch),x.bh+x.ih - x.ol - x.rl * x.cl),(x.rl * x.cl,x.rh * x.ch),0)
theorem Zca {a b:Fw} (h:vF a=false∨vF b=false):mxT a b=((0,0),1):=by unfold mxT;rw [if_pos h]
theorem ZcL {a b:Fw} (h:vF a=true) (k:vF b=true) (q:a.wl=0∧b.wl=0):mxT a b=((0,0),10):=by unfold mxT;rw [if_neg (by rw [h,k];decide),if_pos q]
theorem ZbY {a b:Fw} (h:vF a=true) (k:vF b=true) (q:¬ (a.wl=0∧b.wl=0)):mxT a b=((mLo a b 4,mHi a b 4),0):=by unfold mxT;rw [if_neg (by rw [h,k];decide),if_neg q]
theorem JC {a b:Fw} {l h e:Int} (q:mxT a b=((l,h),e)):(Value.tuple #[.agg #[iv l,iv h],iv e])=.tuple #[.agg #[iv (mxT a b).1.1,iv (mxT a b).1.2],iv (mxT a b).2]:=by rw [q]
theorem QM {a:Fw} {l h limit n e:Int} (q:moT a l h limit=(n,e)):(Value.tuple #[iv n,iv e])=.tuple #[iv (moT a l h limit).1,iv (moT a l h limit).2]:=by rw [q]
theorem Zcl {a:Fw} {l h limit:Int} (q:vF a=false∨spB l h 40000=false):moT a l h limit=(0,1):=by unfold moT;rw [if_pos q]
theorem Zea {a:Fw} {l h limit:Int} (q:vF a=true) (q2:spB l h 40000=true) (r:inB limit 0 40000=false):moT a l h limit=(0,2):=by unfold moT;rw [if_neg (by rw [q,q2];decide),if_pos r]
theorem ZcH {a:Fw} {l h limit:Int} (q:vF a=true) (q2:spB l h 40000=true) (r:inB limit 0 40000=true) (s:limit < a.th):moT a l h limit=(0,12):=by unfold moT;rw [if_neg (by rw [q,q2];decide),if_neg (by rw [r];decide),if_pos s]
def moV (a:Fw) (h limit:Int):Int:=if h≤limit then 1073741824 else min 1073741824 (a.wl * (limit - a.th) / (h - limit))
theorem Zdo {a:Fw} {l h limit:Int} (q:vF a=true) (q2:spB l h 40000=true) (r:inB limit 0 40000=true) (s:¬ limit < a.th):moT a l h limit=(moV a h limit,0):=by unfold moT moV;rw [if_neg (by rw [q,q2];decide),if_neg (by rw [r];decide),if_neg s];split<;>rfl
theorem Zdj {x:Ph} (h:vP x=false):baT x=((0,0),(0,0),1):=by unfold baT;rw [if_pos h]
theorem ZeA {x:Ph} (h:vP x=true) (q:x.bh+x.ih - x.ol - x.rl * x.cl < 0):baT x=((0,0),(0,0),4):=by unfold baT;rw [if_neg (by rw [h];decide),if_pos q]
theorem Zec {x:Ph} (h:vP x=true) (q:¬ x.bh+x.ih - x.ol - x.rl * x.cl < 0):baT x=((max 0 (x.bl+x.il - x.oh - x.rh * x.ch),x.bh+x.ih - x.ol - x.rl * x.cl),(x.rl * x.cl,x.rh * x.ch),0):=by unfold baT;rw [if_neg (by rw [h];decide),if_neg q]
theorem yX {x:Ph} {a b c d e:Int} (q:baT x=((a,b),(c,d),e)):(Value.tuple #[.agg #[iv a,iv b],.agg #[iv c,iv d],iv e])=.tuple #[.agg #[iv (baT x).1.1,iv (baT x).1.2],.agg #[iv (baT x).2.1.1,iv (baT x).2.1.2],iv (baT x).2.2]:=by rw [q]
theorem zl {x:Ph} (h:vP x=true):0≤x.rl * x.cl∧x.rl * x.cl≤x.rh * x.ch∧x.rh * x.ch≤1073741824000:=by
 obtain ⟨_,_,_,⟨h1,h2,h3⟩,h4,h5,h6⟩:=Zbt h
 have a:=XM (x:=x.rl) (y:=x.cl) (X:=x.rh) (Y:=x.ch) (by omega) (by omega) (by omega) (by omega)
 have b:=XM (x:=x.rh) (y:=x.ch) (X:=1073741824) (Y:=1000) (by omega) (by omega) (by omega) (by omega)
 omega
theorem ZaC {n:Nat} {S:Rg} {d:Option Tmp} {x y:Operand} {p:String} {ty:TypeId} {a b:Fw} {i:Nat} (hx:evS S x=some (.agg #[iv a.wl,iv b.wl,iv a.wl,iv b.wh,iv a.wh,iv b.wl,iv a.wh,iv b.wh])) (hy:evS S y=some (iv (i:Int))) (hi:i < 4):Zq Try.prog (frS n S) ⟨d,.index 105 x y,ty,p,#[],none⟩=some (.agg #[iv (cnx a i),iv (cny b i)]):=by
 unfold Zq
 simp only [Yf,hx,hy]
 rcases i with _ | _ | _ | _ | i
 ·kernel_rfl
 ·kernel_rfl
 ·kernel_rfl
 ·kernel_rfl
 ·omega
def phl (x:Ph):Nat→Int | 0=>x.bl | 1=>x.il | _=>x.ol
def phh (x:Ph):Nat→Int | 0=>x.bh | 1=>x.ih | _=>x.oh
theorem Zax {n:Nat} {S:Rg} {d:Option Tmp} {a y:Operand} {p:String} {ty:TypeId} {x:Ph} {i:Nat} (hx:evS S a=some (.agg #[iv x.bl,iv x.bh,iv x.il,iv x.ih,iv x.ol,iv x.oh])) (hy:evS S y=some (iv (i:Int))) (hi:i < 3):Zq Try.prog (frS n S) ⟨d,.index 107 a y,ty,p,#[],none⟩=some (.agg #[iv (phl x i),iv (phh x i)]):=by
 unfold Zq
 simp only [Yf,hx,hy]
 rcases i with _ | _ | _ | i
 ·kernel_rfl
 ·kernel_rfl
 ·kernel_rfl
 ·omega
section
variable {kn:Kn} {lo:Nat} {H:Hp}
set_option maxRecDepth 100000 in
set_option maxHeartbeats 1000000 in
theorem yA {al ah bl bh:Int} (hlo:lo≤H.next):∃ H',FnX Try.prog kn lo 65 [.agg #[iv al,iv ah],.agg #[iv bl,iv bh]] H (.agg #[iv al,iv bl,iv al,iv bh,iv ah,iv bl,iv ah,iv bh]) H'∧Zh H H' []:=by
 have key:=Zp (kn:=kn) (lo:=lo) (H:=H) (args:=[.agg #[iv al,iv ah],.agg #[iv bl,iv bh]]) (Q:=fun w H'=>w=(.agg #[iv al,iv bl,iv al,iv bh,iv ah,iv bl,iv ah,iv bh])∧Zh H H' []) Try.func65 B65 N65 Z65 L65 (by simp) ?_
 ·obtain ⟨w,H',h,rfl,q⟩:=key;exact ⟨H',h,q⟩
 have hk:=Zh.refl H []
 refine Zc<|Yl (v:=.agg #[iv al,iv ah]) rfl ?_
 intro H1 kH1 nH1 c1
 have c1:Cl H1 H.next [iv al,iv ah]:=c1
 have mH1:=kH1.1
 have hk:=hk.trans kH1
 refine Yl (v:=.agg #[iv bl,iv bh]) rfl ?_
 intro H2 kH2 nH2 c2
 have c2:Cl H2 H1.next [iv bl,iv bh]:=c2
 have mH2:=kH2.1
 have hk:=hk.trans kH2
 have c1:=kH2.cl c1 (by simp)
 refine Yq ?_
 intro H3 kH3 nH3 c3
 have c3:Cl H3 H2.next [iv 0,iv 0,iv 0,iv 0,iv 0,iv 0,iv 0,iv 0]:=c3
 have mH3:=kH3.1
 have hk:=hk.trans kH3
 have c1:=kH3.cl c1 (by simp)
 have c2:=kH3.cl c2 (by simp)
 refine Zb<|Zc<|Zn (b:=H.next) (o:=0) rfl<|Zy (b:=H.next) (o:=0) (v:=iv al) rfl c1.rd rfl<|Zn (b:=H1.next) (o:=0) rfl<|Zy (b:=H1.next) (o:=0) (v:=iv bl) rfl c2.rd rfl<|Zd (v:=.agg #[iv al,iv bl]) rfl (by kernel_rfl)<|Zn (b:=H.next) (o:=0) rfl<|Zy (b:=H.next) (o:=0) (v:=iv al) rfl c1.rd rfl<|Zn (b:=H1.next) (o:=0) rfl<|Zy (b:=H1.next) (o:=1) (v:=iv bh) rfl c2.rd rfl<|Zd (v:=.agg #[iv al,iv bh]) rfl (by kernel_rfl)<|Zn (b:=H.next) (o:=0) rfl<|Zy (b:=H.next) (o:=1) (v:=iv ah) rfl c1.rd rfl<|Zn (b:=H1.next) (o:=0) rfl<|Zy (b:=H1.next) (o:=0) (v:=iv bl) rfl c2.rd rfl<|Zd (v:=.agg #[iv ah,iv bl]) rfl (by kernel_rfl)<|Zn (b:=H.next) (o:=0) rfl<|Zy (b:=H.next) (o:=1) (v:=iv ah) rfl c1.rd rfl<|Zn (b:=H1.next) (o:=0) rfl<|Zy (b:=H1.next) (o:=1) (v:=iv bh) rfl c2.rd rfl<|Zd (v:=.agg #[iv ah,iv bh]) rfl (by kernel_rfl)<|Zd (v:=.agg #[iv al,iv bl,iv al,iv bh,iv ah,iv bl,iv ah,iv bh]) rfl (by kernel_rfl)<|Z6 (b:=H2.next) (o:=0) rfl rfl c3 (by omega) rfl rfl (by simp) ?_
 intro H4 kH4 nH4 sH4
 have mH4:=kH4.1
 have hk:=hk.new kH4 (fun b hb=>by simp at hb ⊢;omega)
 have c1:=kH4.cl c1 (by first | (simp;done) | (simp;omega))
 have c2:=kH4.cl c2 (by first | (simp;done) | (simp;omega))
 have c3:Cl H4 H2.next [iv al,iv bl,iv al,iv bh,iv ah,iv bl,iv ah,iv bh]:=sH4
 refine Zb ?_
 exact And.intro trivial (Exists.intro _ (And.intro (Uo rfl ZeM Zex rfl c3) ⟨rfl,hk⟩))
set_option maxRecDepth 100000 in
set_option maxHeartbeats 2000000 in
theorem z9 (h35:kn.b 35=none) {a b:Fw} (ha:vF a=true) (hb:vF b=true) (hz:¬ (a.wl=0∧b.wl=0)) (hlo:lo≤H.next):∃ H',FnX Try.prog kn lo 43 [.agg (Fw.f a).toArray,.agg (Fw.f b).toArray] H (.agg #[iv (mLo a b 4),iv (mHi a b 4)]) H'∧Zh H H' []:=by
 have key:=Zp (kn:=kn) (lo:=lo) (H:=H) (args:=[.agg (Fw.f a).toArray,.agg (Fw.f b).toArray]) (Q:=fun w H'=>w=(.agg #[iv (mLo a b 4),iv (mHi a b 4)])∧Zh H H' []) Try.func43 B43 N43 Z43 L43 (by simp) ?_
 ·obtain ⟨w,H',h,rfl,q⟩:=key;exact ⟨H',h,q⟩
 have hk:=Zh.refl H []
 refine Zc<|Yl (v:=.agg (Fw.f a).toArray) rfl ?_
 intro H1 kH1 nH1 c1
 have c1:Cl H1 H.next [iv a.wl,iv a.wh,iv a.tl,iv a.th]:=c1
 have mH1:=kH1.1
 have hk:=hk.trans kH1
 refine Yl (v:=.agg (Fw.f b).toArray) rfl ?_
 intro H2 kH2 nH2 c2
 have c2:Cl H2 H1.next [iv b.wl,iv b.wh,iv b.tl,iv b.th]:=c2
 have mH2:=kH2.1
 have hk:=hk.trans kH2
 have c1:=kH2.cl c1 (by simp)
 refine Yq ?_
 intro H3 kH3 nH3 c3
 have c3:Cl H3 H2.next [iv 0,iv 0]:=c3
 have mH3:=kH3.1
 have hk:=hk.trans kH3
 have c1:=kH3.cl c1 (by simp)
 have c2:=kH3.cl c2 (by simp)
 refine Zb<|Zc ?_
 obtain ⟨H4,fH4,kH4⟩:=Qo (kn:=kn) (lo:=lo) (H:=H3)
 refine Zi (vs:=[]) rfl (YR h35 fH4) ?_
 have mH4:=kH4.1
 have hk:=hk.trans kH4
 have c1:=kH4.cl c1 (by simp)
 have c2:=kH4.cl c2 (by simp)
 have c3:=kH4.cl c3 (by simp)
 refine Za rfl<|Zd (v:=.func (.func 57) #[] #[]) rfl (by kernel_rfl)<|Zd (v:=.func (.func 58) #[] #[]) rfl (by kernel_rfl)<|Za rfl<|Za rfl<|Zb<|Zc<|Zd (v:=.agg #[iv 40000,iv 0]) rfl (by kernel_rfl)<|Yq ?_
 intro H5 kH5 nH5 c5
 have c5:Cl H5 H4.next [iv 0,iv 0]:=c5
 have mH5:=kH5.1
 have hk:=hk.trans kH5
 have c1:=kH5.cl c1 (by simp)
 have c2:=kH5.cl c2 (by simp)
 have c3:=kH5.cl c3 (by simp)
 refine Z6 (b:=H4.next) (o:=0) rfl rfl c5 (by omega) rfl rfl (by simp) ?_
 intro H6 kH6 nH6 sH6
 have mH6:=kH6.1
 have hk:=hk.new kH6 (fun b hb=>by simp at hb ⊢;omega)
 have c1:=kH6.cl c1 (by first | (simp;done) | (simp;omega))
 have c2:=kH6.cl c2 (by first | (simp;done) | (simp;omega))
 have c3:=kH6.cl c3 (by first | (simp;done) | (simp;omega))
 have c5:Cl H6 H4.next [iv 40000,iv 0]:=sH6
 refine Zb<|Zc<|Zn (b:=H.next) (o:=0) rfl<|ZP (b:=H.next) (o:=0) rfl c1.rd (show row 2 _ _=some [iv a.wl,iv a.wh] from rfl)<|Zn (b:=H1.next) (o:=0) rfl<|ZP (b:=H1.next) (o:=0) rfl c2.rd (show row 2 _ _=some [iv b.wl,iv b.wh] from rfl) ?_
 obtain ⟨H7,fH7,kH7⟩:=yA (kn:=kn) (lo:=lo) (H:=H6) (al:=a.wl) (ah:=a.wh) (bl:=b.wl) (bh:=b.wh) (by omega)
 refine Zi (vs:=[.agg #[iv a.wl,iv a.wh],.agg #[iv b.wl,iv b.wh]]) rfl (Zf fH7) ?_
 have mH7:=kH7.1
 have hk:=hk.trans kH7
 have c1:=kH7.cl c1 (by simp)
 have c2:=kH7.cl c2 (by simp)
 have c3:=kH7.cl c3 (by simp)
 have c5:=kH7.cl c5 (by simp)
 refine Za rfl<|Zb ?_
 refine ZA (fn:=Try.f43) Zd2 N43 ZeB (fun i:Nat=>[(2,pt H.next),(3,pt H1.next),(4,pt H2.next),(5,.func (.func 57) #[] #[]),(6,.func (.func 58) #[] #[]),(7,pt H4.next),(22,.agg #[iv a.wl,iv b.wl,iv a.wl,iv b.wh,iv a.wh,iv b.wl,iv a.wh,iv b.wh]),(23,iv (i:Int))])
  (fun k i H'=>i+k=4∧Zh H H' []∧H4.next < H'.next∧Cl H' H.next [iv a.wl,iv a.wh,iv a.tl,iv a.th]∧Cl H' H1.next [iv b.wl,iv b.wh,iv b.tl,iv b.th]∧Cl H' H2.next [iv 0,iv 0]∧Cl H' H4.next [iv (mLo a b i),iv (mHi a b i)]) 4 0 ⟨by omega,hk,by omega,c1,c2,c3,c5⟩ ⟨rfl,rfl,rfl,rfl,rfl,rfl,rfl,rfl,trivial⟩ ?_
 rintro k i L1 ⟨hik,hk,hnx,ca,cb,cr,cw⟩
 have mk:=hk.1;have hm:=ZaR ha hb hz i
 refine Zc<|ZB (a:=(i:Int)) (b:=4) rfl rfl<|Zb ?_
 refine And.intro (fun q1=>?_) (fun q1=>?_)
 ·have q1:(i:Int) < 4:=of_decide_eq_true q1
  have hi:i < 4:=by omega
  first | refine Zj ?_ | skip
  refine Zc<|Zd (v:=.agg #[iv (cnx a i),iv (cny b i)]) rfl (ZaC rfl rfl hi)<|Yq ?_
  intro H8 kH8 nH8 c8
  have c8:Cl H8 L1.next [iv 0,iv 0]:=c8
  have mH8:=kH8.1
  have hk:=hk.trans kH8
  have ca:=kH8.cl ca (by simp)
  have cb:=kH8.cl cb (by simp)
  have cr:=kH8.cl cr (by simp)
  have cw:=kH8.cl cw (by simp)
  refine Z6 (b:=L1.next) (o:=0) rfl rfl c8 (by omega) rfl rfl (by simp) ?_
  intro H9 kH9 nH9 sH9
  have mH9:=kH9.1
  have hk:=hk.new kH9 (fun b hb=>by simp at hb ⊢;omega)
  have ca:=kH9.cl ca (by first | (simp;done) | (simp;omega))
  have cb:=kH9.cl cb (by first | (simp;done) | (simp;omega))
  have cr:=kH9.cl cr (by first | (simp;done) | (simp;omega))
  have cw:=kH9.cl cw (by first | (simp;done) | (simp;omega))
  have c8:Cl H9 L1.next [iv (cnx a i),iv (cny b i)]:=sH9
  refine Zb<|Zc<|Zn (b:=L1.next) (o:=0) rfl<|Zy (b:=L1.next) (o:=0) (v:=iv (cnx a i)) rfl c8.rd rfl<|Zn (b:=L1.next) (o:=0) rfl<|Zy (b:=L1.next) (o:=1) (v:=iv (cny b i)) rfl c8.rd rfl<|Zt (a:=(cnx a i)) (b:=(cny b i)) rfl rfl ⟨by omega,by omega⟩<|Za rfl<|Zb<|Xu<|ZH (b:=L1.next) (o:=0) rfl<|XA (b:=L1.next) (o:=0) (v:=iv (cnx a i)) rfl c8.rd rfl<|Zk rfl<|ZH (b:=H.next) (o:=0) rfl<|ZU (b:=H.next) (o:=2) rfl ca.rd (show row 2 _ _=some [iv a.tl,iv a.th] from rfl) ?_
  obtain ⟨H10,fH10,kH10⟩:=Jp (kn:=kn) (lo:=H9.next) (H:=H9) (a:=a.tl) (b:=a.th) (Nat.le_refl _)
  refine YP (vs:=[.agg #[iv (a.tl),iv (a.th)]]) rfl rfl (Zf fH10) ?_
  have mH10:=kH10.1
  have hk:=hk.trans kH10
  have ca:=kH10.cl ca (by simp)
  have cb:=kH10.cl cb (by simp)
  have cr:=kH10.cl cr (by simp)
  have cw:=kH10.cl cw (by simp)
  have c8:=kH10.cl c8 (by simp)
  refine Va (a:=(cnx a i)) (b:=a.tl) rfl rfl ⟨by omega,by omega⟩<|ZH (b:=L1.next) (o:=0) rfl<|XA (b:=L1.next) (o:=1) (v:=iv (cny b i)) rfl c8.rd rfl<|Zk rfl<|ZH (b:=H1.next) (o:=0) rfl<|ZU (b:=H1.next) (o:=2) rfl cb.rd (show row 2 _ _=some [iv b.tl,iv b.th] from rfl) ?_
  obtain ⟨H11,fH11,kH11⟩:=Jp (kn:=kn) (lo:=H10.next) (H:=H10) (a:=b.tl) (b:=b.th) (Nat.le_refl _)
  refine YP (vs:=[.agg #[iv (b.tl),iv (b.th)]]) rfl rfl (Zf fH11) ?_
  have mH11:=kH11.1
  have hk:=hk.trans kH11
  have ca:=kH11.cl ca (by simp)
  have cb:=kH11.cl cb (by simp)
  have cr:=kH11.cl cr (by simp)
  have cw:=kH11.cl cw (by simp)
  have c8:=kH11.cl c8 (by simp)
  refine Va (a:=(cny b i)) (b:=b.tl) rfl rfl ⟨by omega,by omega⟩<|X3 (a:=(cnx a i) * a.tl) (b:=(cny b i) * b.tl) rfl rfl ⟨by omega,by omega⟩<|Zk rfl ?_
  refine Yo (by repeat' first | exact True.intro | exact (fun h=>h) | refine And.intro ?_ ?_ | (intro h;have h:(_:Nat)=_:=h;omega)) ?_
  refine Xu<|ZH (b:=L1.next) (o:=0) rfl<|XA (b:=L1.next) (o:=0) (v:=iv (cnx a i)) rfl c8.rd rfl<|Zk rfl<|ZH (b:=H.next) (o:=0) rfl<|ZU (b:=H.next) (o:=2) rfl ca.rd (show row 2 _ _=some [iv a.tl,iv a.th] from rfl) ?_
  obtain ⟨H12,fH12,kH12⟩:=QJ (kn:=kn) (lo:=H11.next) (H:=H11) (a:=a.tl) (b:=a.th) (Nat.le_refl _)
  refine YP (vs:=[.agg #[iv (a.tl),iv (a.th)]]) rfl rfl (Zf fH12) ?_
  have mH12:=kH12.1
  have hk:=hk.trans kH12
  have ca:=kH12.cl ca (by simp)
  have cb:=kH12.cl cb (by simp)
  have cr:=kH12.cl cr (by simp)
  have cw:=kH12.cl cw (by simp)
  have c8:=kH12.cl c8 (by simp)
  refine Va (a:=(cnx a i)) (b:=a.th) rfl rfl ⟨by omega,by omega⟩<|ZH (b:=L1.next) (o:=0) rfl<|XA (b:=L1.next) (o:=1) (v:=iv (cny b i)) rfl c8.rd rfl<|Zk rfl<|ZH (b:=H1.next) (o:=0) rfl<|ZU (b:=H1.next) (o:=2) rfl cb.rd (show row 2 _ _=some [iv b.tl,iv b.th] from rfl) ?_
  obtain ⟨H13,fH13,kH13⟩:=QJ (kn:=kn) (lo:=H12.next) (H:=H12) (a:=b.tl) (b:=b.th) (Nat.le_refl _)
  refine YP (vs:=[.agg #[iv (b.tl),iv (b.th)]]) rfl rfl (Zf fH13) ?_
  have mH13:=kH13.1
  have hk:=hk.trans kH13
  have ca:=kH13.cl ca (by simp)
  have cb:=kH13.cl cb (by simp)
  have cr:=kH13.cl cr (by simp)
  have cw:=kH13.cl cw (by simp)
  have c8:=kH13.cl c8 (by simp)
  refine Va (a:=(cny b i)) (b:=b.th) rfl rfl ⟨by omega,by omega⟩<|X3 (a:=(cnx a i) * a.th) (b:=(cny b i) * b.th) rfl rfl ⟨by omega,by omega⟩<|Zk rfl ?_
  refine Yo (by repeat' first | exact True.intro | exact (fun h=>h) | refine And.intro ?_ ?_ | (intro h;have h:(_:Nat)=_:=h;omega)) ?_
  refine Xu<|ZH (b:=H4.next) (o:=0) rfl<|XA (b:=H4.next) (o:=0) (v:=iv (mLo a b i)) rfl cw.rd rfl<|Zk rfl<|Zk rfl<|Zaj (a:=((cnx a i) * a.tl)+((cny b i) * b.tl)) (b:=(cnx a i)+(cny b i)) rfl rfl (by omega) (by omega) ⟨by omega,by omega⟩<|Zck (a:=(mLo a b i)) (b:=(((cnx a i) * a.tl)+((cny b i) * b.tl)) / ((cnx a i)+(cny b i))) rfl rfl<|ZH (b:=H4.next) (o:=0) rfl<|Zbb (b:=H4.next) (o:=0) rfl rfl cw (by omega) rfl rfl (by simp) ?_
  intro H14 kH14 nH14 sH14
  have mH14:=kH14.1
  have hk:=hk.new kH14 (fun b hb=>by simp at hb ⊢;omega)
  have ca:=kH14.cl ca (by first | (simp;done) | (simp;omega))
  have cb:=kH14.cl cb (by first | (simp;done) | (simp;omega))
  have cr:=kH14.cl cr (by first | (simp;done) | (simp;omega))
  have c8:=kH14.cl c8 (by first | (simp;done) | (simp;omega))
  have cw:Cl H14 H4.next [iv (min (mLo a b i) ((((cnx a i) * a.tl)+((cny b i) * b.tl)) / ((cnx a i)+(cny b i)))),iv (mHi a b i)]:=sH14
  refine Yo (by repeat' first | exact True.intro | exact (fun h=>h) | refine And.intro ?_ ?_ | (intro h;have h:(_:Nat)=_:=h;omega)) ?_
  first | refine YM ?_ | refine WN ?_ | refine V1 ?_ | (refine XS ?_;refine YM ?_)
  refine ZH (b:=H4.next) (o:=0) rfl<|XA (b:=H4.next) (o:=1) (v:=iv (mHi a b i)) rfl cw.rd rfl<|Zk rfl<|Zk rfl<|X3 (a:=((cnx a i) * a.th)+((cny b i) * b.th)) (b:=(cnx a i)+(cny b i)) rfl rfl ⟨by omega,by omega⟩<|Wx (a:=(((cnx a i) * a.th)+((cny b i) * b.th))+((cnx a i)+(cny b i))) (b:=1) rfl rfl ⟨by omega,by omega⟩<|Zk rfl<|Zaj (a:=((((cnx a i) * a.th)+((cny b i) * b.th))+((cnx a i)+(cny b i))) - 1) (b:=(cnx a i)+(cny b i)) rfl rfl (by omega) (by omega) ⟨by omega,by omega⟩<|Zck (a:=(mHi a b i)) (b:=(((((cnx a i) * a.th)+((cny b i) * b.th))+((cnx a i)+(cny b i))) - 1) / ((cnx a i)+(cny b i))) rfl rfl<|ZH (b:=H4.next) (o:=0) rfl<|Zbb (b:=H4.next) (o:=1) rfl rfl cw (by omega) rfl rfl (by simp) ?_
  intro H15 kH15 nH15 sH15
  have mH15:=kH15.1
  have hk:=hk.new kH15 (fun b hb=>by simp at hb ⊢;omega)
  have ca:=kH15.cl ca (by first | (simp;done) | (simp;omega))
  have cb:=kH15.cl cb (by first | (simp;done) | (simp;omega))
  have cr:=kH15.cl cr (by first | (simp;done) | (simp;omega))
  have c8:=kH15.cl c8 (by first | (simp;done) | (simp;omega))
  have cw:Cl H15 H4.next [iv (min (mLo a b i) ((((cnx a i) * a.tl)+((cny b i) * b.tl)) / ((cnx a i)+(cny b i)))),iv (max (mHi a b i) ((((((cnx a i) * a.th)+((cny b i) * b.th))+((cnx a i)+(cny b i))) - 1) / ((cnx a i)+(cny b i))))]:=sH15
  refine Yo (by repeat' first | exact True.intro | exact (fun h=>h) | refine And.intro ?_ ?_ | (intro h;have h:(_:Nat)=_:=h;omega)) ?_
  show Zo _ _ _ _ _ _ _ _
  refine Zt (a:=(i:Int)) (b:=1) rfl rfl ⟨by omega,by omega⟩<|Za rfl<|Zb ?_
  exact ⟨k - 1,i+1,by omega,⟨by omega,hk,by omega,ca,cb,cr,cw⟩,rfl,rfl,rfl,rfl,rfl,rfl,rfl,ivq (by omega),trivial⟩
 ·have q1:¬ ((i:Int) < 4):=of_decide_eq_false q1
  first | (refine ZC ?_;show wC _ _ _ _ _ _ _ _ _) | skip
  refine Zc<|ZP (b:=H4.next) (o:=0) rfl cw.rd (show row 2 _ _=some [iv (mLo a b i),iv (mHi a b i)] from rfl)<|Z6 (b:=H2.next) (o:=0) rfl rfl cr (by omega) rfl rfl (by simp) ?_
  intro H16 kH16 nH16 sH16
  have mH16:=kH16.1
  have hk:=hk.new kH16 (fun b hb=>by simp at hb ⊢;omega)
  have ca:=kH16.cl ca (by first | (simp;done) | (simp;omega))
  have cb:=kH16.cl cb (by first | (simp;done) | (simp;omega))
  have cw:=kH16.cl cw (by first | (simp;done) | (simp;omega))
  have cr:Cl H16 H2.next [iv (mLo a b i),iv (mHi a b i)]:=sH16
  refine Zb ?_
  obtain rfl:i=4:=by omega
  exact And.intro trivial (Exists.intro _ (And.intro (Uo rfl a31 Qi rfl cr) ⟨rfl,hk⟩))
set_option maxRecDepth 100000 in
set_option maxHeartbeats 1000000 in
theorem Zcv (h35:kn.b 35=none) {a b:Fw} (hlo:lo≤H.next):∃ H',FnX Try.prog kn lo 16 [.agg (Fw.f a).toArray,.agg (Fw.f b).toArray] H (.tuple #[.agg #[iv (mxT a b).1.1,iv (mxT a b).1.2],iv (mxT a b).2]) H'∧Zh H H' []:=by
 have key:=Zp (kn:=kn) (lo:=lo) (H:=H) (args:=[.agg (Fw.f a).toArray,.agg (Fw.f b).toArray]) (Q:=fun w H'=>w=(.tuple #[.agg #[iv (mxT a b).1.1,iv (mxT a b).1.2],iv (mxT a b).2])∧Zh H H' []) Try.func16 B16 N16 Z16 L16 (by simp) ?_
 ·obtain ⟨w,H',h,rfl,q⟩:=key;exact ⟨H',h,q⟩
 have hk:=Zh.refl H []
 refine Zc<|Yl (v:=.agg (Fw.f a).toArray) rfl ?_
 intro H1 kH1 nH1 c1
 have c1:Cl H1 H.next [iv a.wl,iv a.wh,iv a.tl,iv a.th]:=c1
 have mH1:=kH1.1
 have hk:=hk.trans kH1
 refine Yl (v:=.agg (Fw.f b).toArray) rfl ?_
 intro H2 kH2 nH2 c2
 have c2:Cl H2 H1.next [iv b.wl,iv b.wh,iv b.tl,iv b.th]:=c2
 have mH2:=kH2.1
 have hk:=hk.trans kH2
 have c1:=kH2.cl c1 (by simp)
 refine Yq ?_
 intro H3 kH3 nH3 c3
 have c3:Cl H3 H2.next [iv 0,iv 0]:=c3
 have mH3:=kH3.1
 have hk:=hk.trans kH3
 have c1:=kH3.cl c1 (by simp)
 have c2:=kH3.cl c2 (by simp)
 refine Za rfl<|Zb<|Zc<|ZP (b:=H.next) (o:=0) rfl c1.rd (show row 4 _ _=some [iv a.wl,iv a.wh,iv a.tl,iv a.th] from rfl)<|Zu rfl (ZaT (f:=a) (by omega)) ?_
 intro tH4 H4 hH4 kH4
 have mH4:=kH4.1
 have hk:=hk.trans kH4
 have c1:=kH4.cl c1 (by simp)
 have c2:=kH4.cl c2 (by simp)
 have c3:=kH4.cl c3 (by simp)
 cases tH4
 ·have hva:vF a=false:=hH4
  refine Zd (v:=.bool true) rfl rfl<|Za rfl<|Zg rfl<|Zg rfl<|Zg rfl<|Zd (v:=.bool true) rfl rfl<|Zb<|ZN<|Zc<|Zd (v:=.agg #[iv 0,iv 0]) rfl (by kernel_rfl)<|Z6 (b:=H2.next) (o:=0) rfl rfl c3 (by omega) rfl rfl (by simp) ?_
  intro H5 kH5 nH5 sH5
  have mH5:=kH5.1
  have hk:=hk.new kH5 (fun b hb=>by simp at hb ⊢;omega)
  have c1:=kH5.cl c1 (by first | (simp;done) | (simp;omega))
  have c2:=kH5.cl c2 (by first | (simp;done) | (simp;omega))
  have c3:Cl H5 H2.next [iv 0,iv 0]:=sH5
  refine Za rfl<|Zb ?_
  exact And.intro trivial (Exists.intro _ (And.intro (Jz rfl a31 Qi rfl c3 rfl) ⟨JC (Zca (by first | exact .inl (by assumption) | exact .inr (by assumption))),hk⟩))
 ·have hva:vF a=true:=hH4
  refine Zd (v:=.bool false) rfl rfl<|Za rfl ?_
  refine Zm rfl (ZP (b:=H1.next) (o:=0) rfl c2.rd (show row 4 _ _=some [iv b.wl,iv b.wh,iv b.tl,iv b.th] from rfl) ?_)
  refine Zm rfl (Zu rfl (ZaT (f:=b) (by omega)) ?_)
  intro tH6 H6 hH6 kH6
  have mH6:=kH6.1
  have hk:=hk.trans kH6
  have c1:=kH6.cl c1 (by simp)
  have c2:=kH6.cl c2 (by simp)
  have c3:=kH6.cl c3 (by simp)
  cases tH6
  ·have hvb:vF b=false:=hH6
   refine Zm rfl (Zd (v:=.bool true) rfl rfl ?_)
   refine Zd (v:=.bool true) rfl rfl<|Zb<|ZN<|Zc<|Zd (v:=.agg #[iv 0,iv 0]) rfl (by kernel_rfl)<|Z6 (b:=H2.next) (o:=0) rfl rfl c3 (by omega) rfl rfl (by simp) ?_
   intro H7 kH7 nH7 sH7
   have mH7:=kH7.1
   have hk:=hk.new kH7 (fun b hb=>by simp at hb ⊢;omega)
   have c1:=kH7.cl c1 (by first | (simp;done) | (simp;omega))
   have c2:=kH7.cl c2 (by first | (simp;done) | (simp;omega))
   have c3:Cl H7 H2.next [iv 0,iv 0]:=sH7
   refine Za rfl<|Zb ?_
   exact And.intro trivial (Exists.intro _ (And.intro (Jz rfl a31 Qi rfl c3 rfl) ⟨JC (Zca (by first | exact .inl (by assumption) | exact .inr (by assumption))),hk⟩))
  ·have hvb:vF b=true:=hH6
   refine Zm rfl (Zd (v:=.bool false) rfl rfl ?_)
   refine Zd (v:=.bool false) rfl rfl<|Zb<|ZK ?_
   first | refine Zj ?_ | skip
   refine Zc<|Zn (b:=H.next) (o:=0) rfl<|Zn (b:=H.next) (o:=0) rfl<|Zy (b:=H.next) (o:=0) (v:=iv a.wl) rfl c1.rd rfl<|QL (a:=a.wl) (b:=0) rfl rfl ?_
   intro t1 g1;cases t1
   ·have g1:¬ (a.wl=0):=by simpa using g1
    refine Za rfl<|Zg rfl<|Zg rfl<|Zg rfl<|Zg rfl<|Zd (v:=.bool false) rfl rfl<|Zb<|ZK ?_
    first | refine Zj ?_ | skip
    refine Zc<|ZP (b:=H.next) (o:=0) rfl c1.rd (show row 4 _ _=some [iv a.wl,iv a.wh,iv a.tl,iv a.th] from rfl)<|ZP (b:=H1.next) (o:=0) rfl c2.rd (show row 4 _ _=some [iv b.wl,iv b.wh,iv b.tl,iv b.th] from rfl) ?_
    obtain ⟨H8,fH8,kH8⟩:=z9 (kn:=kn) (lo:=lo) (H:=H6) h35 hva hvb (by omega) (by omega)
    refine Zi (vs:=[.agg (Fw.f a).toArray,.agg (Fw.f b).toArray]) rfl (Zf fH8) ?_
    have mH8:=kH8.1
    have hk:=hk.trans kH8
    have c1:=kH8.cl c1 (by simp)
    have c2:=kH8.cl c2 (by simp)
    have c3:=kH8.cl c3 (by simp)
    refine Z6 (b:=H2.next) (o:=0) rfl rfl c3 (by omega) rfl rfl (by simp) ?_
    intro H9 kH9 nH9 sH9
    have mH9:=kH9.1
    have hk:=hk.new kH9 (fun b hb=>by simp at hb ⊢;omega)
    have c1:=kH9.cl c1 (by first | (simp;done) | (simp;omega))
    have c2:=kH9.cl c2 (by first | (simp;done) | (simp;omega))
    have c3:Cl H9 H2.next [iv (mLo a b 4),iv (mHi a b 4)]:=sH9
    refine Za rfl<|Zb ?_
    exact And.intro trivial (Exists.intro _ (And.intro (Jz rfl a31 Qi rfl c3 rfl) ⟨JC (ZbY hva hvb (by omega)),hk⟩))
   ·have g1:a.wl=0:=by simpa using g1
    refine Za rfl ?_
    refine Zm rfl (Zn (b:=H1.next) (o:=0) rfl ?_)
    refine Zm rfl (Zn (b:=H1.next) (o:=0) rfl ?_)
    refine Zm rfl (Zy (b:=H1.next) (o:=0) (v:=iv b.wl) rfl c2.rd rfl ?_)
    refine Zm rfl (QL (a:=b.wl) (b:=0) rfl rfl ?_)
    intro t2 g2;cases t2
    ·have g2:¬ (b.wl=0):=by simpa using g2
     refine Zd (v:=.bool false) rfl rfl<|Zb<|ZK ?_
     first | refine Zj ?_ | skip
     refine Zc<|ZP (b:=H.next) (o:=0) rfl c1.rd (show row 4 _ _=some [iv a.wl,iv a.wh,iv a.tl,iv a.th] from rfl)<|ZP (b:=H1.next) (o:=0) rfl c2.rd (show row 4 _ _=some [iv b.wl,iv b.wh,iv b.tl,iv b.th] from rfl) ?_
     obtain ⟨H10,fH10,kH10⟩:=z9 (kn:=kn) (lo:=lo) (H:=H6) h35 hva hvb (by omega) (by omega)
     refine Zi (vs:=[.agg (Fw.f a).toArray,.agg (Fw.f b).toArray]) rfl (Zf fH10) ?_
     have mH10:=kH10.1
     have hk:=hk.trans kH10
     have c1:=kH10.cl c1 (by simp)
     have c2:=kH10.cl c2 (by simp)
     have c3:=kH10.cl c3 (by simp)
     refine Z6 (b:=H2.next) (o:=0) rfl rfl c3 (by omega) rfl rfl (by simp) ?_
     intro H11 kH11 nH11 sH11
     have mH11:=kH11.1
     have hk:=hk.new kH11 (fun b hb=>by simp at hb ⊢;omega)
     have c1:=kH11.cl c1 (by first | (simp;done) | (simp;omega))
     have c2:=kH11.cl c2 (by first | (simp;done) | (simp;omega))
     have c3:Cl H11 H2.next [iv (mLo a b 4),iv (mHi a b 4)]:=sH11
     refine Za rfl<|Zb ?_
     exact And.intro trivial (Exists.intro _ (And.intro (Jz rfl a31 Qi rfl c3 rfl) ⟨JC (ZbY hva hvb (by omega)),hk⟩))
    ·have g2:b.wl=0:=by simpa using g2
     refine Zd (v:=.bool true) rfl rfl<|Zb<|ZN<|Zc<|Zd (v:=.agg #[iv 0,iv 0]) rfl (by kernel_rfl)<|Z6 (b:=H2.next) (o:=0) rfl rfl c3 (by omega) rfl rfl (by simp) ?_
     intro H12 kH12 nH12 sH12
     have mH12:=kH12.1
     have hk:=hk.new kH12 (fun b hb=>by simp at hb ⊢;omega)
     have c1:=kH12.cl c1 (by first | (simp;done) | (simp;omega))
     have c2:=kH12.cl c2 (by first | (simp;done) | (simp;omega))
     have c3:Cl H12 H2.next [iv 0,iv 0]:=sH12
     refine Za rfl<|Zb ?_
     exact And.intro trivial (Exists.intro _ (And.intro (Jz rfl a31 Qi rfl c3 rfl) ⟨JC (ZcL hva hvb (by omega)),hk⟩))
set_option maxRecDepth 100000 in
set_option maxHeartbeats 1000000 in
theorem ZaM {a:Fw} {l h limit:Int} (hva:vF a=true) (hsp:0≤l∧l≤h∧h≤40000) (hlim:0≤limit∧limit≤40000) (hth:¬ limit < a.th) (hlo:lo≤H.next):∃ H',FnX Try.prog kn lo 45 [.agg (Fw.f a).toArray,.agg #[iv l,iv h],iv limit] H (iv (moV a h limit)) H'∧Zh H H' []:=by
 have key:=Zp (kn:=kn) (lo:=lo) (H:=H) (args:=[.agg (Fw.f a).toArray,.agg #[iv l,iv h],iv limit]) (Q:=fun w H'=>w=(iv (moV a h limit))∧Zh H H' []) Try.func45 B45 N45 Z45 L45 (by simp) ?_
 ·obtain ⟨w,H',h,rfl,q⟩:=key;exact ⟨H',h,q⟩
 have hk:=Zh.refl H []
 obtain ⟨⟨hw1,hw2,hw3⟩,ht1,ht2,ht3⟩:=ZaS hva
 have hm:=XM (x:=a.wl) (y:=limit - a.th) (X:=1073741824) (Y:=40000) (by omega) (by omega) (by omega) (by omega)
 refine Zc<|Yl (v:=.agg (Fw.f a).toArray) rfl ?_
 intro H1 kH1 nH1 c1
 have c1:Cl H1 H.next [iv a.wl,iv a.wh,iv a.tl,iv a.th]:=c1
 have mH1:=kH1.1
 have hk:=hk.trans kH1
 refine Yl (v:=.agg #[iv l,iv h]) rfl ?_
 intro H2 kH2 nH2 c2
 have c2:Cl H2 H1.next [iv l,iv h]:=c2
 have mH2:=kH2.1
 have hk:=hk.trans kH2
 have c1:=kH2.cl c1 (by simp)
 refine Za rfl<|Zb<|Zc<|Zn (b:=H1.next) (o:=0) rfl<|Zy (b:=H1.next) (o:=1) (v:=iv h) rfl c2.rd rfl<|Za rfl<|Wc (a:=h) (b:=limit) rfl rfl<|Zb ?_
 refine And.intro (fun q1=>?_) (fun q1=>?_)
 ·have q1:h≤limit:=of_decide_eq_true q1
  refine Zc<|Za rfl<|Zb ?_
  exact And.intro trivial (Exists.intro _ (And.intro rfl ⟨congrArg iv (by unfold moV;rw [if_pos (by omega)];try rfl),hk⟩))
 ·have q1:¬ (h≤limit):=of_decide_eq_false q1
  first | refine Zj ?_ | skip
  refine Zc<|Zn (b:=H.next) (o:=0) rfl<|Zn (b:=H.next) (o:=0) rfl<|Zy (b:=H.next) (o:=0) (v:=iv a.wl) rfl c1.rd rfl<|Za rfl<|Zn (b:=H.next) (o:=0) rfl<|Zn (b:=H.next) (o:=2) rfl<|Zy (b:=H.next) (o:=3) (v:=iv a.th) rfl c1.rd rfl<|YC (a:=limit) (b:=a.th) rfl rfl ⟨by omega,by omega⟩<|Q2 (a:=a.wl) (b:=limit - a.th) rfl rfl ⟨by omega,by omega⟩<|Za rfl<|Zb<|Zc<|Za rfl<|Zn (b:=H1.next) (o:=0) rfl<|Zy (b:=H1.next) (o:=1) (v:=iv h) rfl c2.rd rfl<|Za rfl<|YC (a:=h) (b:=limit) rfl rfl ⟨by omega,by omega⟩<|ZcP (a:=a.wl * (limit - a.th)) (b:=h - limit) rfl rfl (by omega) (by omega) ⟨by omega,by omega⟩<|qC (a:=1073741824) (b:=(a.wl * (limit - a.th)) / (h - limit)) rfl rfl<|Za rfl<|Zb ?_
  exact And.intro trivial (Exists.intro _ (And.intro rfl ⟨congrArg iv (by unfold moV;rw [if_neg (by omega)];try rfl),hk⟩))
set_option maxRecDepth 100000 in
set_option maxHeartbeats 1000000 in
theorem ZbK {a:Fw} {l h limit:Int} (hlo:lo≤H.next):∃ H',FnX Try.prog kn lo 18 [.agg (Fw.f a).toArray,.agg #[iv l,iv h],iv limit] H (.tuple #[iv (moT a l h limit).1,iv (moT a l h limit).2]) H'∧Zh H H' []:=by
 have key:=Zp (kn:=kn) (lo:=lo) (H:=H) (args:=[.agg (Fw.f a).toArray,.agg #[iv l,iv h],iv limit]) (Q:=fun w H'=>w=(.tuple #[iv (moT a l h limit).1,iv (moT a l h limit).2])∧Zh H H' []) Try.func18 B18 N18 Z18 L18 (by simp) ?_
 ·obtain ⟨w,H',h,rfl,q⟩:=key;exact ⟨H',h,q⟩
 have hk:=Zh.refl H []
 refine Zc<|Yl (v:=.agg (Fw.f a).toArray) rfl ?_
 intro H1 kH1 nH1 c1
 have c1:Cl H1 H.next [iv a.wl,iv a.wh,iv a.tl,iv a.th]:=c1
 have mH1:=kH1.1
 have hk:=hk.trans kH1
 refine Yl (v:=.agg #[iv l,iv h]) rfl ?_
 intro H2 kH2 nH2 c2
 have c2:Cl H2 H1.next [iv l,iv h]:=c2
 have mH2:=kH2.1
 have hk:=hk.trans kH2
 have c1:=kH2.cl c1 (by simp)
 refine Za rfl<|Za rfl<|Zb<|Zc<|ZP (b:=H.next) (o:=0) rfl c1.rd (show row 4 _ _=some [iv a.wl,iv a.wh,iv a.tl,iv a.th] from rfl)<|Zu rfl (ZaT (f:=a) (by omega)) ?_
 intro tH3 H3 hH3 kH3
 have mH3:=kH3.1
 have hk:=hk.trans kH3
 have c1:=kH3.cl c1 (by simp)
 have c2:=kH3.cl c2 (by simp)
 cases tH3
 ·have hva:vF a=false:=hH3
  refine Zd (v:=.bool true) rfl rfl<|Za rfl<|Zg rfl<|Zg rfl<|Zg rfl<|Zd (v:=.bool true) rfl rfl<|Zb<|ZN<|Zc<|Za rfl<|Za rfl<|Zb ?_
  exact And.intro trivial (Exists.intro _ (And.intro rfl ⟨QM (Zcl (by first | exact .inl (by assumption) | exact .inr (by assumption))),hk⟩))
 ·have hva:vF a=true:=hH3
  refine Zd (v:=.bool false) rfl rfl<|Za rfl ?_
  refine Zm rfl (ZP (b:=H1.next) (o:=0) rfl c2.rd (show row 2 _ _=some [iv l,iv h] from rfl) ?_)
  refine Zm rfl (Zu rfl (X8 (by omega)) ?_)
  intro tH4 H4 hH4 kH4
  have mH4:=kH4.1
  have hk:=hk.trans kH4
  have c1:=kH4.cl c1 (by simp)
  have c2:=kH4.cl c2 (by simp)
  cases tH4
  ·have hvs:spB l h 40000=false:=hH4
   have hvu:=Vc hvs
   refine Zm rfl (Zd (v:=.bool true) rfl rfl ?_)
   refine Zd (v:=.bool true) rfl rfl<|Zb<|ZN<|Zc<|Za rfl<|Za rfl<|Zb ?_
   exact And.intro trivial (Exists.intro _ (And.intro rfl ⟨QM (Zcl (by first | exact .inl (by assumption) | exact .inr (by assumption))),hk⟩))
  ·have hvs:spB l h 40000=true:=hH4
   have hvu:=Xm hvs
   refine Zm rfl (Zd (v:=.bool false) rfl rfl ?_)
   refine Zd (v:=.bool false) rfl rfl<|Zb<|ZK ?_
   first | refine Zj ?_ | skip
   refine Zc<|Za rfl<|Zu rfl (XG) ?_
   intro tH5 H5 hH5 kH5
   have mH5:=kH5.1
   have hk:=hk.trans kH5
   have c1:=kH5.cl c1 (by simp)
   have c2:=kH5.cl c2 (by simp)
   cases tH5
   ·have hvl:inB limit 0 40000=false:=hH5
    have hvm:=Xh hvl
    refine Zd (v:=.bool true) rfl rfl<|Zb<|ZN<|Zc<|Za rfl<|Za rfl<|Zb ?_
    exact And.intro trivial (Exists.intro _ (And.intro rfl ⟨QM (Zea hva hvs hvl),hk⟩))
   ·have hvl:inB limit 0 40000=true:=hH5
    have hvm:=Y0 hvl
    refine Zd (v:=.bool false) rfl rfl<|Zb<|ZK ?_
    first | refine Zj ?_ | skip
    refine Zc<|Zn (b:=H.next) (o:=0) rfl<|Zn (b:=H.next) (o:=2) rfl<|Zy (b:=H.next) (o:=3) (v:=iv a.th) rfl c1.rd rfl<|Za rfl<|YW (a:=a.th) (b:=limit) rfl rfl<|Zb ?_
    refine And.intro (fun q1=>?_) (fun q1=>?_)
    ·have q1:a.th > limit:=of_decide_eq_true q1
     refine Zc<|Za rfl<|Za rfl<|Zb ?_
     exact And.intro trivial (Exists.intro _ (And.intro rfl ⟨QM (ZcH hva hvs hvl (by omega)),hk⟩))
    ·have q1:¬ (a.th > limit):=of_decide_eq_false q1
     first | refine Zj ?_ | skip
     refine Zc<|ZP (b:=H.next) (o:=0) rfl c1.rd (show row 4 _ _=some [iv a.wl,iv a.wh,iv a.tl,iv a.th] from rfl)<|ZP (b:=H1.next) (o:=0) rfl c2.rd (show row 2 _ _=some [iv l,iv h] from rfl)<|Za rfl ?_
     obtain ⟨H6,fH6,kH6⟩:=ZaM (kn:=kn) (lo:=lo) (H:=H5) (a:=a) (l:=l) (h:=h) (limit:=limit) hva hvu hvm (by omega) (by omega)
     refine Zi (vs:=[.agg (Fw.f a).toArray,.agg #[iv l,iv h],iv limit]) rfl (Zf fH6) ?_
     have mH6:=kH6.1
     have hk:=hk.trans kH6
     have c1:=kH6.cl c1 (by simp)
     have c2:=kH6.cl c2 (by simp)
     refine Za rfl<|Za rfl<|Zb ?_
     exact And.intro trivial (Exists.intro _ (And.intro rfl ⟨QM (Zdo hva hvs hvl (by omega)),hk⟩))
set_option maxRecDepth 100000 in
set_option maxHeartbeats 1000000 in
theorem Zel {x:Ph} (hlo:lo≤H.next):∃ H',FnX Try.prog kn lo 47 [.agg (Ph.f x).toArray] H (.bool (vP x)) H'∧Zh H H' []:=by
 have key:=Zp (kn:=kn) (lo:=lo) (H:=H) (args:=[.agg (Ph.f x).toArray]) (Q:=fun w H'=>w=(.bool (vP x))∧Zh H H' []) Try.func47 B47 N47 Z47 L47 (by simp) ?_
 ·obtain ⟨w,H',h,rfl,q⟩:=key;exact ⟨H',h,q⟩
 have hk:=Zh.refl H []
 refine Zc<|Yl (v:=.agg (Ph.f x).toArray) rfl ?_
 intro H1 kH1 nH1 c1
 have c1:Cl H1 H.next [iv x.bl,iv x.bh,iv x.il,iv x.ih,iv x.ol,iv x.oh,iv x.rl,iv x.rh,iv x.cl,iv x.ch]:=c1
 have mH1:=kH1.1
 have hk:=hk.trans kH1
 refine Za rfl<|Zb<|Zc<|Zn (b:=H.next) (o:=0) rfl<|ZP (b:=H.next) (o:=0) rfl c1.rd (show row 2 _ _=some [iv x.bl,iv x.bh] from rfl)<|Zn (b:=H.next) (o:=0) rfl<|ZP (b:=H.next) (o:=2) rfl c1.rd (show row 2 _ _=some [iv x.il,iv x.ih] from rfl)<|Zn (b:=H.next) (o:=0) rfl<|ZP (b:=H.next) (o:=4) rfl c1.rd (show row 2 _ _=some [iv x.ol,iv x.oh] from rfl)<|Zd (v:=.agg #[iv x.bl,iv x.bh,iv x.il,iv x.ih,iv x.ol,iv x.oh]) rfl (by kernel_rfl)<|Za rfl<|Zb ?_
 refine ZA (fn:=Try.f47) ZdH N47 Zdh (fun i:Nat=>[(1,pt H.next),(11,.agg #[iv x.bl,iv x.bh,iv x.il,iv x.ih,iv x.ol,iv x.oh]),(12,iv (i:Int))])
  (fun k i H'=>i+k=3∧Zh H H' []∧H.next < H'.next∧Cl H' H.next [iv x.bl,iv x.bh,iv x.il,iv x.ih,iv x.ol,iv x.oh,iv x.rl,iv x.rh,iv x.cl,iv x.ch]∧∀ j,j < i→spB (phl x j) (phh x j) 1099511627776=true) 3 0 ⟨by omega,hk,by omega,c1,fun j h=>absurd h (Nat.not_lt_zero j)⟩ ⟨rfl,rfl,rfl,trivial⟩ ?_
 rintro k i L1 ⟨hik,hk,hnx,cx,hall⟩
 have mk:=hk.1
 refine Zc<|ZB (a:=(i:Int)) (b:=3) rfl rfl<|Zb ?_
 refine And.intro (fun q1=>?_) (fun q1=>?_)
 ·have q1:(i:Int) < 3:=of_decide_eq_true q1
  have hi:i < 3:=by omega
  first | refine Zj ?_ | skip
  refine Zc<|Zd (v:=.agg #[iv (phl x i),iv (phh x i)]) rfl (Zax rfl rfl hi)<|Yq ?_
  intro H2 kH2 nH2 c2
  have c2:Cl H2 L1.next [iv 0,iv 0]:=c2
  have mH2:=kH2.1
  have hk:=hk.trans kH2
  have cx:=kH2.cl cx (by simp)
  refine Z6 (b:=L1.next) (o:=0) rfl rfl c2 (by omega) rfl rfl (by simp) ?_
  intro H3 kH3 nH3 sH3
  have mH3:=kH3.1
  have hk:=hk.new kH3 (fun b hb=>by simp at hb ⊢;omega)
  have cx:=kH3.cl cx (by first | (simp;done) | (simp;omega))
  have c2:Cl H3 L1.next [iv (phl x i),iv (phh x i)]:=sH3
  refine Zb<|Zc<|ZP (b:=L1.next) (o:=0) rfl c2.rd (show row 2 _ _=some [iv (phl x i),iv (phh x i)] from rfl)<|Zu rfl (X8 (by omega)) ?_
  intro tH4 H4 hH4 kH4
  have mH4:=kH4.1
  have hk:=hk.trans kH4
  have cx:=kH4.cl cx (by simp)
  have c2:=kH4.cl c2 (by simp)
  cases tH4
  ·have thH4:spB (phl x i) (phh x i) 1099511627776=false:=hH4
   have uhH4:=Vc thH4
   refine Zd (v:=.bool true) rfl rfl<|Zb<|ZN<|Zc<|Za rfl<|Zb ?_
   have hvf:vP x=false:=by
    cases hq:vP x with
    | false=>rfl
    | true=>
     exfalso
     simp only [vP,Bool.and_eq_true] at hq
     obtain ⟨⟨⟨⟨q0,q1⟩,q2⟩,_⟩,_⟩:=hq
     rcases i with _ | _ | _ | i
     ·simp only [phl,phh,Nat.zero_add] at *;simp_all
     ·simp only [phl,phh,Nat.zero_add] at *;simp_all
     ·simp only [phl,phh,Nat.zero_add] at *;simp_all
     ·omega
   exact And.intro trivial (Exists.intro _ (And.intro rfl ⟨congrArg Value.bool hvf.symm,hk⟩))
  ·have thH4:spB (phl x i) (phh x i) 1099511627776=true:=hH4
   have uhH4:=Xm thH4
   refine Zd (v:=.bool false) rfl rfl<|Zb<|ZK ?_
   first | refine Zj ?_ | skip
   show Zo _ _ _ _ _ _ _ _
   refine Zt (a:=(i:Int)) (b:=1) rfl rfl ⟨by omega,by omega⟩<|Za rfl<|Zb ?_
   exact ⟨k - 1,i+1,by omega,⟨by omega,hk,by omega,cx,fun j hj=>by rcases Nat.lt_or_ge j i with c | c;exact hall j c;rw [show j=i by omega];assumption⟩,rfl,rfl,ivq (by omega),trivial⟩
 ·have q1:¬ ((i:Int) < 3):=of_decide_eq_false q1
  have p0:=hall 0 (by omega);have p1:=hall 1 (by omega);have p2:=hall 2 (by omega);simp only [phl,phh] at p0 p1 p2
  first | (refine ZC ?_;show wC _ _ _ _ _ _ _ _ _) | skip
  refine Zc<|Zn (b:=H.next) (o:=0) rfl<|ZP (b:=H.next) (o:=6) rfl cx.rd (show row 2 _ _=some [iv x.rl,iv x.rh] from rfl)<|Zu rfl (X8 (by omega)) ?_
  intro tH5 H5 hH5 kH5
  have mH5:=kH5.1
  have hk:=hk.trans kH5
  have cx:=kH5.cl cx (by simp)
  cases tH5
  ·have thH5:spB x.rl x.rh 1073741824=false:=hH5
   have uhH5:=Vc thH5
   refine Za rfl<|Zg rfl<|Zg rfl<|Zg rfl<|Zd (v:=.bool false) rfl rfl<|Za rfl<|Zb ?_
   exact And.intro trivial (Exists.intro _ (And.intro rfl ⟨congrArg Value.bool (show false=vP x from (by symm;simp only [vP, *];try rfl)),hk⟩))
  ·have thH5:spB x.rl x.rh 1073741824=true:=hH5
   have uhH5:=Xm thH5
   refine Za rfl ?_
   refine Zm rfl (Zn (b:=H.next) (o:=0) rfl ?_)
   refine Zm rfl (ZP (b:=H.next) (o:=8) rfl cx.rd (show row 2 _ _=some [iv x.cl,iv x.ch] from rfl) ?_)
   refine Zm rfl (Zu rfl (X8 (by omega)) ?_)
   intro tH6 H6 hH6 kH6
   have mH6:=kH6.1
   have hk:=hk.trans kH6
   have cx:=kH6.cl cx (by simp)
   cases tH6
   ·have thH6:spB x.cl x.ch 1000=false:=hH6
    have uhH6:=Vc thH6
    refine Zd (v:=.bool false) rfl rfl<|Za rfl<|Zb ?_
    exact And.intro trivial (Exists.intro _ (And.intro rfl ⟨congrArg Value.bool (show false=vP x from (by symm;simp only [vP, *];try rfl)),hk⟩))
   ·have thH6:spB x.cl x.ch 1000=true:=hH6
    have uhH6:=Xm thH6
    refine Zd (v:=.bool true) rfl rfl<|Za rfl<|Zb ?_
    exact And.intro trivial (Exists.intro _ (And.intro rfl ⟨congrArg Value.bool (show true=vP x from (by symm;simp only [vP, *];try rfl)),hk⟩))
set_option maxRecDepth 100000 in
set_option maxHeartbeats 1000000 in
theorem yf {fid:Nat} {g:Int→Int→Int} (htk:Tk kn fid g) {x:Ph} {xb:Nat} (hv:vP x=true) (cx:Cl H xb [iv x.bl,iv x.bh,iv x.il,iv x.ih,iv x.ol,iv x.oh,iv x.rl,iv x.rh,iv x.cl,iv x.ch]) (hlo:lo≤H.next):∃ H',FnX Try.prog kn lo 66 [.func (.func fid) #[] #[],pt xb] H (iv (g x.rl x.rh * g x.cl x.ch)) H'∧Zh H H' []:=by
 have key:=Zp (kn:=kn) (lo:=lo) (H:=H) (args:=[.func (.func fid) #[] #[],pt xb]) (Q:=fun w H'=>w=(iv (g x.rl x.rh * g x.cl x.ch))∧Zh H H' []) Try.func66 B66 N66 Z66 L66 (by simp) ?_
 ·obtain ⟨w,H',h,rfl,q⟩:=key;exact ⟨H',h,q⟩
 have hk:=Zh.refl H []
 obtain ⟨_,_,_,⟨hr1,hr2,hr3⟩,hc1,hc2,hc3⟩:=Zbt hv
 have hg1:=htk.bd x.rl x.rh hr2
 have hg2:=htk.bd x.cl x.ch hc2
 have hm:=XM (x:=g x.rl x.rh) (y:=g x.cl x.ch) (X:=1073741824) (Y:=1000) (by omega) (by omega) (by omega) (by omega)
 refine Zc<|Za rfl<|Zb<|Xu<|Zk rfl<|ZH (b:=xb) (o:=0) rfl<|ZU (b:=xb) (o:=6) rfl cx.rd (show row 2 _ _=some [iv x.rl,iv x.rh] from rfl) ?_
 obtain ⟨H1,fH1,kH1⟩:=htk.ok H.next H (x.rl) (x.rh) (Nat.le_refl _)
 refine YP (vs:=[.agg #[iv (x.rl),iv (x.rh)]]) rfl rfl (Zf fH1 htk.sp) ?_
 have mH1:=kH1.1
 have hk:=hk.trans kH1
 have cx:=kH1.cl cx (by simp)
 refine Zk rfl<|ZH (b:=xb) (o:=0) rfl<|ZU (b:=xb) (o:=8) rfl cx.rd (show row 2 _ _=some [iv x.cl,iv x.ch] from rfl) ?_
 obtain ⟨H2,fH2,kH2⟩:=htk.ok lo H1 (x.cl) (x.ch) (by omega)
 refine Wh (vs:=[.agg #[iv (x.cl),iv (x.ch)]]) rfl (Zf fH2 htk.sp) ?_
 have mH2:=kH2.1
 have hk:=hk.trans kH2
 have cx:=kH2.cl cx (by simp)
 refine Va (a:=(g x.rl x.rh)) (b:=(g x.cl x.ch)) rfl rfl ⟨by omega,by omega⟩<|Zk rfl ?_
 refine Yo (by repeat' first | exact True.intro | exact (fun h=>h) | refine And.intro ?_ ?_ | (intro h;have h:(_:Nat)=_:=h;omega)) ?_
 exact And.intro trivial (Exists.intro _ (And.intro rfl ⟨rfl,hk⟩))
set_option maxRecDepth 100000 in
set_option maxHeartbeats 1000000 in
theorem Jn {fid fid2:Nat} {g g2:Int→Int→Int} (htk:Tk kn fid g) (htk2:Tk kn fid2 g2) {x:Ph} {xb bb:Nat} {r1 r2:Int} (hv:vP x=true) (hr:0≤r1∧r1≤r2∧r2≤1073741824000) (cx:Cl H xb [iv x.bl,iv x.bh,iv x.il,iv x.ih,iv x.ol,iv x.oh,iv x.rl,iv x.rh,iv x.cl,iv x.ch]) (cb:Cl H bb [iv r1,iv r2]) (hlo:lo≤H.next):∃ H',FnX Try.prog kn lo 67 [.func (.func fid) #[] #[],.func (.func fid2) #[] #[],pt xb,pt bb] H (iv (g x.bl x.bh+g x.il x.ih - g2 x.ol x.oh - g2 r1 r2)) H'∧Zh H H' []:=by
 have key:=Zp (kn:=kn) (lo:=lo) (H:=H) (args:=[.func (.func fid) #[] #[],.func (.func fid2) #[] #[],pt xb,pt bb]) (Q:=fun w H'=>w=(iv (g x.bl x.bh+g x.il x.ih - g2 x.ol x.oh - g2 r1 r2))∧Zh H H' []) Try.func67 B67 N67 Z67 L67 (by simp) ?_
 ·obtain ⟨w,H',h,rfl,q⟩:=key;exact ⟨H',h,q⟩
 have hk:=Zh.refl H []
 obtain ⟨⟨hb1,hb2,hb3⟩,⟨hi1,hi2,hi3⟩,⟨ho1,ho2,ho3⟩,_⟩:=Zbt hv
 have hg1:=htk.bd x.bl x.bh hb2
 have hg2:=htk.bd x.il x.ih hi2
 have hg3:=htk2.bd x.ol x.oh ho2
 have hg4:=htk2.bd r1 r2 hr.2.1
 refine Zc<|Za rfl<|Zb<|Xu<|Zk rfl<|ZH (b:=xb) (o:=0) rfl<|ZU (b:=xb) (o:=0) rfl cx.rd (show row 2 _ _=some [iv x.bl,iv x.bh] from rfl) ?_
 obtain ⟨H1,fH1,kH1⟩:=htk.ok H.next H (x.bl) (x.bh) (Nat.le_refl _)
 refine YP (vs:=[.agg #[iv (x.bl),iv (x.bh)]]) rfl rfl (Zf fH1 htk.sp) ?_
 have mH1:=kH1.1
 have hk:=hk.trans kH1
 have cx:=kH1.cl cx (by simp)
 have cb:=kH1.cl cb (by simp)
 refine Zk rfl<|ZH (b:=xb) (o:=0) rfl<|ZU (b:=xb) (o:=2) rfl cx.rd (show row 2 _ _=some [iv x.il,iv x.ih] from rfl) ?_
 obtain ⟨H2,fH2,kH2⟩:=htk.ok H1.next H1 (x.il) (x.ih) (Nat.le_refl _)
 refine YP (vs:=[.agg #[iv (x.il),iv (x.ih)]]) rfl rfl (Zf fH2 htk.sp) ?_
 have mH2:=kH2.1
 have hk:=hk.trans kH2
 have cx:=kH2.cl cx (by simp)
 have cb:=kH2.cl cb (by simp)
 refine X3 (a:=(g x.bl x.bh)) (b:=(g x.il x.ih)) rfl rfl ⟨by omega,by omega⟩<|Zk rfl<|ZH (b:=xb) (o:=0) rfl<|ZU (b:=xb) (o:=4) rfl cx.rd (show row 2 _ _=some [iv x.ol,iv x.oh] from rfl) ?_
 obtain ⟨H3,fH3,kH3⟩:=htk2.ok H2.next H2 (x.ol) (x.oh) (Nat.le_refl _)
 refine YP (vs:=[.agg #[iv (x.ol),iv (x.oh)]]) rfl rfl (Zf fH3 htk2.sp) ?_
 have mH3:=kH3.1
 have hk:=hk.trans kH3
 have cx:=kH3.cl cx (by simp)
 have cb:=kH3.cl cb (by simp)
 refine Wx (a:=(g x.bl x.bh)+(g x.il x.ih)) (b:=(g2 x.ol x.oh)) rfl rfl ⟨by omega,by omega⟩<|Zk rfl<|ZU (b:=bb) (o:=0) rfl cb.rd (show row 2 _ _=some [iv r1,iv r2] from rfl) ?_
 obtain ⟨H4,fH4,kH4⟩:=htk2.ok lo H3 (r1) (r2) (by omega)
 refine Wh (vs:=[.agg #[iv (r1),iv (r2)]]) rfl (Zf fH4 htk2.sp) ?_
 have mH4:=kH4.1
 have hk:=hk.trans kH4
 have cx:=kH4.cl cx (by simp)
 have cb:=kH4.cl cb (by simp)
 refine Wx (a:=((g x.bl x.bh)+(g x.il x.ih)) - (g2 x.ol x.oh)) (b:=(g2 r1 r2)) rfl rfl ⟨by omega,by omega⟩<|Zk rfl ?_
 refine Yo (by repeat' first | exact True.intro | exact (fun h=>h) | refine And.intro ?_ ?_ | (intro h;have h:(_:Nat)=_:=h;omega)) ?_
 exact And.intro trivial (Exists.intro _ (And.intro rfl ⟨rfl,hk⟩))
set_option maxRecDepth 100000 in
set_option maxHeartbeats 1000000 in
theorem KN (h35:kn.b 35=none) {x:Ph} (hv:vP x=true) (hlo:lo≤H.next):∃ H',FnX Try.prog kn lo 48 [.agg (Ph.f x).toArray] H (.tuple #[.agg #[iv (max 0 (x.bl+x.il - x.oh - x.rh * x.ch)),iv (x.bh+x.ih - x.ol - x.rl * x.cl)],.agg #[iv (x.rl * x.cl),iv (x.rh * x.ch)]]) H'∧Zh H H' []:=by
 have key:=Zp (kn:=kn) (lo:=lo) (H:=H) (args:=[.agg (Ph.f x).toArray]) (Q:=fun w H'=>w=(.tuple #[.agg #[iv (max 0 (x.bl+x.il - x.oh - x.rh * x.ch)),iv (x.bh+x.ih - x.ol - x.rl * x.cl)],.agg #[iv (x.rl * x.cl),iv (x.rh * x.ch)]])∧Zh H H' []) Try.func48 B48 N48 Z48 L48 (by simp) ?_
 ·obtain ⟨w,H',h,rfl,q⟩:=key;exact ⟨H',h,q⟩
 have hk:=Zh.refl H []
 have hp:=zl hv
 refine Zc<|Yl (v:=.agg (Ph.f x).toArray) rfl ?_
 intro H1 kH1 nH1 c1
 have c1:Cl H1 H.next [iv x.bl,iv x.bh,iv x.il,iv x.ih,iv x.ol,iv x.oh,iv x.rl,iv x.rh,iv x.cl,iv x.ch]:=c1
 have mH1:=kH1.1
 have hk:=hk.trans kH1
 refine Yq ?_
 intro H2 kH2 nH2 c2
 have c2:Cl H2 H1.next [iv 0,iv 0]:=c2
 have mH2:=kH2.1
 have hk:=hk.trans kH2
 have c1:=kH2.cl c1 (by simp)
 refine Yq ?_
 intro H3 kH3 nH3 c3
 have c3:Cl H3 H2.next [iv 0,iv 0]:=c3
 have mH3:=kH3.1
 have hk:=hk.trans kH3
 have c1:=kH3.cl c1 (by simp)
 have c2:=kH3.cl c2 (by simp)
 refine Zb<|Zc ?_
 obtain ⟨H4,fH4,kH4⟩:=Qo (kn:=kn) (lo:=lo) (H:=H3)
 refine Zi (vs:=[]) rfl (YR h35 fH4) ?_
 have mH4:=kH4.1
 have hk:=hk.trans kH4
 have c1:=kH4.cl c1 (by simp)
 have c2:=kH4.cl c2 (by simp)
 have c3:=kH4.cl c3 (by simp)
 refine Za rfl<|Zd (v:=.func (.func 57) #[] #[]) rfl (by kernel_rfl)<|Zd (v:=.func (.func 58) #[] #[]) rfl (by kernel_rfl)<|Za rfl<|Za rfl<|Zb<|Zc<|Zd (v:=.func (.func 66) #[] #[pt H.next]) rfl (by kernel_rfl)<|Za rfl<|Zb<|Zc<|Za rfl<|Za rfl ?_
 obtain ⟨H5,fH5,kH5⟩:=yf (kn:=kn) (lo:=lo) (H:=H4) ZbF hv c1 (by omega)
 refine Zi (vs:=[.func (.func 57) #[] #[]]) rfl (Y7 rfl (by simpa using fH5)) ?_
 have mH5:=kH5.1
 have hk:=hk.trans kH5
 have c1:=kH5.cl c1 (by simp)
 have c2:=kH5.cl c2 (by simp)
 have c3:=kH5.cl c3 (by simp)
 refine Za rfl<|Za rfl ?_
 obtain ⟨H6,fH6,kH6⟩:=yf (kn:=kn) (lo:=lo) (H:=H5) Zac hv c1 (by omega)
 refine Zi (vs:=[.func (.func 58) #[] #[]]) rfl (Y7 rfl (by simpa using fH6)) ?_
 have mH6:=kH6.1
 have hk:=hk.trans kH6
 have c1:=kH6.cl c1 (by simp)
 have c2:=kH6.cl c2 (by simp)
 have c3:=kH6.cl c3 (by simp)
 refine Zd (v:=.agg #[iv (x.rl * x.cl),iv (x.rh * x.ch)]) rfl (by kernel_rfl)<|Z6 (b:=H2.next) (o:=0) rfl rfl c3 (by omega) rfl rfl (by simp) ?_
 intro H7 kH7 nH7 sH7
 have mH7:=kH7.1
 have hk:=hk.new kH7 (fun b hb=>by simp at hb ⊢;omega)
 have c1:=kH7.cl c1 (by first | (simp;done) | (simp;omega))
 have c2:=kH7.cl c2 (by first | (simp;done) | (simp;omega))
 have c3:Cl H7 H2.next [iv (x.rl * x.cl),iv (x.rh * x.ch)]:=sH7
 refine Zb<|Zc<|Zd (v:=.func (.func 67) #[] #[pt H.next,pt H2.next]) rfl (by kernel_rfl)<|Za rfl<|Zb<|Zc<|Za rfl<|Za rfl<|Za rfl ?_
 obtain ⟨H8,fH8,kH8⟩:=Jn (kn:=kn) (lo:=lo) (H:=H7) ZbF Zac hv ⟨hp.1,hp.2.1,hp.2.2⟩ c1 c3 (by omega)
 refine Zi (vs:=[.func (.func 57) #[] #[],.func (.func 58) #[] #[]]) rfl (Y7 rfl (by simpa using fH8)) ?_
 have mH8:=kH8.1
 have hk:=hk.trans kH8
 have c1:=kH8.cl c1 (by simp)
 have c2:=kH8.cl c2 (by simp)
 have c3:=kH8.cl c3 (by simp)
 refine qC (a:=0) (b:=(x.bl+x.il - x.oh - x.rh * x.ch)) rfl rfl<|Za rfl<|Za rfl<|Za rfl ?_
 obtain ⟨H9,fH9,kH9⟩:=Jn (kn:=kn) (lo:=lo) (H:=H8) Zac ZbF hv ⟨hp.1,hp.2.1,hp.2.2⟩ c1 c3 (by omega)
 refine Zi (vs:=[.func (.func 58) #[] #[],.func (.func 57) #[] #[]]) rfl (Y7 rfl (by simpa using fH9)) ?_
 have mH9:=kH9.1
 have hk:=hk.trans kH9
 have c1:=kH9.cl c1 (by simp)
 have c2:=kH9.cl c2 (by simp)
 have c3:=kH9.cl c3 (by simp)
 refine Zd (v:=.agg #[iv (max 0 (x.bl+x.il - x.oh - x.rh * x.ch)),iv (x.bh+x.ih - x.ol - x.rl * x.cl)]) rfl (by kernel_rfl)<|Z6 (b:=H1.next) (o:=0) rfl rfl c2 (by omega) rfl rfl (by simp) ?_
 intro H10 kH10 nH10 sH10
 have mH10:=kH10.1
 have hk:=hk.new kH10 (fun b hb=>by simp at hb ⊢;omega)
 have c1:=kH10.cl c1 (by first | (simp;done) | (simp;omega))
 have c3:=kH10.cl c3 (by first | (simp;done) | (simp;omega))
 have c2:Cl H10 H1.next [iv (max 0 (x.bl+x.il - x.oh - x.rh * x.ch)),iv (x.bh+x.ih - x.ol - x.rl * x.cl)]:=sH10
 refine Zb<|Xu<|ZU (b:=H1.next) (o:=0) rfl c2.rd (show row 2 _ _=some [iv (max 0 (x.bl+x.il - x.oh - x.rh * x.ch)),iv (x.bh+x.ih - x.ol - x.rl * x.cl)] from rfl)<|ZU (b:=H2.next) (o:=0) rfl c3.rd (show row 2 _ _=some [iv (x.rl * x.cl),iv (x.rh * x.ch)] from rfl)<|Q7 (b:=H1.next) (o:=0) rfl rfl c2 (by omega) rfl rfl (by simp) ?_
 intro H11 kH11 nH11 sH11
 have mH11:=kH11.1
 have hk:=hk.new kH11 (fun b hb=>by simp at hb ⊢;omega)
 have c1:=kH11.cl c1 (by first | (simp;done) | (simp;omega))
 have c3:=kH11.cl c3 (by first | (simp;done) | (simp;omega))
 have c2:Cl H11 H1.next [iv (max 0 (x.bl+x.il - x.oh - x.rh * x.ch)),iv (x.bh+x.ih - x.ol - x.rl * x.cl)]:=sH11
 refine Q7 (b:=H2.next) (o:=0) rfl rfl c3 (by omega) rfl rfl (by simp) ?_
 intro H12 kH12 nH12 sH12
 have mH12:=kH12.1
 have hk:=hk.new kH12 (fun b hb=>by simp at hb ⊢;omega)
 have c1:=kH12.cl c1 (by first | (simp;done) | (simp;omega))
 have c2:=kH12.cl c2 (by first | (simp;done) | (simp;omega))
 have c3:Cl H12 H2.next [iv (x.rl * x.cl),iv (x.rh * x.ch)]:=sH12
 refine Yo (by repeat' first | exact True.intro | exact (fun h=>h) | refine And.intro ?_ ?_ | (intro h;have h:(_:Nat)=_:=h;omega)) ?_
 exact And.intro trivial (Exists.intro _ (And.intro (ZcN rfl rfl a31 Qi rfl rfl c2 c3) ⟨rfl,hk⟩))
set_option maxRecDepth 100000 in
set_option maxHeartbeats 1000000 in
theorem yp (h35:kn.b 35=none) {x:Ph} (hlo:lo≤H.next):∃ H',FnX Try.prog kn lo 20 [.agg (Ph.f x).toArray] H (.tuple #[.agg #[iv (baT x).1.1,iv (baT x).1.2],.agg #[iv (baT x).2.1.1,iv (baT x).2.1.2],iv (baT x).2.2]) H'∧Zh H H' []:=by
 have key:=Zp (kn:=kn) (lo:=lo) (H:=H) (args:=[.agg (Ph.f x).toArray]) (Q:=fun w H'=>w=(.tuple #[.agg #[iv (baT x).1.1,iv (baT x).1.2],.agg #[iv (baT x).2.1.1,iv (baT x).2.1.2],iv (baT x).2.2])∧Zh H H' []) Try.func20 B20 N20 Z20 L20 (by simp) ?_
 ·obtain ⟨w,H',h,rfl,q⟩:=key;exact ⟨H',h,q⟩
 have hk:=Zh.refl H []
 refine Zc<|Yl (v:=.agg (Ph.f x).toArray) rfl ?_
 intro H1 kH1 nH1 c1
 have c1:Cl H1 H.next [iv x.bl,iv x.bh,iv x.il,iv x.ih,iv x.ol,iv x.oh,iv x.rl,iv x.rh,iv x.cl,iv x.ch]:=c1
 have mH1:=kH1.1
 have hk:=hk.trans kH1
 refine Yq ?_
 intro H2 kH2 nH2 c2
 have c2:Cl H2 H1.next [iv 0,iv 0]:=c2
 have mH2:=kH2.1
 have hk:=hk.trans kH2
 have c1:=kH2.cl c1 (by simp)
 refine Yq ?_
 intro H3 kH3 nH3 c3
 have c3:Cl H3 H2.next [iv 0,iv 0]:=c3
 have mH3:=kH3.1
 have hk:=hk.trans kH3
 have c1:=kH3.cl c1 (by simp)
 have c2:=kH3.cl c2 (by simp)
 refine Za rfl<|Zb<|Zc<|ZP (b:=H.next) (o:=0) rfl c1.rd (show row 10 _ _=some [iv x.bl,iv x.bh,iv x.il,iv x.ih,iv x.ol,iv x.oh,iv x.rl,iv x.rh,iv x.cl,iv x.ch] from rfl)<|Zu rfl (Zel (x:=x) (by omega)) ?_
 intro tH4 H4 hH4 kH4
 have mH4:=kH4.1
 have hk:=hk.trans kH4
 have c1:=kH4.cl c1 (by simp)
 have c2:=kH4.cl c2 (by simp)
 have c3:=kH4.cl c3 (by simp)
 cases tH4
 ·have hv:vP x=false:=hH4
  refine Zd (v:=.bool true) rfl rfl<|Zb<|ZN<|Zc<|Zd (v:=.agg #[iv 0,iv 0]) rfl (by kernel_rfl)<|Zd (v:=.agg #[iv 0,iv 0]) rfl (by kernel_rfl)<|Z6 (b:=H1.next) (o:=0) rfl rfl c2 (by omega) rfl rfl (by simp) ?_
  intro H5 kH5 nH5 sH5
  have mH5:=kH5.1
  have hk:=hk.new kH5 (fun b hb=>by simp at hb ⊢;omega)
  have c1:=kH5.cl c1 (by first | (simp;done) | (simp;omega))
  have c3:=kH5.cl c3 (by first | (simp;done) | (simp;omega))
  have c2:Cl H5 H1.next [iv 0,iv 0]:=sH5
  refine Z6 (b:=H2.next) (o:=0) rfl rfl c3 (by omega) rfl rfl (by simp) ?_
  intro H6 kH6 nH6 sH6
  have mH6:=kH6.1
  have hk:=hk.new kH6 (fun b hb=>by simp at hb ⊢;omega)
  have c1:=kH6.cl c1 (by first | (simp;done) | (simp;omega))
  have c2:=kH6.cl c2 (by first | (simp;done) | (simp;omega))
  have c3:Cl H6 H2.next [iv 0,iv 0]:=sH6
  refine Za rfl<|Zb ?_
  exact And.intro trivial (Exists.intro _ (And.intro (K2 rfl rfl a31 Qi rfl rfl c2 c3 rfl) ⟨yX (Zdj hv),hk⟩))
 ·have hv:vP x=true:=hH4
  obtain ⟨⟨hb1,hb2,hb3⟩,⟨hi1,hi2,hi3⟩,⟨ho1,ho2,ho3⟩,_⟩:=Zbt hv;have hp:=zl hv
  refine Zd (v:=.bool false) rfl rfl<|Zb<|ZK ?_
  first | refine Zj ?_ | skip
  refine Zc<|ZP (b:=H.next) (o:=0) rfl c1.rd (show row 10 _ _=some [iv x.bl,iv x.bh,iv x.il,iv x.ih,iv x.ol,iv x.oh,iv x.rl,iv x.rh,iv x.cl,iv x.ch] from rfl) ?_
  obtain ⟨H7,fH7,kH7⟩:=KN (kn:=kn) (lo:=lo) (H:=H4) h35 hv (by omega)
  refine Zi (vs:=[.agg (Ph.f x).toArray]) rfl (Zf fH7) ?_
  have mH7:=kH7.1
  have hk:=hk.trans kH7
  have c1:=kH7.cl c1 (by simp)
  have c2:=kH7.cl c2 (by simp)
  have c3:=kH7.cl c3 (by simp)
  refine Za rfl<|Zd (v:=.agg #[iv (max 0 (x.bl+x.il - x.oh - x.rh * x.ch)),iv (x.bh+x.ih - x.ol - x.rl * x.cl)]) rfl (by kernel_rfl)<|Zd (v:=.agg #[iv (x.rl * x.cl),iv (x.rh * x.ch)]) rfl (by kernel_rfl)<|Z6 (b:=H1.next) (o:=0) rfl rfl c2 (by omega) rfl rfl (by simp) ?_
  intro H8 kH8 nH8 sH8
  have mH8:=kH8.1
  have hk:=hk.new kH8 (fun b hb=>by simp at hb ⊢;omega)
  have c1:=kH8.cl c1 (by first | (simp;done) | (simp;omega))
  have c3:=kH8.cl c3 (by first | (simp;done) | (simp;omega))
  have c2:Cl H8 H1.next [iv (max 0 (x.bl+x.il - x.oh - x.rh * x.ch)),iv (x.bh+x.ih - x.ol - x.rl * x.cl)]:=sH8
  refine Z6 (b:=H2.next) (o:=0) rfl rfl c3 (by omega) rfl rfl (by simp) ?_
  intro H9 kH9 nH9 sH9
  have mH9:=kH9.1
  have hk:=hk.new kH9 (fun b hb=>by simp at hb ⊢;omega)
  have c1:=kH9.cl c1 (by first | (simp;done) | (simp;omega))
  have c2:=kH9.cl c2 (by first | (simp;done) | (simp;omega))
  have c3:Cl H9 H2.next [iv (x.rl * x.cl),iv (x.rh * x.ch)]:=sH9
  refine Zb<|Zc<|Zn (b:=H1.next) (o:=0) rfl<|Zy (b:=H1.next) (o:=1) (v:=iv (x.bh+x.ih - x.ol - x.rl * x.cl)) rfl c2.rd rfl<|ZB (a:=(x.bh+x.ih - x.ol - x.rl * x.cl)) (b:=0) rfl rfl<|Zb ?_
  refine And.intro (fun q1=>?_) (fun q1=>?_)
  ·have q1:(x.bh+x.ih - x.ol - x.rl * x.cl) < 0:=of_decide_eq_true q1
   refine Zc<|Zd (v:=.agg #[iv 0,iv 0]) rfl (by kernel_rfl)<|Zd (v:=.agg #[iv 0,iv 0]) rfl (by kernel_rfl)<|Z6 (b:=H1.next) (o:=0) rfl rfl c2 (by omega) rfl rfl (by simp) ?_
   intro H10 kH10 nH10 sH10
   have mH10:=kH10.1
   have hk:=hk.new kH10 (fun b hb=>by simp at hb ⊢;omega)
   have c1:=kH10.cl c1 (by first | (simp;done) | (simp;omega))
   have c3:=kH10.cl c3 (by first | (simp;done) | (simp;omega))
   have c2:Cl H10 H1.next [iv 0,iv 0]:=sH10
   refine Z6 (b:=H2.next) (o:=0) rfl rfl c3 (by omega) rfl rfl (by simp) ?_
   intro H11 kH11 nH11 sH11
   have mH11:=kH11.1
   have hk:=hk.new kH11 (fun b hb=>by simp at hb ⊢;omega)
   have c1:=kH11.cl c1 (by first | (simp;done) | (simp;omega))
   have c2:=kH11.cl c2 (by first | (simp;done) | (simp;omega))
   have c3:Cl H11 H2.next [iv 0,iv 0]:=sH11
   refine Za rfl<|Zb ?_
   exact And.intro trivial (Exists.intro _ (And.intro (K2 rfl rfl a31 Qi rfl rfl c2 c3 rfl) ⟨yX (ZeA hv (by omega)),hk⟩))
  ·have q1:¬ ((x.bh+x.ih - x.ol - x.rl * x.cl) < 0):=of_decide_eq_false q1
   first | refine Zj ?_ | skip
   refine Xu<|ZU (b:=H1.next) (o:=0) rfl c2.rd (show row 2 _ _=some [iv (max 0 (x.bl+x.il - x.oh - x.rh * x.ch)),iv (x.bh+x.ih - x.ol - x.rl * x.cl)] from rfl)<|ZU (b:=H2.next) (o:=0) rfl c3.rd (show row 2 _ _=some [iv (x.rl * x.cl),iv (x.rh * x.ch)] from rfl)<|Q7 (b:=H1.next) (o:=0) rfl rfl c2 (by omega) rfl rfl (by simp) ?_
   intro H12 kH12 nH12 sH12
   have mH12:=kH12.1
   have hk:=hk.new kH12 (fun b hb=>by simp at hb ⊢;omega)
   have c1:=kH12.cl c1 (by first | (simp;done) | (simp;omega))
   have c3:=kH12.cl c3 (by first | (simp;done) | (simp;omega))
   have c2:Cl H12 H1.next [iv (max 0 (x.bl+x.il - x.oh - x.rh * x.ch)),iv (x.bh+x.ih - x.ol - x.rl * x.cl)]:=sH12
   refine Q7 (b:=H2.next) (o:=0) rfl rfl c3 (by omega) rfl rfl (by simp) ?_
   intro H13 kH13 nH13 sH13
   have mH13:=kH13.1
   have hk:=hk.new kH13 (fun b hb=>by simp at hb ⊢;omega)
   have c1:=kH13.cl c1 (by first | (simp;done) | (simp;omega))
   have c2:=kH13.cl c2 (by first | (simp;done) | (simp;omega))
   have c3:Cl H13 H2.next [iv (x.rl * x.cl),iv (x.rh * x.ch)]:=sH13
   refine Zk rfl ?_
   refine Yo (by repeat' first | exact True.intro | exact (fun h=>h) | refine And.intro ?_ ?_ | (intro h;have h:(_:Nat)=_:=h;omega)) ?_
   exact And.intro trivial (Exists.intro _ (And.intro (K2 rfl rfl a31 Qi rfl rfl c2 c3 rfl) ⟨yX (Zec hv (by omega)),hk⟩))
end
end
end Go.Ax

/-
 Pool: the document's Mix (written by program).
-/
namespace Go.Ax
open Go Go.RowKit Go.Proofs

noncomputable section
theorem Zae:ZV Try.prog 42=some (3,1):=by kernel_rfl
theorem zo3:Ye Try.prog 3=some (iv 0):=by kernel_rfl
theorem ZcD:Try.prog.underlying 42=some (.slice 3):=by kernel_rfl
theorem Za8:ZV Try.prog 22=some (52,5):=by kernel_rfl
theorem Zdb:Ye Try.prog 52=some (.agg #[iv 0,iv 0,iv 0,iv 0,iv 0]):=by kernel_rfl
theorem Zar:Try.prog.underlying 22=some (.slice 52):=by kernel_rfl
theorem Zdp:ZV Try.prog 101=some (22,1):=by kernel_rfl
theorem ZeP:Ye Try.prog 22=some (.slice none 0 0):=by kernel_rfl
theorem ZeO:ZV Try.prog 43=some (68,3):=by kernel_rfl
theorem ZeL:Ye Try.prog 68=some (.agg #[iv 0,iv 0,iv 0]):=by kernel_rfl
theorem zO {lo n:Nat} {S:Rg} {H:Hp} {d:Option Tmp} {ty:TypeId} {p:String} {x y z:Operand} {a b c:Int} (hx:evS S x=some (iv a)) (hy:evS S y=some (iv b)) (hz:evS S z=some (iv c)) :
  Zr Try.prog lo (frS n S) H ⟨d,.buildSlice 42 3 #[(0,x),(1,y),(2,z)],ty,p,#[],none⟩=some (.val (.slice (some ⟨H.next,0,none⟩) 3 3) (H.new (.cells [iv a,iv b,iv c] 3 false)),.heavy):=by
 unfold Zr
 simp only [YE,Yf,hx,hy,hz,Zae,zo3]
 rfl
theorem Za7 {lo n:Nat} {S:Rg} {H:Hp} {d:Option Tmp} {ty:TypeId} {p:String} {x y:Operand} {a a2:Option Addr} {m c m2 c2:Nat} (hx:evS S x=some (.slice a m c)) (hy:evS S y=some (.slice a2 m2 c2)) :
  Zr Try.prog lo (frS n S) H ⟨d,.buildSlice 101 2 #[(0,x),(1,y)],ty,p,#[],none⟩=some (.val (.slice (some ⟨H.next,0,none⟩) 2 2) (H.new (.cells [.slice a m c,.slice a2 m2 c2] 22 false)),.heavy):=by
 unfold Zr
 simp only [YE,Yf,hx,hy,Zdp,ZeP]
 rfl
theorem ZaO {lo n:Nat} {S:Rg} {H:Hp} {d:Option Tmp} {ty:TypeId} {p:String} {x y z:Operand} {a b c:Dc} (hx:evS S x=some (.agg a.f.toArray)) (hy:evS S y=some (.agg b.f.toArray)) (hz:evS S z=some (.agg c.f.toArray)) :
  Zr Try.prog lo (frS n S) H ⟨d,.buildSlice 22 3 #[(0,x),(1,y),(2,z)],ty,p,#[],none⟩=some (.val (.slice (some ⟨H.next,0,none⟩) 3 3) (H.new (.cells (dcc [a,b,c]) 52 false)),.heavy):=by
 unfold Zr
 simp only [YE,Yf,hx,hy,hz,Za8,Zdb]
 rfl
section
variable {kn:Kn} {lo:Nat} {H:Hp}
end
end
end Go.Ax

/-
 Pool: lists joined;Allow,and the document of it (written by program).
-/
namespace Go.Ax
open Go Go.RowKit Go.Proofs

noncomputable section
theorem UP {z:List Value}:∀ {n:Nat},(ZF z n).length=n * z.length
 | 0=>by simp [ZF]
 | n+1=>by rw [ZF,List.length_append,UP,Nat.succ_mul];omega
theorem U3:∀ (z v pre post:List Value),z.length=v.length→ZE (pre ++ z ++ post) pre.length v=pre ++ v ++ post
 | [],[],pre,post,_=>by simp [ZE]
 | [],_ :: _,_,_,h=>by simp at h
 | _ :: _,[],_,_,h=>by simp at h
 | y :: z,v :: vs,pre,post,h=>by
  have e:(pre ++ (y :: z) ++ post).set pre.length v=(pre ++ [v]) ++ z ++ post:=by
   rw [List.append_assoc,List.set_append_right _ _ (Nat.le_refl _),Nat.sub_self,List.cons_append,List.set_cons_zero]
   simp
  rw [ZE,e]
  have:=U3 z vs (pre ++ [v]) post (by simpa using h)
  rw [List.length_append] at this
  rw [show pre.length+1=pre.length + [v].length from rfl,this]
  simp
theorem y9 {Z A B:List Value} (h:Z.length=A.length+B.length):ZE (ZE Z 0 A) A.length B=A ++ B:=by
 have e:Z=Z.take A.length ++ Z.drop A.length:=(List.take_append_drop _ _).symm
 have h1:(Z.take A.length).length=A.length:=by simp;omega
 have h2:ZE Z 0 A=A ++ Z.drop A.length:=by
  have:=U3 (Z.take A.length) A [] (Z.drop A.length) h1
  simpa using this
 rw [h2]
 exact V0 (Z.drop A.length) B A (by simp;omega)
theorem Up {lo n:Nat} {S:Rg} {H:Hp} {d:Option Tmp} {ty:TypeId} {p:String} {x:Operand} (hx:evS S x=some (.slice none 0 0)):Zr Try.prog lo (frS n S) H ⟨d,.call ⟨.builtin .cap,#[x],#[22]⟩,ty,p,#[],none⟩=some (.val (iv 0) H,.pure):=by
 unfold Zr
 simp only [evs,Yf,hx,Z1,List.getElem?_toArray,List.getElem?_cons_zero,Zar]
 rfl
theorem Js {lo n:Nat} {S:Rg} {H:Hp} {d:Option Tmp} {ty:TypeId} {p:String} {x y:Operand} (hx:evS S x=some (.slice none 0 0)) (hy:evS S y=some (iv 0)):Zr Try.prog lo (frS n S) H ⟨d,.slice 22 x none (some y) none,ty,p,#[],none⟩=some (.val (.slice none 0 0) H,.pure):=by
 obtain ⟨i,hi,_⟩:=Zes
 have hb:ZW (frS n S) 0 (some y)=some 0:=by unfold ZW;simp only [Yf,hy]
 have hb0:ZW (frS n S) 0 none=some 0:=rfl
 unfold Zr
 simp only [Yf,hx,Zar,hi,hb,hb0]
 rfl
theorem Qk {lo n:Nat} {S:Rg} {H:Hp} {d:Option Tmp} {ty:TypeId} {p:String} {x y:Operand} {b m c:Nat} {cs:List Value} (hg:H.t.get b=some (.cells cs 52 true)) (hx:evS S x=some (.slice (some ⟨b,0,none⟩) m c)) (hy:evS S y=some (iv 0)):Zr Try.prog lo (frS n S) H ⟨d,.slice 22 x none (some y) none,ty,p,#[],none⟩=some (.val (.slice (some ⟨b,0,none⟩) 0 c) H,.read b):=by
 obtain ⟨i,hi,hs⟩:=Zes
 have hb:ZW (frS n S) m (some y)=some 0:=by unfold ZW;simp only [Yf,hy]
 have hb0:ZW (frS n S) 0 none=some 0:=rfl
 unfold Zr
 simp only [Yf,hx,Zar,hi,hb,hb0,hg,hs,Nat.beq_refl,Nat.ble_eq_true_of_le (Nat.zero_le m),Nat.ble_eq_true_of_le (Nat.le_refl 0),show Nat.beq 5 0=false from rfl,Bool.not_false,Bool.or_true,Bool.and_self,cond_true,Nat.zero_mul,ya,Nat.sub_zero,Nat.add_zero]
theorem Un {lo n:Nat} {S:Rg} {H:Hp} {d:Option Tmp} {ty:TypeId} {p:String} {x y:Operand} {m:Nat} {j:Int} (hx:evS S x=some (.slice none 0 0)) (hy:evS S y=some (iv j)) (hj:j=(m:Int)) (hm:0 < m) (hm2:m≤1000):Zr Try.prog lo (frS n S) H ⟨d,.call ⟨.builtin .append,#[x,y],#[22,3]⟩,ty,p,#[],none⟩=some (.val (.slice (some ⟨H.next,0,none⟩) m m) (H.new (.cells (ZF [iv 0,iv 0,iv 0,iv 0,iv 0] m) 52 true)),.heavy):=by
 subst hj
 have h3:Nat.ble m 1048576=true:=Nat.ble_eq_true_of_le (by omega)
 have h0:Nat.beq m 0=false:=by rw [Zz];exact decide_eq_false (by omega)
 unfold Zr
 simp only [evs,Yf,hx,hy,Z1,List.getElem?_toArray,List.getElem?_cons_zero,List.getElem?_cons_succ,Za8,Try.underlying3,Zdb,show ((m:Nat):Int)=Int.ofNat m from rfl,h3,cond_true,ZO,YY,Nat.beq_refl,Bool.and_self,h0,cond_false]
 rfl
theorem VC {lo:Nat} {H:Hp} {b m k N c2:Nat} {a2:Option Addr} {cs news:List Value} (hg:H.t.get b=some (.cells cs 52 true)) (hbn:b < H.next) (hlb:lo≤b) (hcl:cs.length=N * 5) (hs:Sl H a2 k c2 news) (hl:news.length=k * 5) (hone:news.all one=true) (hmk:m+k≤N) (hN:N≤1000) :
  ∃ H1 kd,(∀ (n:Nat) (S:Rg) (d:Option Tmp) (x y:Operand) (ty:TypeId) (p:String),evS S x=some (.slice (some ⟨b,0,none⟩) m N)→evS S y=some (.slice a2 k c2)→Zr Try.prog lo (frS n S) H ⟨d,.call ⟨.builtin .append,#[x,y],#[22,22]⟩,ty,p,#[],none⟩=some (.val (.slice (some ⟨b,0,none⟩) (m+k) N) H1,kd))∧(∀ c,kd=.read c→c < H.next)∧
   H1.t.get b=some (.cells (ZE cs (m * 5) news) 52 true)∧Zh H H1 [b]∧H1.next=H.next:=by
 have h3:Nat.ble (m+k) 1048576=true:=Nat.ble_eq_true_of_le (by omega)
 by_cases h0:k=0
 ·subst h0
  have hn:news=[]:=List.eq_nil_of_length_eq_zero (by simpa using hl)
  subst hn
  rw [Nat.add_zero] at h3
  refine ⟨H,.pure,fun n S d x y ty p hx hy=>?_,(fun c e=>by cases e),hg,Zh.refl H [b],rfl⟩
  unfold Zr
  simp only [evs,Yf,hx,hy,Z1,List.getElem?_toArray,List.getElem?_cons_zero,List.getElem?_cons_succ,Za8,Zar,W4 hs hl,ZO,h3,cond_true,Nat.beq_refl,Nat.add_zero]
 ·have hk0:Nat.beq k 0=false:=by rw [Zz];exact decide_eq_false h0
  have hle:(m+k) * 5≤N * 5:=Nat.mul_le_mul_right _ hmk
  refine ⟨H.up b (.cells (ZE cs (m * 5) news) 52 true),.store b,fun n S d x y ty p hx hy=>?_,(fun c e=>by cases e),?_,(WI ⟨hbn,_,_,hg⟩ rfl).1,rfl⟩
  ·unfold Zr
   simp only [evs,Yf,hx,hy,Z1,List.getElem?_toArray,List.getElem?_cons_zero,List.getElem?_cons_succ,Za8,Zar,W4 hs hl,ZO,h3,cond_true,cond_false,hk0,hg,hone,Nat.ble_eq_true_of_le hlb,Nat.beq_refl,Nat.zero_add,Nat.ble_eq_true_of_le (show (m+k) * 5≤cs.length by omega),Bool.and_self]
   rfl
  ·show (H.t.set b _).get b=_
   rw [Tr.get_set,if_pos rfl]
def lnF (n:Nat):Nat→Nat | 0=>0 | 1=>n | _=>n+1
def ccF (n:Nat) (ds:List Dc) (x:Dc):Nat→List Value | 0=>ZF [iv 0,iv 0,iv 0,iv 0,iv 0] (n+1) | 1=>ZE (ZF [iv 0,iv 0,iv 0,iv 0,iv 0] (n+1)) (0 * 5) (dcc ds) | _=>ZE (ZE (ZF [iv 0,iv 0,iv 0,iv 0,iv 0] (n+1)) (0 * 5) (dcc ds)) (n * 5) (Dc.f x)
theorem qh {n:Nat} {ds:List Dc} {x:Dc} (i:Nat):(ccF n ds x i).length=(n+1) * 5:=by
 unfold ccF
 split<;>simp only [Wu,UP]<;>rfl
theorem ZbR {n:Nat} {ds:List Dc} {x:Dc} (h:ds.length=n):ccF n ds x 2=dcc (ds ++ [x]):=by
 have e:dcc (ds ++ [x])=dcc ds ++ Dc.f x:=by unfold dcc;rw [List.flatMap_append];simp
 rw [e]
 show ZE (ZE _ (0 * 5) (dcc ds)) (n * 5) (Dc.f x)=_
 have hl:(dcc ds).length=n * 5:=by rw [qE,h]
 rw [← hl,Nat.zero_mul]
 refine y9 ?_
 rw [UP,hl]
 show (n+1) * 5=n * 5+5
 omega
theorem jf:∀ {ds:List Dc},(dcc ds).all one=true
 | []=>rfl
 | d :: ds=>by
  have ih:=jf (ds:=ds)
  show (Dc.f d ++ dcc ds).all one=true
  rw [List.all_append,ih];rfl
def alT (ds:List Dc) (days limit day:Int):Int × Int:=
 if vD ds=false then (0,1) else if inB days 1 366=false∨inB limit 0 72057594037927936=false∨inB day 0 16384=false then (0,2) else if limit < gmx (prt gHi ds) days day days.toNat then (0,12) else (limit - gmx (prt gHi ds) days day days.toNat,0)
section
variable {ds:List Dc} {days limit day:Int}
theorem Zco (h:vD ds=false):alT ds days limit day=(0,1):=by unfold alT;rw [if_pos h]
theorem JY (h:vD ds=true) (k:inB days 1 366=false∨inB limit 0 72057594037927936=false∨inB day 0 16384=false):alT ds days limit day=(0,2):=by unfold alT;rw [if_neg (by rw [h];decide),if_pos k]
theorem ZaD (h:vD ds=true) (k:inB days 1 366=true) (k2:inB limit 0 72057594037927936=true) (k3:inB day 0 16384=true) (q:limit < gmx (prt gHi ds) days day days.toNat):alT ds days limit day=(0,12):=by unfold alT;rw [if_neg (by rw [h];decide),if_neg (by rw [k,k2,k3];decide),if_pos q]
theorem Zb9 (h:vD ds=true) (k:inB days 1 366=true) (k2:inB limit 0 72057594037927936=true) (k3:inB day 0 16384=true) (q:¬ limit < gmx (prt gHi ds) days day days.toNat):alT ds days limit day=(limit - gmx (prt gHi ds) days day days.toNat,0):=by unfold alT;rw [if_neg (by rw [h];decide),if_neg (by rw [k,k2,k3];decide),if_neg q]
theorem X1 {a b:Int} (h:alT ds days limit day=(a,b)):(Value.tuple #[iv a,iv b])=.tuple #[iv (alT ds days limit day).1,iv (alT ds days limit day).2]:=by rw [h]
end
theorem yY {ds:List Dc} {days day:Int} (h:∀ d,d∈ds→YI d=false) (hl:ds.length≤70) {k:Nat}:0≤gmx (prt gHi ds) days day k∧gmx (prt gHi ds) days day k≤5044031582654955520:=by
 refine ⟨yu,y0 (by omega) fun j _=>?_⟩
 have h1:=jb (l:=prt gHi ds) (days:=days) (D:=day+j) (U8 UG h)
 rw [Zx] at h1
 omega
section
variable {kn:Kn} {lo:Nat} {H:Hp}
set_option maxRecDepth 100000 in
theorem ZbH {n:Nat} {j:Int} (hj:j=(n:Int)+1) (hn:n≤100) (hlo:lo≤H.next):∃ b H',FnX Try.prog kn lo 64 [.slice none 0 0,iv j] H (.slice (some ⟨b,0,none⟩) 0 (n+1)) H'∧Zh H H' []∧H.next≤b∧b < H'.next∧H'.t.get b=some (.cells (ZF [iv 0,iv 0,iv 0,iv 0,iv 0] (n+1)) 52 true):=by
 have key:=Zp (kn:=kn) (lo:=lo) (H:=H) (args:=[.slice none 0 0,iv j]) (Q:=fun w H'=>∃ b,w=.slice (some ⟨b,0,none⟩) 0 (n+1)∧Zh H H' []∧H.next≤b∧b < H'.next∧H'.t.get b=some (.cells (ZF [iv 0,iv 0,iv 0,iv 0,iv 0] (n+1)) 52 true)) Try.func64 B64 N64 Z64 L64 (by simp) ?_
 ·obtain ⟨w,H',h,b,rfl,q⟩:=key;exact ⟨b,H',h,q⟩
 have hk:=Zh.refl H []
 refine Zc<|Za rfl<|Zb<|Zc<|Za rfl<|ZB (a:=j) (b:=0) rfl rfl<|Zb ?_
 refine And.intro (fun q1=>?_) (fun q1=>?_)
 ·have q1:j < 0:=of_decide_eq_true q1
  omega
 ·have q1:¬ (j < 0):=of_decide_eq_false q1
  first | refine Zj ?_ | skip
  refine Zc<|Za rfl<|Za rfl<|YD (k:=.pure) rfl (by kernel_rfl) (Up rfl) (fun b e=>by cases e)<|Za rfl<|Yd (m:=0) rfl<|YC (a:=0) (b:=0) rfl rfl ⟨by omega,by omega⟩<|YC (a:=j) (b:=0 - 0) rfl rfl ⟨by omega,by omega⟩<|Za rfl<|Zb<|Zc<|Za rfl<|YW (a:=j - (0 - 0)) (b:=0) rfl rfl<|Zb ?_
  refine And.intro (fun q2=>?_) (fun q2=>?_)
  ·have q2:(j - (0 - 0)) > 0:=of_decide_eq_true q2
   refine Zc<|Za rfl<|Za rfl<|YD (k:=.pure) rfl (by kernel_rfl) (Up rfl) (fun b e=>by cases e)<|YD (k:=.pure) rfl (by kernel_rfl) (Js rfl rfl) (fun b e=>by cases e)<|Za rfl ?_
   obtain ⟨H1,hH1⟩:∃ H1,H.new (.cells (ZF [iv 0,iv 0,iv 0,iv 0,iv 0] (n+1)) 52 true)=H1:=⟨_,rfl⟩
   refine YD (H':=H1) (k:=.heavy) rfl (by kernel_rfl) ((Un (m:=n+1) (j:=j - (0 - 0)) rfl rfl (by omega) (by omega) (by omega)).trans (by rw [← hH1])) (fun b e=>by cases e) ?_
   have hg:=Zbk hH1
   obtain ⟨kH1,nH1,cH1⟩:=Yg hH1;clear hH1
   have mH1:=kH1.1
   have hk:=hk.trans kH1
   refine Za rfl<|Yd (m:=0) rfl<|YD (k:=.read H.next) rfl (by kernel_rfl) (Qk hg rfl rfl) (fun b e=>by cases e;omega)<|Za rfl<|Zb<|Zc<|Za rfl<|Za rfl<|Zb ?_
   exact And.intro trivial (Exists.intro _ (And.intro rfl ⟨H.next,rfl,hk,by omega,by omega,hg⟩))
  ·have q2:¬ ((j - (0 - 0)) > 0):=of_decide_eq_false q2
   omega
set_option maxRecDepth 100000 in
set_option maxHeartbeats 2000000 in
theorem jP {ds:List Dc} {x:Dc} {sa:Option Addr} {n cap ob x1:Nat} (co:Cl H ob [.slice sa n cap,.slice (some ⟨x1,0,none⟩) 1 1]) (cx:Cl H x1 [iv x.d,iv x.wl,iv x.wh,iv x.cl,iv x.ch]) (hs:Sl H sa n cap (dcc ds)) (hl:ds.length=n) (hn:n≤100) (hlo:lo≤H.next):∃ b H',FnX Try.prog kn lo 40 [.slice (some ⟨ob,0,none⟩) 2 2] H (.slice (some ⟨b,0,none⟩) (n+1) (n+1)) H'∧Zh H H' []∧Rd H' b (dcc (ds ++ [x]))∧H.next≤b:=by
 have key:=Zp (kn:=kn) (lo:=lo) (H:=H) (args:=[.slice (some ⟨ob,0,none⟩) 2 2]) (Q:=fun w H'=>∃ b,w=.slice (some ⟨b,0,none⟩) (n+1) (n+1)∧Zh H H' []∧Rd H' b (dcc (ds ++ [x]))∧H.next≤b) Try.func40 B40 N40 Z40 L40 (by simp) ?_
 ·obtain ⟨w,H',h,b,rfl,q⟩:=key;exact ⟨b,H',h,q⟩
 have hk:=Zh.refl H []
 have fs:=hs.old
 have lob:=co.lt
 have lx1:=cx.lt
 refine Zc<|Za rfl<|Zb<|Zc<|Za rfl<|Zb<|Zc<|Za rfl<|Yd (m:=2) rfl<|Za rfl<|Zb ?_
 refine ZA (fn:=Try.f40) Zd8 N40 Zd4 (fun i:Nat=>[(0,.slice (some ⟨ob,0,none⟩) 2 2),(3,iv (lnF n i:Int)),(9,.slice (some ⟨ob,0,none⟩) 2 2),(10,iv 2),(11,iv (i:Int))])
  (fun k i H'=>i+k=2∧Zh H H' []∧Cl H' ob [.slice sa n cap,.slice (some ⟨x1,0,none⟩) 1 1]∧Cl H' x1 [iv x.d,iv x.wl,iv x.wh,iv x.cl,iv x.ch]∧Sl H' sa n cap (dcc ds)) 2 0 ⟨by omega,hk,co,cx,hs⟩ ⟨rfl,rfl,rfl,rfl,rfl,trivial⟩ ?_
 rintro k i L1 ⟨hik,hk,co,cx,hs⟩
 have mk:=hk.1
 refine Zc<|ZB (a:=(i:Int)) (b:=2) rfl rfl<|Zb ?_
 refine And.intro (fun q1=>?_) (fun q1=>?_)
 ·have q1:(i:Int) < 2:=of_decide_eq_true q1
  obtain rfl | rfl:i=0∨i=1:=by omega
  ·first | refine Zj ?_ | skip
   refine Zc<|Z0 (b:=ob) (o:=0) (k:=0) (j:=0) rfl rfl rfl (by omega)<|Zy (b:=ob) (o:=0+0 * 1) (v:=.slice sa n cap) rfl co.rd rfl<|Za rfl<|Zb<|Zc<|Za rfl<|Za rfl<|Yd (m:=n) rfl<|Zt (a:=0) (b:=(n:Int)) rfl rfl ⟨by omega,by omega⟩<|Za rfl<|Zb<|Zc<|Za rfl<|ZB (a:=0+(n:Int)) (b:=0) rfl rfl<|Zb ?_
   refine And.intro (fun q2=>?_) (fun q2=>?_)
   ·have q2:(0+(n:Int)) < 0:=of_decide_eq_true q2
    omega
   ·have q2:¬ ((0+(n:Int)) < 0):=of_decide_eq_false q2
    first | refine Zj ?_ | skip
    show Zo _ _ _ _ _ _ _ _
    refine Zt (a:=0) (b:=1) rfl rfl ⟨by omega,by omega⟩<|Za rfl<|Zb ?_
    exact ⟨k - 1,1,by omega,⟨by omega,hk,co,cx,hs⟩,rfl,ivq (by simp only [lnF];omega),rfl,rfl,ivq (by omega),trivial⟩
  ·first | refine Zj ?_ | skip
   refine Zc<|Z0 (b:=ob) (o:=0) (k:=1) (j:=1) rfl rfl rfl (by omega)<|Zy (b:=ob) (o:=0+1 * 1) (v:=.slice (some ⟨x1,0,none⟩) 1 1) rfl co.rd rfl<|Za rfl<|Zb<|Zc<|Za rfl<|Za rfl<|Yd (m:=1) rfl<|Zt (a:=(n:Int)) (b:=1) rfl rfl ⟨by omega,by omega⟩<|Za rfl<|Zb<|Zc<|Za rfl<|ZB (a:=(n:Int)+1) (b:=0) rfl rfl<|Zb ?_
   refine And.intro (fun q3=>?_) (fun q3=>?_)
   ·have q3:((n:Int)+1) < 0:=of_decide_eq_true q3
    omega
   ·have q3:¬ (((n:Int)+1) < 0):=of_decide_eq_false q3
    first | refine Zj ?_ | skip
    show Zo _ _ _ _ _ _ _ _
    refine Zt (a:=1) (b:=1) rfl rfl ⟨by omega,by omega⟩<|Za rfl<|Zb ?_
    exact ⟨k - 1,2,by omega,⟨by omega,hk,co,cx,hs⟩,rfl,ivq (by simp only [lnF];omega),rfl,rfl,ivq (by omega),trivial⟩
 ·have q1:¬ ((i:Int) < 2):=of_decide_eq_false q1
  obtain rfl:i=2:=by omega
  first | (refine ZC ?_;show wC _ _ _ _ _ _ _ _ _) | skip
  refine Zc<|Za rfl ?_
  obtain ⟨bb,H1,fH1,kH1,hbb,hbn,hg⟩:=ZbH (kn:=kn) (lo:=lo) (H:=L1) (n:=n) (j:=(lnF n 2:Int)) (by simp only [lnF];omega) hn (by omega)
  refine Zi (vs:=[.slice none 0 0,iv (lnF n 2:Int)]) rfl (Zf fH1) ?_
  have mH1:=kH1.1
  have hk:=hk.trans kH1
  have co:=kH1.cl co (by simp)
  have cx:=kH1.cl cx (by simp)
  have hs:=kH1.sl0 hs
  refine Za rfl<|Zb<|Zc<|Za rfl<|Yd (m:=2) rfl<|Za rfl<|Zb ?_
  refine ZA (fn:=Try.f40) ZdK N40 Zdn (fun i:Nat=>[(6,.slice (some ⟨bb,0,none⟩) (lnF n i) (n+1)),(25,.slice (some ⟨ob,0,none⟩) 2 2),(26,iv 2),(27,iv (i:Int))])
   (fun k i H'=>i+k=2∧Zh H H' []∧Cl H' ob [.slice sa n cap,.slice (some ⟨x1,0,none⟩) 1 1]∧Cl H' x1 [iv x.d,iv x.wl,iv x.wh,iv x.cl,iv x.ch]∧Sl H' sa n cap (dcc ds)∧bb < H'.next∧H'.t.get bb=some (.cells (ccF n ds x i) 52 true)) 2 0 ⟨by omega,hk,co,cx,hs,hbn,hg⟩ ⟨rfl,rfl,rfl,rfl,trivial⟩ ?_
  rintro k i L2 ⟨hik,hk,co,cx,hs,hbn,hg⟩
  have mk:=hk.1
  refine Zc<|ZB (a:=(i:Int)) (b:=2) rfl rfl<|Zb ?_
  refine And.intro (fun q4=>?_) (fun q4=>?_)
  ·have q4:(i:Int) < 2:=of_decide_eq_true q4
   obtain rfl | rfl:i=0∨i=1:=by omega
   ·first | refine Zj ?_ | skip
    refine Zc<|Z0 (b:=ob) (o:=0) (k:=0) (j:=0) rfl rfl rfl (by omega)<|Zy (b:=ob) (o:=0+0 * 1) (v:=.slice sa n cap) rfl co.rd rfl<|Za rfl<|Zb ?_
    show Zo _ _ _ _ _ _ _ _
    refine Za rfl<|Za rfl ?_
    obtain ⟨H2,kdH2,eH2,dH2,hg,kH2,nH2⟩:=VC (lo:=lo) (m:=0) (N:=n+1) hg (by omega) (by omega) (qh _) hs (by rw [qE,hl]) jf (by omega) (by omega)
    refine YD (k:=kdH2) rfl (by kernel_rfl) (eH2 _ _ _ _ _ _ _ rfl rfl) dH2 ?_
    have hk:=hk.new kH2 (fun b hb=>by simp at hb ⊢;omega)
    have co:=kH2.cl co (by simp;omega)
    have cx:=kH2.cl cx (by simp;omega)
    have hs:=kH2.sl hs (fun b e=>by have:=fs b e;simp;omega)
    refine Za rfl<|Zb ?_
    show Zo _ _ _ _ _ _ _ _
    refine Zt (a:=0) (b:=1) rfl rfl ⟨by omega,by omega⟩<|Za rfl<|Zb ?_
    exact ⟨k - 1,1,by omega,⟨by omega,hk,co,cx,hs,by omega,hg⟩,by show some (Value.slice _ (0+n) _)=_;rw [Nat.zero_add];rfl,rfl,rfl,ivq (by omega),trivial⟩
   ·first | refine Zj ?_ | skip
    refine Zc<|Z0 (b:=ob) (o:=0) (k:=1) (j:=1) rfl rfl rfl (by omega)<|Zy (b:=ob) (o:=0+1 * 1) (v:=.slice (some ⟨x1,0,none⟩) 1 1) rfl co.rd rfl<|Za rfl<|Zb ?_
    show Zo _ _ _ _ _ _ _ _
    refine Za rfl<|Za rfl ?_
    obtain ⟨H3,kdH3,eH3,dH3,hg,kH3,nH3⟩:=VC (lo:=lo) (m:=n) (N:=n+1) hg (by omega) (by omega) (qh _) (cx.sl (Nat.le_refl 1)) rfl rfl (by omega) (by omega)
    refine YD (k:=kdH3) rfl (by kernel_rfl) (eH3 _ _ _ _ _ _ _ rfl rfl) dH3 ?_
    have hk:=hk.new kH3 (fun b hb=>by simp at hb ⊢;omega)
    have co:=kH3.cl co (by simp;omega)
    have cx:=kH3.cl cx (by simp;omega)
    have hs:=kH3.sl hs (fun b e=>by have:=fs b e;simp;omega)
    refine Za rfl<|Zb ?_
    show Zo _ _ _ _ _ _ _ _
    refine Zt (a:=1) (b:=1) rfl rfl ⟨by omega,by omega⟩<|Za rfl<|Zb ?_
    exact ⟨k - 1,2,by omega,⟨by omega,hk,co,cx,hs,by omega,hg⟩,rfl,rfl,rfl,ivq (by omega),trivial⟩
  ·have q4:¬ ((i:Int) < 2):=of_decide_eq_false q4
   obtain rfl:i=2:=by omega
   first | (refine ZC ?_;show wC _ _ _ _ _ _ _ _ _) | skip
   refine Zc<|Za rfl<|Za rfl<|Zb ?_
   exact And.intro trivial (Exists.intro _ (And.intro rfl ⟨bb,rfl,hk,⟨hbn,by unfold cellsOf;rw [hg,ZbR hl]⟩,by omega⟩))
set_option maxRecDepth 100000 in
set_option maxHeartbeats 1000000 in
theorem z6 {ds:List Dc} {sa:Option Addr} {n cap:Nat} (hs:Sl H sa n cap (dcc ds)) (hl:ds.length=n) (hn:n≤1000000) (hlo:lo≤H.next) (h35:kn.b 35=none) {days limit day:Int}:∃ H',FnX Try.prog kn lo 14 [.slice sa n cap,iv days,iv limit,iv day] H (.tuple #[iv (alT ds days limit day).1,iv (alT ds days limit day).2]) H'∧Zh H H' []:=by
 have key:=Zp (kn:=kn) (lo:=lo) (H:=H) (args:=[.slice sa n cap,iv days,iv limit,iv day]) (Q:=fun w H'=>w=(.tuple #[iv (alT ds days limit day).1,iv (alT ds days limit day).2])∧Zh H H' []) Try.func14 B14 N14 Z14 L14 (by simp) ?_
 ·obtain ⟨w,H',h,rfl,q⟩:=key;exact ⟨H',h,q⟩
 have hk:=Zh.refl H []
 have fs:=hs.old
 refine Zc<|Za rfl<|Za rfl<|Zb<|Zc<|Za rfl<|Zu rfl (Zch hs hl hn (by omega)) ?_
 intro tH1 H1 hH1 kH1
 have mH1:=kH1.1
 have hk:=hk.trans kH1
 have hs:=kH1.sl0 hs
 cases tH1
 ·have hvd:vD ds=false:=hH1
  refine Zd (v:=.bool true) rfl rfl<|Zb<|ZN<|Zc<|Za rfl<|Za rfl<|Zb ?_
  exact And.intro trivial (Exists.intro _ (And.intro rfl ⟨X1 (Zco hvd),hk⟩))
 ·have hvd:vD ds=true:=hH1
  obtain ⟨hl64,hany⟩:=Zbm hvd
  have hbd:=VJ hany
  refine Zd (v:=.bool false) rfl rfl<|Zb<|ZK ?_
  first | refine Zj ?_ | skip
  refine Zc<|Za rfl<|Zu rfl (K5) ?_
  intro tH2 H2 hH2 kH2
  have mH2:=kH2.1
  have hk:=hk.trans kH2
  have hs:=kH2.sl0 hs
  cases tH2
  ·have thH2:inB days 1 366=false:=hH2
   have uhH2:=Xh thH2
   refine Zd (v:=.bool true) rfl rfl<|Za rfl<|Zg rfl<|Zg rfl<|Zg rfl<|Zd (v:=.bool true) rfl rfl<|Za rfl<|Zg rfl<|Zg rfl<|Zg rfl<|Zd (v:=.bool true) rfl rfl<|Zb<|ZN<|Zc<|Za rfl<|Za rfl<|Zb ?_
   exact And.intro trivial (Exists.intro _ (And.intro rfl ⟨X1 (JY hvd (by first | exact .inl (by assumption) | exact .inr (.inl (by assumption)) | exact .inr (.inr (by assumption)))),hk⟩))
  ·have thH2:inB days 1 366=true:=hH2
   have uhH2:=Y0 thH2
   refine Zd (v:=.bool false) rfl rfl<|Za rfl ?_
   refine Zm rfl (Za rfl ?_)
   refine Zm rfl (Zu rfl (XG) ?_)
   intro tH3 H3 hH3 kH3
   have mH3:=kH3.1
   have hk:=hk.trans kH3
   have hs:=kH3.sl0 hs
   cases tH3
   ·have thH3:inB limit 0 72057594037927936=false:=hH3
    have uhH3:=Xh thH3
    refine Zm rfl (Zd (v:=.bool true) rfl rfl ?_)
    refine Zd (v:=.bool true) rfl rfl<|Za rfl<|Zg rfl<|Zg rfl<|Zg rfl<|Zd (v:=.bool true) rfl rfl<|Zb<|ZN<|Zc<|Za rfl<|Za rfl<|Zb ?_
    exact And.intro trivial (Exists.intro _ (And.intro rfl ⟨X1 (JY hvd (by first | exact .inl (by assumption) | exact .inr (.inl (by assumption)) | exact .inr (.inr (by assumption)))),hk⟩))
   ·have thH3:inB limit 0 72057594037927936=true:=hH3
    have uhH3:=Y0 thH3
    refine Zm rfl (Zd (v:=.bool false) rfl rfl ?_)
    refine Zd (v:=.bool false) rfl rfl<|Za rfl ?_
    refine Zm rfl (Za rfl ?_)
    refine Zm rfl (Zu rfl (XG) ?_)
    intro tH4 H4 hH4 kH4
    have mH4:=kH4.1
    have hk:=hk.trans kH4
    have hs:=kH4.sl0 hs
    cases tH4
    ·have thH4:inB day 0 16384=false:=hH4
     have uhH4:=Xh thH4
     refine Zm rfl (Zd (v:=.bool true) rfl rfl ?_)
     refine Zd (v:=.bool true) rfl rfl<|Zb<|ZN<|Zc<|Za rfl<|Za rfl<|Zb ?_
     exact And.intro trivial (Exists.intro _ (And.intro rfl ⟨X1 (JY hvd (by first | exact .inl (by assumption) | exact .inr (.inl (by assumption)) | exact .inr (.inr (by assumption)))),hk⟩))
    ·have thH4:inB day 0 16384=true:=hH4
     have uhH4:=Y0 thH4
     refine Zm rfl (Zd (v:=.bool false) rfl rfl ?_)
     refine Zd (v:=.bool false) rfl rfl<|Zb<|ZK ?_
     first | refine Zj ?_ | skip
     refine Zc<|Za rfl<|Za rfl<|Zd (v:=.agg #[iv day,iv 0,iv 0,iv 0,iv 0]) rfl (by kernel_rfl) ?_
     obtain ⟨H5,hH5⟩:∃ H5,H4.new (.cells [iv day,iv 0,iv 0,iv 0,iv 0] 52 false)=H5:=⟨_,rfl⟩
     refine YD (H':=H5) (k:=.heavy) rfl (by kernel_rfl) ((Xz (v:=.agg #[iv day,iv 0,iv 0,iv 0,iv 0]) Za8 Zdb rfl rfl rfl (by decide)).trans (by rw [← hH5];rfl)) (fun b e=>by cases e) ?_
     obtain ⟨kH5,nH5,c5⟩:=Yg hH5;clear hH5
     have c5:Cl H5 H4.next [iv day,iv 0,iv 0,iv 0,iv 0]:=c5
     have mH5:=kH5.1
     have hk:=hk.trans kH5
     have hs:=kH5.sl0 hs
     obtain ⟨H6,hH6⟩:∃ H6,H5.new (.cells [.slice sa n cap,.slice (some ⟨H4.next,0,none⟩) 1 1] 22 false)=H6:=⟨_,rfl⟩
     refine YD (H':=H6) (k:=.heavy) rfl (by kernel_rfl) ((Za7 (a:=sa) (m:=n) (c:=cap) (a2:=some ⟨H4.next,0,none⟩) (m2:=1) (c2:=1) rfl rfl).trans (by rw [← hH6])) (fun b e=>by cases e) ?_
     obtain ⟨kH6,nH6,c6⟩:=Yg hH6;clear hH6
     have c6:Cl H6 H5.next [.slice sa n cap,.slice (some ⟨H4.next,0,none⟩) 1 1]:=c6
     have mH6:=kH6.1
     have hk:=hk.trans kH6
     have hs:=kH6.sl0 hs
     have c5:=kH6.cl c5 (by simp)
     obtain ⟨nb,H7,fH7,kH7,hnb,hnl⟩:=jP (kn:=kn) (lo:=lo) (H:=H6) (x:=⟨day,0,0,0,0⟩) c6 c5 hs hl (by omega) (by omega)
     refine Zi (vs:=[.slice (some ⟨H5.next,0,none⟩) 2 2]) rfl (Zf fH7) ?_
     have mH7:=kH7.1
     have hk:=hk.trans kH7
     have hs:=kH7.sl0 hs
     have c5:=kH7.cl c5 (by simp)
     have c6:=kH7.cl c6 (by simp)
     have hs2:Sl H7 (some ⟨nb,0,none⟩) (n+1) (n+1) (dcc (ds ++ [⟨day,0,0,0,0⟩])):=.inr ⟨nb,rfl,hnb,Nat.le_refl _⟩
     have hbd2:∀ d,d∈ds ++ [(⟨day,0,0,0,0⟩:Dc)]→YI d=false:=fun d hd=>by rcases List.mem_append.1 hd with q | q;exact hbd d q;rw [List.mem_singleton] at q;subst q;simp [YI,inB,spB];omega
     have fs2:∀ b,some (⟨nb,0,none⟩:Addr)=some ⟨b,0,none⟩→b < H7.next:=hs2.old
     refine Za rfl<|Zb<|Zc ?_
     obtain ⟨H8,fH8,kH8⟩:=Qo (kn:=kn) (lo:=lo) (H:=H7)
     refine Zi (vs:=[]) rfl (YR h35 fH8) ?_
     have mH8:=kH8.1
     have hk:=hk.trans kH8
     have hs:=kH8.sl0 hs
     have c5:=kH8.cl c5 (by simp)
     have c6:=kH8.cl c6 (by simp)
     have hs2:=kH8.sl0 hs2
     refine Za rfl<|Zd (v:=.func (.func 57) #[] #[]) rfl (by kernel_rfl)<|Zd (v:=.func (.func 58) #[] #[]) rfl (by kernel_rfl)<|Za rfl<|Za rfl<|Zb<|Zc<|Za rfl<|Za rfl ?_
     obtain ⟨aH9,cH9,qsH9,H9,fH9,kH9,hsH9,hpH9,hoH9,hbH9⟩:=Wv (kn:=kn) (lo:=lo) (H:=H8) hs2 (by rw [List.length_append,hl];rfl) (by omega) hbd2 (by omega) Zac
     refine Zi (vs:=[.slice (some ⟨nb,0,none⟩) (n+1) (n+1),.func (.func 58) #[] #[]]) rfl (Zf fH9) ?_
     have mH9:=kH9.1
     have hk:=hk.trans kH9
     have hs:=kH9.sl0 hs
     have c5:=kH9.cl c5 (by simp)
     have c6:=kH9.cl c6 (by simp)
     have hs2:=kH9.sl0 hs2
     have fsH9:=hsH9.old;have hnH9:qsH9.length=n+1:=by rw [hpH9.length_eq,Zx,List.length_append,hl];rfl
     have hvH9:Vl qsH9:=(U8 UG hbd2).sub fun p hp=>hpH9.subset hp
     have hyH9:Dy qsH9:=(V4 hbd2 (g:=gHi)).sub fun p hp=>hpH9.subset hp
     have hpp:prt gHi (ds ++ [(⟨day,0,0,0,0⟩:Dc)])=prt gHi ds ++ [⟨day,0⟩]:=by unfold prt;rw [List.map_append];rfl
     refine Za rfl<|Za rfl ?_
     obtain ⟨rH10,H10,fH10,kH10,hFH10⟩:=Qn (kn:=kn) (lo:=lo) (H:=H9) hsH9 hnH9 (by omega) hvH9 hyH9 (days:=days) (by omega) (by omega) (day:=day) (by omega)
     refine Zi (vs:=[.slice aH9 (n+1) cH9,iv days,iv day]) rfl (Zf fH10) ?_
     have mH10:=kH10.1
     have hk:=hk.trans kH10
     have hs:=kH10.sl0 hs
     have c5:=kH10.cl c5 (by simp)
     have c6:=kH10.cl c6 (by simp)
     have hs2:=kH10.sl0 hs2
     have hsH9:=kH10.sl0 hsH9
     rw [hpp] at hpH9;rw [← hnH9,ZcZ (l:=prt gHi ds) (n:=days.toNat) hpH9 hoH9 (by omega) (by omega) (fun p hp=>(hvH9 p hp).1)] at hFH10;subst hFH10;have hgx:=yY (days:=days) (day:=day) (k:=days.toNat) hbd (by omega)
     refine Za rfl<|Zb<|Zc<|Za rfl<|Za rfl<|YW (a:=(gmx (prt gHi ds) days day days.toNat)) (b:=limit) rfl rfl<|Zb ?_
     refine And.intro (fun q1=>?_) (fun q1=>?_)
     ·have q1:(gmx (prt gHi ds) days day days.toNat) > limit:=of_decide_eq_true q1
      refine Zc<|Za rfl<|Za rfl<|Zb ?_
      exact And.intro trivial (Exists.intro _ (And.intro rfl ⟨X1 (ZaD hvd (by assumption) (by assumption) (by assumption) (by omega)),hk⟩))
     ·have q1:¬ ((gmx (prt gHi ds) days day days.toNat) > limit):=of_decide_eq_false q1
      first | refine Zj ?_ | skip
      refine Zc<|Za rfl<|Za rfl<|YC (a:=limit) (b:=(gmx (prt gHi ds) days day days.toNat)) rfl rfl ⟨by omega,by omega⟩<|Za rfl<|Za rfl<|Zb ?_
      exact And.intro trivial (Exists.intro _ (And.intro rfl ⟨X1 (Zb9 hvd (by assumption) (by assumption) (by assumption) (by omega)),hk⟩))
set_option maxRecDepth 100000 in
set_option maxHeartbeats 1000000 in
theorem zo {ds:List Dc} {sa:Option Addr} {n cap:Nat} (hs:Sl H sa n cap (dcc ds)) (hl:ds.length=n) (hn:n≤1000000) (hlo:lo≤H.next) {days limit day:Int}:∃ H',FnX Try.prog kn lo 15 [.slice sa n cap,iv days,iv limit,iv day] H (.tuple #[iv (alT ds days limit day).1,iv (alT ds days limit day).2]) H'∧Zh H H' []:=by
 have key:=Zp (kn:=kn) (lo:=lo) (H:=H) (args:=[.slice sa n cap,iv days,iv limit,iv day]) (Q:=fun w H'=>w=(.tuple #[iv (alT ds days limit day).1,iv (alT ds days limit day).2])∧Zh H H' []) Try.func15 B15 N15 Z15 L15 (by simp) ?_
 ·obtain ⟨w,H',h,rfl,q⟩:=key;exact ⟨H',h,q⟩
 have hk:=Zh.refl H []
 have fs:=hs.old
 refine Zc<|Za rfl<|Za rfl<|Zb<|Zc<|Za rfl<|Zu rfl (qy hs hl hn (by omega)) ?_
 intro tH1 H1 hH1 kH1
 have mH1:=kH1.1
 have hk:=hk.trans kH1
 have hs:=kH1.sl0 hs
 cases tH1
 ·have hvd:vD ds=false:=hH1
  refine Zd (v:=.bool true) rfl rfl<|Zb<|ZN<|Zc<|Za rfl<|Za rfl<|Zb ?_
  exact And.intro trivial (Exists.intro _ (And.intro rfl ⟨X1 (Zco hvd),hk⟩))
 ·have hvd:vD ds=true:=hH1
  obtain ⟨hl64,hany⟩:=Zbm hvd
  have hbd:=VJ hany
  refine Zd (v:=.bool false) rfl rfl<|Zb<|ZK ?_
  first | refine Zj ?_ | skip
  refine Zc<|Za rfl<|Zu rfl (WW) ?_
  intro tH2 H2 hH2 kH2
  have mH2:=kH2.1
  have hk:=hk.trans kH2
  have hs:=kH2.sl0 hs
  cases tH2
  ·have thH2:inB days 1 366=false:=hH2
   have uhH2:=Xh thH2
   refine Zd (v:=.bool true) rfl rfl<|Za rfl<|Zg rfl<|Zg rfl<|Zg rfl<|Zd (v:=.bool true) rfl rfl<|Za rfl<|Zg rfl<|Zg rfl<|Zg rfl<|Zd (v:=.bool true) rfl rfl<|Zb<|ZN<|Zc<|Za rfl<|Za rfl<|Zb ?_
   exact And.intro trivial (Exists.intro _ (And.intro rfl ⟨X1 (JY hvd (by first | exact .inl (by assumption) | exact .inr (.inl (by assumption)) | exact .inr (.inr (by assumption)))),hk⟩))
  ·have thH2:inB days 1 366=true:=hH2
   have uhH2:=Y0 thH2
   refine Zd (v:=.bool false) rfl rfl<|Za rfl ?_
   refine Zm rfl (Za rfl ?_)
   refine Zm rfl (Zu rfl (WW) ?_)
   intro tH3 H3 hH3 kH3
   have mH3:=kH3.1
   have hk:=hk.trans kH3
   have hs:=kH3.sl0 hs
   cases tH3
   ·have thH3:inB limit 0 72057594037927936=false:=hH3
    have uhH3:=Xh thH3
    refine Zm rfl (Zd (v:=.bool true) rfl rfl ?_)
    refine Zd (v:=.bool true) rfl rfl<|Za rfl<|Zg rfl<|Zg rfl<|Zg rfl<|Zd (v:=.bool true) rfl rfl<|Zb<|ZN<|Zc<|Za rfl<|Za rfl<|Zb ?_
    exact And.intro trivial (Exists.intro _ (And.intro rfl ⟨X1 (JY hvd (by first | exact .inl (by assumption) | exact .inr (.inl (by assumption)) | exact .inr (.inr (by assumption)))),hk⟩))
   ·have thH3:inB limit 0 72057594037927936=true:=hH3
    have uhH3:=Y0 thH3
    refine Zm rfl (Zd (v:=.bool false) rfl rfl ?_)
    refine Zd (v:=.bool false) rfl rfl<|Za rfl ?_
    refine Zm rfl (Za rfl ?_)
    refine Zm rfl (Zu rfl (WW) ?_)
    intro tH4 H4 hH4 kH4
    have mH4:=kH4.1
    have hk:=hk.trans kH4
    have hs:=kH4.sl0 hs
    cases tH4
    ·have thH4:inB day 0 16384=false:=hH4
     have uhH4:=Xh thH4
     refine Zm rfl (Zd (v:=.bool true) rfl rfl ?_)
     refine Zd (v:=.bool true) rfl rfl<|Zb<|ZN<|Zc<|Za rfl<|Za rfl<|Zb ?_
     exact And.intro trivial (Exists.intro _ (And.intro rfl ⟨X1 (JY hvd (by first | exact .inl (by assumption) | exact .inr (.inl (by assumption)) | exact .inr (.inr (by assumption)))),hk⟩))
    ·have thH4:inB day 0 16384=true:=hH4
     have uhH4:=Y0 thH4
     refine Zm rfl (Zd (v:=.bool false) rfl rfl ?_)
     refine Zd (v:=.bool false) rfl rfl<|Zb<|ZK ?_
     first | refine Zj ?_ | skip
     refine Zc<|Za rfl<|Zb<|Zc<|Za rfl<|Za rfl<|Zb ?_
     refine ZA (fn:=Try.f15) Zdv N15 ZdT (fun i:Nat=>[(0,.slice sa n cap),(1,iv days),(2,iv limit),(3,iv day),(10,iv (gmx (prt gHi ds) days day i)),(11,iv (day+(i:Int)))])
      (fun k i H'=>i+k=days.toNat∧Zh H H' []∧Sl H' sa n cap (dcc ds)) days.toNat 0 ⟨by omega,hk,hs⟩ ⟨rfl,rfl,rfl,rfl,rfl,ivq (by omega),trivial⟩ ?_
     rintro k i L1 ⟨hik,hk,hs⟩
     have mk:=hk.1;have hgx:=yY (days:=days) (day:=day) (k:=i) hbd (by omega)
     refine Zc<|Za rfl<|Za rfl<|Za rfl<|Zt (a:=day) (b:=days) rfl rfl ⟨by omega,by omega⟩<|ZB (a:=(day+(i:Int))) (b:=day+days) rfl rfl<|Zb ?_
     refine And.intro (fun q1=>?_) (fun q1=>?_)
     ·have q1:(day+(i:Int)) < (day+days):=of_decide_eq_true q1
      have hi:i < days.toNat:=by omega
      first | refine Zj ?_ | skip
      show Zo _ _ _ _ _ _ _ _
      refine Za rfl<|Za rfl<|Za rfl<|Za rfl ?_
      obtain ⟨H5,fH5,kH5⟩:=Q4 (kn:=kn) (lo:=lo) (H:=L1) hs hl (by omega) (by omega) hbd (days:=days) (D:=(day+(i:Int))) (by omega) (by omega)
      refine Zi (vs:=[.slice sa n cap,iv days,iv (day+(i:Int))]) rfl (Zf fH5) ?_
      have mH5:=kH5.1
      have hk:=hk.trans kH5
      have hs:=kH5.sl0 hs
      refine Zd (v:=iv (ZG (prt gHi ds) days (day+(i:Int)))) rfl (by kernel_rfl)<|qC (a:=(gmx (prt gHi ds) days day i)) (b:=(ZG (prt gHi ds) days (day+(i:Int)))) rfl rfl<|Za rfl<|Zb ?_
      show Zo _ _ _ _ _ _ _ _
      refine Za rfl<|Zt (a:=(day+(i:Int))) (b:=1) rfl rfl ⟨by omega,by omega⟩<|Za rfl<|Zb ?_
      exact ⟨k - 1,i+1,by omega,⟨by omega,hk,hs⟩,rfl,rfl,rfl,rfl,ivq rfl,ivq (by omega),trivial⟩
     ·have q1:¬ ((day+(i:Int)) < (day+days)):=of_decide_eq_false q1
      obtain rfl:i=days.toNat:=(by omega);have hgx:=yY (days:=days) (day:=day) (k:=days.toNat) hbd (by omega)
      first | (refine ZC ?_;show wC _ _ _ _ _ _ _ _ _) | skip
      refine Zc<|Za rfl<|Za rfl<|YW (a:=(gmx (prt gHi ds) days day days.toNat)) (b:=limit) rfl rfl<|Zb ?_
      refine And.intro (fun q2=>?_) (fun q2=>?_)
      ·have q2:(gmx (prt gHi ds) days day days.toNat) > limit:=of_decide_eq_true q2
       refine Zc<|Za rfl<|Za rfl<|Zb ?_
       exact And.intro trivial (Exists.intro _ (And.intro rfl ⟨X1 (ZaD hvd (by assumption) (by assumption) (by assumption) (by omega)),hk⟩))
      ·have q2:¬ ((gmx (prt gHi ds) days day days.toNat) > limit):=of_decide_eq_false q2
       first | refine Zj ?_ | skip
       refine Zc<|Za rfl<|Za rfl<|YC (a:=limit) (b:=(gmx (prt gHi ds) days day days.toNat)) rfl rfl ⟨by omega,by omega⟩<|Za rfl<|Za rfl<|Zb ?_
       exact And.intro trivial (Exists.intro _ (And.intro rfl ⟨X1 (Zb9 hvd (by assumption) (by assumption) (by assumption) (by omega)),hk⟩))
end
end
end Go.Ax

/-! The array of the days that are closed. -/
namespace Go.Ax
open Go Go.RowKit Go.Proofs
def isF:Value→Bool | .bool false=>true | _=>false
theorem zk:yS.length=16385:=by kernel_rfl
theorem Zay:yS.all isF=true:=by kernel_rfl
theorem ZaK {i:Nat} (h:i < 16385):yS[i]? = some (.bool false):=by
 have hi:i < yS.length:=by rw [zk];exact h
 rw [List.getElem?_eq_getElem hi]
 have:=List.all_eq_true.1 Zay _ (List.getElem_mem hi)
 revert this
 cases yS[i] with
 | bool b=>cases b<;>simp [isF]
 | _=>simp [isF]
def cB (n:Nat) (g:Nat→Bool):List Value:=(List.range n).map fun k=>.bool (g k)
theorem ZaH {n:Nat} {g:Nat→Bool}:(cB n g).length=n:=by simp [cB]
theorem Zb7 {n k:Nat} {g:Nat→Bool} (h:k < n):(cB n g)[0+k * 1]? = some (.bool (g k)):=by
 rw [Nat.mul_one,Nat.zero_add];simp [cB,h]
def yz (g:Nat→Bool) (k:Nat):Nat→Bool:=fun j=>if j=k then true else g j
theorem ZcQ {n k:Nat} {g:Nat→Bool} (h:k < n):(cB n g).set (0+k * 1) (.bool true)=cB n (yz g k):=by
 rw [Nat.mul_one,Nat.zero_add]
 refine List.ext_getElem? fun i=>?_
 rw [List.getElem?_set]
 unfold cB yz
 by_cases e:k=i
 ·subst e;simp [h]
 ·have e2:¬ i=k:=fun q=>e q.symm
  simp only [e,if_false,List.getElem?_map]
  rcases Nat.lt_or_ge i n with q | q
  ·simp [List.getElem?_range,q,e2]
  ·simp [List.getElem?_eq_none,q]
theorem ZbU:yS=cB 16385 fun _=>false:=by
 refine List.ext_getElem? fun i=>?_
 rcases Nat.lt_or_ge i 16385 with q | q
 ·rw [ZaK q]
  have:=Zb7 (n:=16385) (g:=fun _=>false) q
  rw [Nat.mul_one,Nat.zero_add] at this
  exact this.symm
 ·rw [List.getElem?_eq_none (by rw [zk];exact q),List.getElem?_eq_none (by rw [ZaH];exact q)]
end Go.Ax

/-
 Pool: days that are open (written by program).
-/
namespace Go.Ax
open Go Go.RowKit Go.Proofs

noncomputable section
def cI (l:List Int):List Value:=l.map iv
theorem qe {l:List Int}:(cI l).length=l.length:=by simp [cI]
theorem Zav {a b:List Int}:cI (a ++ b)=cI a ++ cI b:=by simp [cI]
theorem zM {l:List Int} {i:Nat} (h:i < l.length):(cI l)[0+i * 1]? = some (iv (l.getD i 0)):=by
 rw [Nat.mul_one,Nat.zero_add];simp [cI,h]
def nsB (reach D:Int) (n:Ns):Bool:=decide (n.r=reach) && inB D n.a n.b
def frB (ns:List Ns) (reach D:Int):Bool:=!ns.any (nsB reach D)
def cls (ns:List Ns) (reach:Int) (i:Nat):Nat→Bool:=fun k=>(ns.take i).any (nsB reach k)
def zL (ns:List Ns) (reach:Int) (i:Nat) (d:Int):Nat→Bool:=fun k=>cls ns reach i k || (decide ((ns.getD i Ns.z).r=reach) && decide ((ns.getD i Ns.z).a≤k) && decide ((k:Int) < d))
theorem ZaE {ns:List Ns} {reach:Int}:cls ns reach 0=fun _=>false:=by funext k;simp [cls]
theorem Zei {ns:List Ns} {reach:Int} {i:Nat} (h:i < ns.length):cls ns reach (i+1)=fun k=>cls ns reach i k || nsB reach k (ns.getD i Ns.z):=by
 funext k
 unfold cls
 rw [Xd (z:=Ns.z) h,List.any_append,List.any_cons,List.any_nil,Bool.or_false]
theorem yW {ns:List Ns} {reach:Int} {i:Nat}:zL ns reach i (ns.getD i Ns.z).a=cls ns reach i:=by
 funext k
 unfold zL
 have:(decide ((ns.getD i Ns.z).a≤(k:Int)) && decide ((k:Int) < (ns.getD i Ns.z).a))=false:=by
  rw [Bool.and_eq_false_iff,decide_eq_false_iff_not,decide_eq_false_iff_not];omega
 rw [Bool.and_assoc,this,Bool.and_false,Bool.or_false]
theorem jn {ns:List Ns} {reach d:Int} {i:Nat} (hr:(ns.getD i Ns.z).r=reach) (ha:(ns.getD i Ns.z).a≤d) (h0:0≤d):zL ns reach i (d+1)=yz (zL ns reach i d) d.toNat:=by
 funext k
 unfold yz zL
 by_cases e:k=d.toNat
 ·rw [if_pos e,decide_eq_true hr,decide_eq_true (show (ns.getD i Ns.z).a≤(k:Int) by omega),decide_eq_true (show (k:Int) < d+1 by omega)];simp
 ·rw [if_neg e]
  have:decide ((k:Int) < d+1)=decide ((k:Int) < d):=by
   by_cases q:(k:Int) < d
   ·rw [decide_eq_true q,decide_eq_true (show (k:Int) < d+1 by omega)]
   ·rw [decide_eq_false q,decide_eq_false (show ¬ (k:Int) < d+1 by omega)]
  rw [this]
theorem J8 {ns:List Ns} {reach d:Int} {i:Nat} (h:i < ns.length) (hd:(ns.getD i Ns.z).r=reach→d=(ns.getD i Ns.z).b+1):zL ns reach i d=cls ns reach (i+1):=by
 rw [Zei h]
 funext k
 unfold zL nsB inB
 by_cases hr:(ns.getD i Ns.z).r=reach
 ·have:decide ((k:Int) < d)=decide ((k:Int)≤(ns.getD i Ns.z).b):=by
   rw [hd hr]
   by_cases q:(k:Int)≤(ns.getD i Ns.z).b
   ·rw [decide_eq_true q,decide_eq_true (show (k:Int) < (ns.getD i Ns.z).b+1 by omega)]
   ·rw [decide_eq_false q,decide_eq_false (show ¬ (k:Int) < (ns.getD i Ns.z).b+1 by omega)]
  rw [this,Bool.and_assoc]
 ·rw [decide_eq_false hr];simp
theorem z0 {ns:List Ns} {reach D:Int} (h:0≤D):(!cls ns reach ns.length D.toNat)=frB ns reach D:=by
 unfold cls frB
 rw [List.take_length,show ((D.toNat:Nat):Int)=D by omega]
theorem Acc.lowf {lo f f':Nat} {e:TypeId} {H:Hp} {v:Value} {n:Nat} {cs:List Value} (h:Acc lo f e H v n cs) (hf:f'≤f):Acc lo f' e H v n cs:=
 h.imp id fun ⟨b,e1,h0,h2,r⟩=>⟨b,e1,h0,Nat.le_trans hf h2,r⟩
def opl (ns:List Ns) (reach frm:Int):Nat→List Int
 | 0=>[]
 | k+1=>if frB ns reach (frm+k) then opl ns reach frm k ++ [frm+k] else opl ns reach frm k
theorem Ky {ns:List Ns} {reach frm:Int}:∀ {k:Nat},(opl ns reach frm k).length≤k
 | 0=>Nat.le_refl 0
 | k+1=>by
  have:=Ky (ns:=ns) (reach:=reach) (frm:=frm) (k:=k)
  unfold opl
  split
  ·rw [List.length_append,List.length_singleton];omega
  ·omega
section
variable {P:Program} {lo:Nat}
theorem Qg {H:Hp} {t0 t1 e ep:TypeId} {size k cap2 f:Nat} {a:Option Addr} {v:Value} {cs news:List Value} (he:ZV P t0=some (e,size)) (ht:P.underlying t1=some (.slice ep))
  (hs:Sl H a 1 cap2 news) (hl:news.length=1 * size) (hz:0 < size) (hone:news.all one=true) (hcl:cs.length=k * size) (hk:k < 1000000) (ha:Acc lo f e H v k cs) (hlo:lo≤H.next) (hf:f≤H.next) :
  ∃ H1 kd,(∀ (n:Nat) (S:Rg) (d:Option Tmp) (x y:Operand) (ty:TypeId) (p:String),evS S x=some v→evS S y=some (.slice a 1 cap2)→Zr P lo (frS n S) H ⟨d,.call ⟨.builtin .append,#[x,y],#[t0,t1]⟩,ty,p,#[],none⟩=some (.val (.slice (some ⟨H.next,0,none⟩) (k+1) (k+1)) H1,kd))∧(kd=.heavy∨∃ b,kd=.store b∧f≤b)∧
   Acc lo f e H1 (.slice (some ⟨H.next,0,none⟩) (k+1) (k+1)) (k+1) (cs ++ news)∧XV f H H1:=by
 rcases ha with ⟨rfl,rfl,rfl⟩ | ⟨b,rfl,h0,hb,hlb,hn,hg⟩
 ·refine ⟨H.new (.cells news e true),.heavy,?_,.inl rfl,?_,?_⟩
  ·intro n S d x y ty p hx hy
   unfold Zr
   simp only [evs,Yf,hx,hy,Z1,List.getElem?_toArray,List.getElem?_cons_zero,List.getElem?_cons_succ,he,ht,W4 hs hl,ZO]
   rfl
  ·refine .inr ⟨H.next,rfl,by omega,hf,hlo,Nat.lt_succ_self _,?_⟩
   show (H.t.set H.next _).get H.next=_
   rw [Tr.get_set,if_pos rfl];rfl
  ·exact XV.of (Yg rfl).1 hf
 ·have h1:Nat.ble (0+(k+1) * size) cs.length=false:=by
   cases h:Nat.ble (0+(k+1) * size) cs.length with
   | false=>rfl
   | true=>have:=Nat.le_of_ble_eq_true h;rw [hcl,Nat.succ_mul] at this;omega
  have h2:Nat.beq (0+k * size) cs.length=true:=by rw [hcl,Nat.zero_add];exact Nat.beq_refl _
  have h3:Nat.ble (k+1) 1048576=true:=Nat.ble_eq_true_of_le (by omega)
  have h4:Nat.beq e e=true:=Nat.beq_refl e
  refine ⟨({ H with t:=H.t.set b .dead }:Hp).new (.cells (cs ++ news) e true),.store b,?_,.inr ⟨b,rfl,hb⟩,?_,?_⟩
  ·intro n S d x y ty p hx hy
   unfold Zr
   simp only [evs,Yf,hx,hy,Z1,List.getElem?_toArray,List.getElem?_cons_zero,List.getElem?_cons_succ,he,ht,W4 hs hl,ZO,hg,h1,h2,h3,h4,hone,Nat.ble_eq_true_of_le hlb,Bool.and_self,cond_true,cond_false,List.drop_zero,show Nat.beq 1 0=false from rfl]
  ·refine .inr ⟨H.next,rfl,by omega,hf,hlo,Nat.lt_succ_self _,?_⟩
   show ((H.t.set b .dead).set H.next _).get H.next=_
   rw [Tr.get_set,if_pos rfl]
  ·refine ⟨Nat.le_succ _,fun c hc=>?_,fun c xs hc hx=>?_⟩
   ·show ((H.t.set b .dead).set H.next _).get c=_
    rw [Tr.get_set,if_neg (by omega),Tr.get_set,if_neg (by omega)]
   ·have hx:((H.t.set b .dead).set H.next (.cells (cs ++ news) e true)).get c=some (.ro xs):=hx
    have hc:c < H.next+1:=hc
    rw [Tr.get_set] at hx
    split at hx
    ·cases hx
    ·rw [Tr.get_set] at hx
     split at hx
     ·cases hx
     ·exact ⟨by omega,hx⟩
end
section
variable {kn:Kn} {lo:Nat} {H:Hp}
theorem jJ {na:Option Addr} {nn ncap:Nat} {reach:Int} (hlo:lo≤H.next):∃ H',FnX Try.prog kn lo 73 [.slice na nn ncap,iv reach] H (.func (.func 81) #[] #[pt H.next,pt (H.next+1)]) H'∧Rd H' H.next [.slice na nn ncap]∧Rd H' (H.next+1) [iv reach]∧H'.next=H.next+2∧Zh H H' []:=by
 have key:=Zp (kn:=kn) (lo:=lo) (H:=H) (args:=[.slice na nn ncap,iv reach]) (Q:=fun w H'=>w=(.func (.func 81) #[] #[pt H.next,pt (H.next+1)])∧Rd H' H.next [.slice na nn ncap]∧Rd H' (H.next+1) [iv reach]∧H'.next=H.next+2∧Zh H H' []) Try.func73 B73 N73 Z73 L73 (by simp) ?_
 ·obtain ⟨w,H',h,rfl,q⟩:=key;exact ⟨H',h,q⟩
 refine Zc (Yl (v:=.slice na nn ncap) rfl fun H1 k1 n1 c1=>Yl (v:=iv reach) rfl fun H2 k2 n2 c2=>Za rfl (Zb ?_))
 rw [n1] at c2
 refine Zc (Zd (v:=.func (.func 81) #[] #[pt H.next,pt H1.next]) rfl (by kernel_rfl) (Za rfl (Zb ?_)))
 exact ⟨True.intro,[.func (.func 81) #[] #[pt H.next,pt H1.next]],rfl,by rw [n1];rfl,(k2.cl c1 (by simp)).rd,c2.rd,by omega,k1.trans k2⟩
set_option maxRecDepth 100000 in
theorem jo {J:(Nat→Bool)→Hp→Prop} {base:Nat} {Wy:List Nat} {l bL bG nn ncap:Nat} {na:Option Addr} {ns:List Ns} {reach:Int} (hm:ns.length=nn) (hm2:nn≤1000000) (hbd:ns.any XR=false) (hlb:lo≤base) (hW:∀ x∈Wy,x < base) (jm:∀ g H1 H2 W,J g H1→Zh H1 H2 W→(∀ x∈W,base≤x)→J g H2)
  (je:∀ g H1,J g H1→Rd H1 bL [.slice na nn ncap]∧Rd H1 bG [iv reach]∧Sl H1 na nn ncap (nsc ns)∧bL < base∧bG < base∧∀ b,na=some ⟨b,0,none⟩→b < base)
  (step:∀ g d H1,0≤d→d≤16384→J g H1→base≤H1.next→∃ H2,Xe Try.prog kn lo (.fn (.yield l) #[]) [iv d] H1 (.bool true) H2∧J (yz g d.toNat) H2∧Zh H1 H2 Wy)
  (hbn:base≤H.next) (hJ:J (fun _=>false) H) :
  ∃ H',FnX Try.prog kn lo 81 [.func (.yield l) #[] #[],pt bL,pt bG] H ZdZ H'∧J (cls ns reach ns.length) H':=by
 have key:=Zp (kn:=kn) (lo:=lo) (H:=H) (args:=[.func (.yield l) #[] #[],pt bL,pt bG]) (Q:=fun w H'=>w=ZdZ∧J (cls ns reach ns.length) H') Try.func81 B81 N81 Z81 L81 (by simp) ?_
 ·obtain ⟨w,H',h,rfl,q⟩:=key;exact ⟨H',h,q⟩
 obtain ⟨rL,rG,hs,lL,lG,fb⟩:=je _ _ hJ
 have fs:=hs.old
 refine Zc<|Zy (b:=bL) (o:=0) (v:=.slice na nn ncap) rfl rL rfl<|Yd (m:=nn) rfl<|Za rfl<|Zb ?_
 refine ZA (fn:=Try.f81) ZdP N81 ZdU (fun i:Nat=>[(0,.func (.yield l) #[] #[]),(1,pt bL),(2,pt bG),(7,.slice na nn ncap),(8,iv (nn:Int)),(9,iv (i:Int))])
  (fun k i H'=>i+k=nn∧J (cls ns reach i) H'∧base≤H'.next) nn 0 ⟨by omega,by rw [ZaE];exact hJ,hbn⟩ ⟨rfl,rfl,rfl,rfl,rfl,rfl,trivial⟩ ?_
 rintro k i L1 ⟨hik,hJ,hbn⟩
 obtain ⟨rL,rG,hs,lL,lG,fb⟩:=je _ _ hJ;have fs:=hs.old
 refine Zc<|ZB (a:=(i:Int)) (b:=(nn:Int)) rfl rfl<|Zb ?_
 refine And.intro (fun q1=>?_) (fun q1=>?_)
 ·have q1:(i:Int) < (nn:Int):=of_decide_eq_true q1
  have hi:i < nn:=by omega
  rcases id hs with ⟨_,h0s,_⟩ | ⟨sb,es,rs,_⟩
  ·omega
  have ls:=rs.1
  have lsb2:=fs sb es;have lsb3:=fb sb es;have hbi:=Zcz (VJ hbd _ (Xi (z:=Ns.z) (l:=ns) (i:=i) (by omega)))
  first | refine Zj ?_ | skip
  refine Zc<|Z0 (b:=sb) (o:=0) (k:=i) (j:=(i:Int)) (by rw [← es];rfl) rfl rfl hi<|ZP (b:=sb) (o:=0+i * 3) rfl rs (zj (by omega))<|Yq ?_
  intro H1 kH1 nH1 c1
  have c1:Cl H1 L1.next [iv 0,iv 0,iv 0]:=c1
  have mH1:=kH1.1
  have hJ:=jm _ _ _ _ hJ kH1 (fun x hx=>by first | (simp at hx;done) | (simp at hx;omega))
  have rL:=kH1.rd rL (by simp)
  have rG:=kH1.rd rG (by simp)
  have hs:=kH1.sl0 hs
  have rs:=kH1.rd rs (by simp)
  refine Z6 (b:=L1.next) (o:=0) rfl rfl c1 (by omega) rfl rfl (by simp) ?_
  intro H2 kH2 nH2 sH2
  have mH2:=kH2.1
  have hJ:=jm _ _ _ _ hJ kH2 (fun x hx=>by first | (simp at hx;done) | (simp at hx;omega))
  have rL:=kH2.rd rL (by first | (simp;done) | (simp;omega))
  have rG:=kH2.rd rG (by first | (simp;done) | (simp;omega))
  have hs:=kH2.sl hs (fun b e=>by have:=fs b e;first | (simp;done) | (simp;omega))
  have rs:=kH2.rd rs (by first | (simp;done) | (simp;omega))
  have c1:Cl H2 L1.next [iv ((ns.getD i Ns.z).r),iv ((ns.getD i Ns.z).a),iv ((ns.getD i Ns.z).b)]:=sH2
  refine Zb<|Zc<|Zn (b:=L1.next) (o:=0) rfl<|Zy (b:=L1.next) (o:=1) (v:=iv ((ns.getD i Ns.z).a)) rfl c1.rd rfl<|Za rfl<|Zb ?_
  rw [← yW] at hJ
  refine ZA (fn:=Try.f81) Zew N81 Zdw (fun d:Int=>[(0,.func (.yield l) #[] #[]),(1,pt bL),(2,pt bG),(5,pt L1.next),(6,iv d),(7,.slice na nn ncap),(8,iv (nn:Int)),(9,iv (i:Int))])
   (fun k d H'=>(ns.getD i Ns.z).a≤d∧d≤(ns.getD i Ns.z).b+1∧k=((ns.getD i Ns.z).b+1 - d).toNat∧J (zL ns reach i d) H'∧L1.next < H'.next∧base≤L1.next∧Cl H' L1.next [iv (ns.getD i Ns.z).r,iv (ns.getD i Ns.z).a,iv (ns.getD i Ns.z).b]) _ (ns.getD i Ns.z).a ⟨by omega,by omega,rfl,hJ,by omega,by omega,c1⟩ ⟨rfl,rfl,rfl,rfl,rfl,rfl,rfl,rfl,trivial⟩ ?_
  rintro k2 d L2 ⟨hd1,hd2,rfl,hJ,hnx,hb5,c5⟩
  obtain ⟨rL,rG,hs,lL,lG,fb⟩:=je _ _ hJ;have fs:=hs.old
  refine Zc<|Zn (b:=L1.next) (o:=0) rfl<|Zy (b:=L1.next) (o:=0) (v:=iv ((ns.getD i Ns.z).r)) rfl c5.rd rfl<|Zy (b:=bG) (o:=0) (v:=iv reach) rfl rG rfl<|QL (a:=(ns.getD i Ns.z).r) (b:=reach) rfl rfl ?_
  intro t2 g2;cases t2
  ·have g2:¬ (((ns.getD i Ns.z).r)=reach):=by simpa using g2
   refine Za rfl<|Zg rfl<|Zg rfl<|Zg rfl<|Zg rfl<|Zd (v:=.bool false) rfl rfl<|Zb<|ZK ?_
   rw [J8 (by omega) (fun q=>by omega)] at hJ
   first | (refine ZC ?_;show wC _ _ _ _ _ _ _ _ _) | skip
   show Zo _ _ _ _ _ _ _ _
   refine Zt (a:=(i:Int)) (b:=1) rfl rfl ⟨by omega,by omega⟩<|Za rfl<|Zb ?_
   exact ⟨k - 1,i+1,by omega,⟨by omega,hJ,by omega⟩,rfl,rfl,rfl,rfl,rfl,ivq (by omega),trivial⟩
  ·have g2:((ns.getD i Ns.z).r)=reach:=by simpa using g2
   refine Za rfl ?_
   refine Zm rfl (Za rfl ?_)
   refine Zm rfl (Zn (b:=L1.next) (o:=0) rfl ?_)
   refine Zm rfl (Zy (b:=L1.next) (o:=2) (v:=iv ((ns.getD i Ns.z).b)) rfl c5.rd rfl ?_)
   refine Zm rfl (XD (a:=d) (b:=(ns.getD i Ns.z).b) rfl rfl ?_)
   intro t3 g3;cases t3
   ·have g3:¬ (d≤((ns.getD i Ns.z).b)):=of_decide_eq_false g3
    refine Zd (v:=.bool false) rfl rfl<|Zb<|ZK ?_
    rw [J8 (by omega) (fun q=>by omega)] at hJ
    first | (refine ZC ?_;show wC _ _ _ _ _ _ _ _ _) | skip
    show Zo _ _ _ _ _ _ _ _
    refine Zt (a:=(i:Int)) (b:=1) rfl rfl ⟨by omega,by omega⟩<|Za rfl<|Zb ?_
    exact ⟨k - 1,i+1,by omega,⟨by omega,hJ,by omega⟩,rfl,rfl,rfl,rfl,rfl,ivq (by omega),trivial⟩
   ·have g3:d≤((ns.getD i Ns.z).b):=of_decide_eq_true g3
    refine Zd (v:=.bool true) rfl rfl<|Zb<|ZN ?_
    first | refine Zj ?_ | skip
    refine Zc<|Za rfl<|Za rfl ?_
    obtain ⟨H3,fH3,hJ,kH3⟩:=step _ d L2 (by omega) (by omega) hJ (by omega)
    refine Zi (vs:=[iv d]) rfl fH3 ?_
    have mH3:=kH3.1;have c5:=kH3.cl c5 (fun hx=>by have:=hW _ hx;omega)
    refine Zd (v:=.bool false) rfl rfl<|Zb<|ZK ?_
    first | refine Zj ?_ | skip
    show Zo _ _ _ _ _ _ _ _
    refine Za rfl<|Zt (a:=d) (b:=1) rfl rfl ⟨by omega,by omega⟩<|Za rfl<|Zb ?_
    exact ⟨_,d+1,by omega,⟨by omega,by omega,rfl,by rw [jn (by omega) (by omega) (by omega)];exact hJ,by omega,by omega,c5⟩,rfl,rfl,rfl,rfl,ivq (by omega),rfl,rfl,rfl,trivial⟩
 ·have q1:¬ ((i:Int) < (nn:Int)):=of_decide_eq_false q1
  first | (refine ZC ?_;show wC _ _ _ _ _ _ _ _ _) | skip
  have e:i=ns.length:=by omega
  exact And.intro trivial (Exists.intro _ (And.intro rfl ⟨rfl,by rw [← e];exact hJ⟩))
abbrev ql:Code:=at_ Try.f52 [1,1,0,1,0,0]
abbrev K3:Code:=at_ Try.f52 [1,1,0,1,0,1]
abbrev S52 (h:Nat):Rg:=[(9,pt h)]
structure J52 (ns:List Ns) (reach:Int) (na:Option Addr) (nn ncap:Nat) (H0:Hp) (g:Nat→Bool) (H':Hp):Prop where
 acc:Cl H' H0.next (cB 16385 g)
 rL:Rd H' (H0.next+1) [.slice na nn ncap]
 rG:Rd H' (H0.next+2) [iv reach]
 lp:Lp Try.prog H' (H0.next+4) .ready none 34 (S52 H0.next) [16] ql K3 (H0.next+3)
 dfr:H'.t.get (H0.next+3)=some (.dfr (some []))
 ll:H0.next+5≤H'.next
 kp:Zh H0 H' []
section
variable {ns:List Ns} {reach:Int} {na:Option Addr} {nn ncap:Nat} {H0:Hp}
theorem J52.keep {g:Nat→Bool} {H1 H2:Hp} (j:J52 ns reach na nn ncap H0 g H1) {W:List Nat} (kk:Zh H1 H2 W) (hW:∀ b∈W,H0.next+5≤b):J52 ns reach na nn ncap H0 g H2:=by
 have nw:∀ x,x < H0.next+5→x ∉ W:=fun x hx q=>by have:=hW x q;omega
 have ll:=j.ll
 exact ⟨kk.cl j.acc (nw _ (by omega)),kk.rd j.rL (nw _ (by omega)),kk.rd j.rG (nw _ (by omega)),j.lp.keep kk (by omega) (nw _ (by omega)),by rw [kk.2 _ (by omega) (nw _ (by omega))];exact j.dfr,Nat.le_trans j.ll kk.1,j.kp.new kk (fun b q=>.inr (by have:=hW b q;omega))⟩
set_option maxRecDepth 100000 in
theorem Zbs (hlo:lo≤H0.next) {g:Nat→Bool} {d:Int} (hd0:0≤d) (hd1:d≤16384) (j:J52 ns reach na nn ncap H0 g H) (hnx:H0.next+5≤H.next) :
  ∃ H',Xe Try.prog kn lo (.fn (.yield (H0.next+4)) #[]) [iv d] H (.bool true) H'∧J52 ns reach na nn ncap H0 (yz g d.toNat) H'∧Zh H H' [H0.next,H0.next+4]:=by
 have L1:low Try.prog 34 ql=some R52x1:=N52 ▸ Zde
 have L2:low Try.prog 34 K3=some R52x2:=N52 ▸ Zd5
 have key:=ZaN (kn:=kn) (P:=Try.prog) (lo:=lo) (S1:=(16,iv d) :: S52 H0.next) (args:=[iv d]) (Q:=fun t H'=>t=true∧J52 ns reach na nn ncap H0 (yz g d.toNat) H'∧Zh H H' [H0.next,H0.next+4]) j.lp (by omega) (by rfl) rfl (YH true _ L1 ?_)
 ·obtain ⟨t,H',h,rfl,q⟩:=key;exact ⟨H',h,q⟩
 have ll:=j.ll
 refine Ku<|Za rfl<|Zb ?_
 refine And.intro trivial (And.intro j.lp ?_)
 intro H3 s3
 have k3:=s3.keep
 have hn3:H3.next=H.next:=s3.1
 have lp3:=s3.lp j.lp
 have nl:∀ x,x≠H0.next+4→x ∉ [H0.next+4]:=fun x hx=>by simpa using hx
 have ca:=k3.cl j.acc (nl _ (by omega))
 refine YH true _ L2 ?_
 refine Zc2<|Za rfl<|qm (b:=H0.next) (o:=0) (k:=d.toNat) (j:=d) rfl rfl (by omega) (by omega)<|Zcp (b:=H0.next) (o:=0+d.toNat * 1) rfl rfl ca (by omega) rfl rfl (by rw [ZaH];omega) ?_
 intro H4 k4 n4 c4
 rw [ZcQ (by omega)] at c4
 have m4:=k4.1
 refine Zb ?_
 have lp4:=lp3.keep k4 (by omega) (by simp)
 refine ⟨lp4,fun H5 s5=>?_⟩
 have k5:=s5.keep
 have hn5:H5.next=H4.next:=s5.1
 have k05:Zh H H5 [H0.next,H0.next+4]:=((k3.mono (by simp)).trans (k4.mono (by simp))).trans (k5.mono (by simp))
 have n3:∀ x,x≠H0.next→x≠H0.next+4→x ∉ [H0.next,H0.next+4]:=fun x h1 h2=>by simp;omega
 exact ⟨rfl,⟨k5.cl c4 (nl _ (by omega)),k05.rd j.rL (n3 _ (by omega) (by omega)),k05.rd j.rG (n3 _ (by omega) (by omega)),s5.lp lp4,by rw [k05.2 _ (by omega) (n3 _ (by omega) (by omega))];exact j.dfr,by omega,j.kp.new k05 (fun b q=>.inr (by simp at q;omega))⟩,k05⟩
end
set_option maxRecDepth 100000 in
set_option maxHeartbeats 2000000 in
theorem ze {ns:List Ns} {reach frm to_:Int} {na:Option Addr} {nn ncap:Nat} (hs:Sl H na nn ncap (nsc ns)) (hl:ns.length=nn) (hn:nn≤1000) (hbd:ns.any XR=false) (hf:0≤frm∧frm≤16384) (ht:0≤to_∧to_≤16384) (hlo:lo≤H.next) :
  ∃ v H',FnX Try.prog kn lo 52 [.slice na nn ncap,iv reach,iv frm,iv to_] H v H'∧Acc lo H.next 3 H' v (opl ns reach frm (to_+1 - frm).toNat).length (cI (opl ns reach frm (to_+1 - frm).toNat))∧Zh H H' []:=by
 refine ZaB (kn:=kn) (lo:=lo) (H:=H) (args:=[.slice na nn ncap,iv reach,iv frm,iv to_]) (Q:=fun w H'=>Acc lo H.next 3 H' w (opl ns reach frm (to_+1 - frm).toNat).length (cI (opl ns reach frm (to_+1 - frm).toNat))∧Zh H H' []) Try.func52 B52 N52 Z52 L52 (by simp) ?_
 intro y hy
 refine Y1.lowR hy ?_
 refine Ku<|Za rfl<|Zb ?_
 intro y hy
 refine Y1.lowR hy ?_
 refine Ku<|Yq ?_
 intro H1 k1 n1 c1
 rw [ZbU] at c1
 refine Zb ?_
 intro y hy
 refine Y1.lowL hy ?_
 intro z hz
 refine Y1.lowR hz ?_
 refine Ku<|Za rfl<|Za rfl ?_
 obtain ⟨H5,f5,g1,g2,n5,k5⟩:=jJ (kn:=kn) (lo:=lo) (H:=H1) (na:=na) (nn:=nn) (ncap:=ncap) (reach:=reach) (by omega)
 refine Zi (vs:=[.slice na nn ncap,iv reach]) rfl (Zf f5)<|Zb ?_
 intro y hy
 refine Y1.lowB hy ?_
 rw [Zeo]
 refine Y1.range rfl ?_
 intro H7 k7 n7 hdf hlp
 have e5:H5.next=H.next+3:=by omega
 have hlp:Lp Try.prog H7 (H5.next+1) .ready none 34 [(9,pt H.next)] [16] ql K3 H5.next:=hlp.weak ⟨rfl,trivial⟩
 rw [e5] at hlp hdf n7
 have k17:Zh H1 H7 []:=k5.trans k7
 have k07:Zh H H7 []:=k1.trans k17
 have d1:=k17.cl c1 (by simp)
 rw [n1] at g1 g2
 have fs0:=hs.old
 have j0:J52 ns reach na nn ncap H (fun _=>false) H7:=⟨d1,k7.rd g1 (by simp),k7.rd g2 (by simp),hlp,hdf,by omega,k07⟩
 obtain ⟨H8,f8,j8⟩:=jo (kn:=kn) (lo:=lo) (H:=H7) (J:=J52 ns reach na nn ncap H) (base:=H.next+5) (Wy:=[H.next,H.next+4]) (l:=H.next+4) (bL:=H.next+1) (bG:=H.next+2) (na:=na) (nn:=nn) (ncap:=ncap) (ns:=ns) (reach:=reach) hl (by omega) hbd (by omega) (fun x hx=>by simp at hx;omega)
  (fun g H1 H2 W j kk hw=>j.keep kk hw) (fun g H1 j=>⟨j.rL,j.rG,j.kp.sl0 hs,by omega,by omega,fun b e=>by have:=fs0 b e;omega⟩)
  (fun g d H1 h1 h2 j hb=>Zbs hlo h1 h2 j hb) (by omega) j0
 refine Exists.intro _ (Exists.intro H8 (And.intro (Y7 rfl (by rw [n1,e5];simpa using f8)) ?_))
 have lp8:Lp Try.prog H8 (H5.next+1) .ready none 34 (S52 H.next) [16] ql K3 H5.next:=by rw [e5];exact j8.lp
 refine ⟨.ready,none,_,lp8,by simp,?_⟩
 intro H9 s9
 have k9:=s9.keep
 have hn9:H9.next=H8.next:=s9.1
 rw [e5] at k9
 have ll:=j8.ll
 have nl:∀ x,x≠H.next+4→x ∉ [H.next+3+1]:=fun x hx=>by simp;omega
 have hd:H9.t.get (H.next+3)=some (.dfr (some [])):=by rw [k9.2 _ (by omega) (nl _ (by omega))];exact j8.dfr
 have ca:=k9.cl j8.acc (nl _ (by omega))
 have hk:Zh H H9 []:=j8.kp.new k9 (fun b q=>.inr (by simp at q;omega))
 refine Zc<|Za rfl<|Zb<|Zc<|Za rfl<|Za rfl<|Zb ?_
 refine ZA (fn:=Try.f52) ZdJ N52 Zd3 (fun z:Nat × Value=>[(2,iv frm),(3,iv to_),(9,pt H.next),(11,z.2),(12,iv (frm+(z.1:Int)))])
  (fun k z H'=>z.1≤(to_+1 - frm).toNat∧k=(to_+1 - frm).toNat - z.1∧Zh H H' []∧H9.next≤H'.next∧Cl H' H.next (cB 16385 (cls ns reach ns.length))∧H'.t.get (H.next+3)=some (.dfr (some []))∧Acc lo H9.next 3 H' z.2 (opl ns reach frm z.1).length (cI (opl ns reach frm z.1))) _ (0,.slice none 0 0) ⟨Nat.zero_le _,rfl,hk,Nat.le_refl _,ca,hd,.inl ⟨rfl,rfl,rfl⟩⟩ ⟨rfl,rfl,rfl,rfl,ivq (by simp only [];omega),trivial⟩ ?_
 rintro k ⟨i,wv⟩ L1 ⟨hi1,hi2,hk,hnx,ca,hd,hacc⟩
 simp only [] at hi1 hi2 hacc;have mk:=hk.1;have kacc:=Zh.refl L1 [];have hol:=Ky (ns:=ns) (reach:=reach) (frm:=frm) (k:=i)
 refine Zc<|Za rfl<|Za rfl<|Wc (a:=(frm+(i:Int))) (b:=to_) rfl rfl<|Zb ?_
 refine And.intro (fun q1=>?_) (fun q1=>?_)
 ·have q1:(frm+(i:Int))≤to_:=of_decide_eq_true q1
  first | refine Zj ?_ | skip
  refine Zc<|Za rfl<|qm (b:=H.next) (o:=0) (k:=(frm+(i:Int)).toNat) (j:=(frm+(i:Int))) rfl rfl (by omega) (by omega)<|Zy (b:=H.next) (o:=0+((frm+(i:Int)).toNat) * 1) (v:=.bool (cls ns reach ns.length ((frm+(i:Int)).toNat))) rfl ca.rd (Zb7 (by omega))<|Zd (v:=.bool (!(cls ns reach ns.length ((frm+(i:Int)).toNat)))) rfl rfl<|Zb ?_
  refine And.intro (fun q2=>?_) (fun q2=>?_)
  ·have q2:¬ (cls ns reach ns.length ((frm+(i:Int)).toNat)=true):=by simpa using q2
   have hfr:frB ns reach (frm+(i:Int))=true:=by rw [← z0 (by omega)];simpa using q2
   show Zo _ _ _ _ _ _ _ _
   refine Za rfl<|Za rfl ?_
   obtain ⟨H1,hH1⟩:∃ H1,L1.new (.cells [iv (frm+(i:Int))] 3 false)=H1:=⟨_,rfl⟩
   refine YD (H':=H1) (k:=.heavy) rfl (by kernel_rfl) ((Xz (v:=iv (frm+(i:Int))) Zae zo3 rfl rfl rfl (by decide)).trans (by rw [← hH1];rfl)) (fun b e=>by cases e) ?_
   obtain ⟨kH1,nH1,c1⟩:=Yg hH1;clear hH1
   have c1:Cl H1 L1.next [iv (frm+(i:Int))]:=c1
   have mH1:=kH1.1
   have hk:=hk.trans kH1
   have ca:=kH1.cl ca (by simp)
   have hd:=(show H1.t.get (H.next+3)=some (.dfr (some [])) from by rw [kH1.2 _ (by omega) (by first | (simp;done) | (simp;omega))];exact hd)
   have kacc:=kacc.trans kH1
   obtain ⟨H2,kdH2,eH2,dH2,aH2,kbH2⟩:=Qg (P:=Try.prog) (lo:=lo) (k:=(opl ns reach frm i).length) (t1:=42) Zae ZcD (c1.sl (Nat.le_refl 1)) rfl (by decide) rfl (by rw [qe];omega) (by omega) (hacc.keep kacc) (by omega) (by omega)
   refine YD (k:=kdH2) rfl (by cases wv<;>kernel_rfl) (eH2 _ _ _ _ _ _ _ rfl rfl) (Za2 dH2 _) ?_
   have hk:=kbH2.keep hk (by omega)
   have ca:=kbH2.cl ca (by omega)
   have hd:=(show H2.t.get (H.next+3)=some (.dfr (some [])) from by rw [kbH2.2 _ (by omega)];exact hd)
   have mH2:=kbH2.1
   refine Za rfl<|Zb ?_
   show Zo _ _ _ _ _ _ _ _
   refine Za rfl<|Zt (a:=(frm+(i:Int))) (b:=1) rfl rfl ⟨by omega,by omega⟩<|Za rfl<|Zb ?_
   have hU:opl ns reach frm (i+1)=opl ns reach frm i ++ [frm+(i:Int)]:=by show (if frB ns reach (frm+i) then _ else _)=_;rw [if_pos hfr]
   have hacc2:Acc lo H9.next 3 H2 (.slice (some ⟨H1.next,0,none⟩) ((opl ns reach frm i).length+1) ((opl ns reach frm i).length+1)) (opl ns reach frm (i+1)).length (cI (opl ns reach frm (i+1))):=by rw [hU,List.length_append,Zav];exact aH2
   exact ⟨_,(i+1,_),by omega,⟨by simp only [];omega,rfl,hk,by omega,ca,hd,hacc2⟩,rfl,rfl,rfl,rfl,ivq (by simp only [];omega),trivial⟩
  ·have q2:¬ (¬ (cls ns reach ns.length ((frm+(i:Int)).toNat)=true)):=by simpa using q2
   have hfr:frB ns reach (frm+(i:Int))=false:=by rw [← z0 (by omega)];simpa using q2
   first | refine Zj ?_ | skip
   show Zo _ _ _ _ _ _ _ _
   refine Za rfl<|Zt (a:=(frm+(i:Int))) (b:=1) rfl rfl ⟨by omega,by omega⟩<|Za rfl<|Zb ?_
   have hU:opl ns reach frm (i+1)=opl ns reach frm i:=by show (if frB ns reach (frm+i) then _ else _)=_;rw [if_neg (by rw [hfr];simp)]
   exact ⟨_,(i+1,_),by omega,⟨by simp only [];omega,rfl,hk,by omega,ca,hd,by simp only [];rw [hU];exact hacc⟩,rfl,rfl,rfl,rfl,ivq (by simp only [];omega),trivial⟩
 ·have q1:¬ ((frm+(i:Int))≤to_):=of_decide_eq_false q1
  first | (refine ZC ?_;show wC _ _ _ _ _ _ _ _ _) | skip
  refine Zc<|Za rfl<|Za rfl<|Zb ?_
  have ein:i=(to_+1 - frm).toNat:=by omega
  rw [ein] at hacc
  refine And.intro trivial (Or.inr ⟨H.next+3,by rw [e5],by omega,hd,fun H12 hn12 hk12=>?_⟩)
  exact ⟨_,rfl,(hacc.keepW hk12 (by omega)).lowf (by omega),hk.new hk12 (fun b q=>.inr (by simp at q;omega))⟩
end
end
end Go.Ax

/-! Waiting loads: each as_ early as_ it can be. -/
namespace Go.Ax
open Go Go.RowKit
def W1 (days limit:Int) (h:List Po) (l:Int):List Int→Option (Int × List Int)
 | []=>none
 | D :: os=>if l+ps (h.filter (yg (D - days)))≤limit then some (D,os) else W1 days limit h l os
def Wi (days limit:Int):List Po→List Int→List Int→Option (List Int)
 | _,_,[]=>some []
 | h,os,l :: ls=>match W1 days limit h l os with
  | none=>none
  | some (D,os')=>(Wi days limit (h ++ [⟨D,l⟩]) os' ls).map (D :: ·)
def scE:Option (List Int)→List Int × Int
 | some p=>(p,0)
 | none=>([],4)
section
variable {days limit:Int}
theorem Zan {h:List Po} {l D:Int} {os:List Int} (q:l+ps (h.filter (yg (D - days)))≤limit):W1 days limit h l (D :: os)=some (D,os):=by unfold W1;rw [if_pos q]
theorem Zbw {h:List Po} {l D:Int} {os:List Int} (q:¬ l+ps (h.filter (yg (D - days)))≤limit):W1 days limit h l (D :: os)=W1 days limit h l os:=by
 rw [W1,if_neg q]
theorem zw {h:List Po} {os os' ls:List Int} {l D:Int} (hf:W1 days limit h l os=some (D,os')) :
  (Wi days limit h os (l :: ls)).map (h.map (·.d) ++ ·)=(Wi days limit (h ++ [⟨D,l⟩]) os' ls).map ((h ++ [(⟨D,l⟩:Po)]).map (·.d) ++ ·):=by
 rw [Wi,hf]
 simp only []
 cases Wi days limit (h ++ [⟨D,l⟩]) os' ls with
 | none=>rfl
 | some p=>simp
theorem Zaf {h:List Po} {os ls:List Int} {l:Int} (hf:W1 days limit h l os=none):Wi days limit h os (l :: ls)=none:=by
 rw [Wi,hf]
theorem qO {h:List Po} {os:List Int}:(Wi days limit h os []).map (h.map (·.d) ++ ·)=some (h.map (·.d)):=by simp [Wi]
theorem jr {os ls:List Int}:(Wi days limit [] os ls).map (([]:List Po).map (·.d) ++ ·)=Wi days limit [] os ls:=by
 cases Wi days limit [] os ls<;>rfl
end
theorem Zdf {h:List Po} {c c':Int} (hc:c≤c'):(h.filter (yg c)).filter (yg c')=h.filter (yg c'):=by
 rw [List.filter_filter]
 refine List.filter_congr fun p _=>?_
 rw [Bool.eq_iff_iff,Bool.and_eq_true,Xp,Xp]
 omega
theorem qI {h:List Po} {c c':Int} (hs:Srt h) (hc:c≤c'):(h.filter (yg c)).dropWhile (old c')=h.filter (yg c'):=by
 rw [QO (List.Pairwise.sublist List.filter_sublist hs),Zdf hc]
theorem Zbu {h:List Po} {c D l:Int} (hD:c < D):(h ++ [(⟨D,l⟩:Po)]).filter (yg c)=h.filter (yg c) ++ [⟨D,l⟩]:=by
 rw [List.filter_append,List.filter_cons_of_pos (Xp.2 hD)];rfl
theorem Srt.snoc {h:List Po} {D l:Int} (hs:Srt h) (hd:∀ p,p∈h→p.d≤D):Srt (h ++ [⟨D,l⟩]):=by
 unfold Srt
 rw [List.pairwise_append]
 exact ⟨hs,List.pairwise_singleton _ _,fun a ha b hb=>by rw [List.mem_singleton] at hb;subst hb;exact hd a ha⟩
def op (ns:List Ns) (reach:Int) (day:Int):Nat→List Int
 | 0=>[]
 | n+1=>if frB ns reach day then day :: op ns reach (day+1) n else op ns reach (day+1) n
theorem qx {ns:List Ns} {reach:Int}:∀ {n:Nat} {day:Int},op ns reach day (n+1)=op ns reach day n ++ (if frB ns reach (day+n) then [day+n] else [])
 | 0,day=>by
  show (if frB ns reach day then day :: op ns reach (day+1) 0 else op ns reach (day+1) 0)=_
  simp [op]
 | n+1,day=>by
  have ih:=qx (ns:=ns) (reach:=reach) (n:=n) (day:=day+1)
  have e:day+1+(n:Int)=day+((n+1:Nat):Int):=by omega
  rw [e] at ih
  rw [op,ih,op]
  split<;>simp
theorem K4 {ns:List Ns} {reach frm:Int}:∀ {k:Nat},opl ns reach frm k=op ns reach frm k
 | 0=>rfl
 | k+1=>by
  rw [qx,← K4 (k:=k)]
  show (if frB ns reach (frm+k) then opl ns reach frm k ++ [frm+k] else opl ns reach frm k)=_
  split<;>simp
theorem qS {ns:List Ns} {reach:Int}:∀ {n:Nat} {day D:Int},D∈op ns reach day n→day≤D∧D < day+n∧frB ns reach D=true
 | 0,_,_,h=>by simp [op] at h
 | n+1,day,D,h=>by
  rw [op] at h
  by_cases q:frB ns reach day=true
  ·rw [if_pos q] at h
   rcases List.mem_cons.1 h with rfl | h
   ·exact ⟨Int.le_refl _,by omega,q⟩
   ·have:=qS h;exact ⟨by omega,by omega,this.2.2⟩
  ·rw [if_neg q] at h
   have:=qS h;exact ⟨by omega,by omega,this.2.2⟩
theorem Zak {ns:List Ns} {reach:Int}:∀ {n:Nat} {day:Int},(op ns reach day n).Pairwise (· < ·)
 | 0,_=>List.Pairwise.nil
 | n+1,day=>by
  rw [op]
  split
  ·exact List.pairwise_cons.2 ⟨fun D hD=>by have:=qS hD;omega,Zak⟩
  ·exact Zak
end Go.Ax

/-
 Pool: waiting: earliest,Schedule (written by program).
-/
namespace Go.Ax
open Go Go.RowKit Go.Proofs

noncomputable section
theorem i3s:∃ i,Try.prog.info? 3=some i∧i.size=1:=by
 have h:(Try.prog.info? 3).map (fun i=>i.size)=some 1:=by kernel_rfl
 cases e:Try.prog.info? 3 with
 | none=>rw [e] at h;cases h
 | some i=>rw [e] at h;simp at h;exact ⟨i,rfl,h⟩
theorem Acc.keepL {lo f:Nat} {e:TypeId} {H H1:Hp} {v:Value} {n:Nat} {cs:List Value} {W:List Nat} (h:Acc lo f e H v n cs) (k:Zh H H1 W) (hw:∀ b,b∈(bkv v).toList→b ∉ W):Acc lo f e H1 v n cs:=
 h.imp id fun ⟨b,e1,h0,hf,hl,hn,hg⟩=>⟨b,e1,h0,hf,hl,Nat.lt_of_lt_of_le hn k.1,by rw [k.2 b hn (hw b (by rw [e1];simp [bkv]))];exact hg⟩
theorem Acc.blk {lo f:Nat} {e:TypeId} {H:Hp} {v:Value} {n:Nat} {cs:List Value} (h:Acc lo f e H v n cs):∀ x,x∈(bkv v).toList→f≤x∧x < H.next:=by
 intro x hx
 rcases h with ⟨_,_,rfl⟩ | ⟨b,rfl,_,h2,_,h3,_⟩
 ·simp [bkv] at hx
 ·simp [bkv] at hx;subst hx;exact ⟨h2,h3⟩
theorem ZaY {l:List Int} {k:Nat}:(cI l).drop (k * 1)=cI (l.drop k):=by rw [Nat.mul_one];simp [cI]
structure Sst (days limit:Int) (loads os0:List Int) (h:List Po) (os:List Int) (cc:Int) (i:Nat):Prop where
 len:h.length=i
 srt:Srt h
 vl:Vl h
 dy:Dy h
 osd:∀ D,D∈os→0≤D∧D≤16384
 up:os.Pairwise (· < ·)
 cc:∀ D,D∈os→cc≤D - days
 lt:∀ p,p∈h→∀ D,D∈os→p.d≤D
 tot:(Wi days limit h os (loads.drop i)).map (h.map (·.d) ++ ·)=Wi days limit [] os0 loads
section
variable {days limit:Int} {loads os0 os:List Int} {h:List Po} {cc:Int} {i j:Nat}
theorem qX {os:List Int} (hu:os.Pairwise (· < ·)) {j:Nat} (hj:j < os.length):∀ D,D∈os.drop (j+1)→os.getD j 0 < D:=by
 intro D hD
 have h1:(os.drop j).Pairwise (· < ·):=List.Pairwise.sublist (List.drop_sublist j os) hu
 rw [XL (z:=0) hj] at h1
 exact (List.pairwise_cons.1 h1).1 D hD
theorem Sst.next (s:Sst days limit loads os0 h os cc i) (hd:1≤days) (hi:i < loads.length) (hj:j < os.length) (hl:0≤loads.getD i 0∧loads.getD i 0≤72057594037927936)
  (hf:W1 days limit h (loads.getD i 0) os=W1 days limit h (loads.getD i 0) (os.drop j)) (hc:loads.getD i 0+ps (h.filter (yg (os.getD j 0 - days)))≤limit) :
  Sst days limit loads os0 (h ++ [⟨os.getD j 0,loads.getD i 0⟩]) (os.drop (j+1)) (os.getD j 0 - days) (i+1):=by
 have hD:os.getD j 0∈os:=Xi hj
 have hup:=qX s.up hj
 have hsub:∀ D,D∈os.drop (j+1)→D∈os:=fun D q=>List.mem_of_mem_drop q
 have e1:W1 days limit h (loads.getD i 0) os=some (os.getD j 0,os.drop (j+1)):=by
  rw [hf,XL (z:=0) hj,Zan hc]
 refine ⟨by rw [List.length_append,s.len];rfl,s.srt.snoc fun p hp=>s.lt p hp _ hD,fun p hp=>?_,fun p hp=>?_,fun D q=>s.osd D (hsub D q),List.Pairwise.sublist (List.drop_sublist _ _) s.up,fun D q=>by have:=hup D q;omega,fun p hp D q=>?_,?_⟩
 ·rcases List.mem_append.1 hp with q | q
  ·exact s.vl p q
  ·rw [List.mem_singleton] at q;subst q;exact hl
 ·rcases List.mem_append.1 hp with q | q
  ·exact s.dy p q
  ·rw [List.mem_singleton] at q;subst q;exact s.osd _ hD
 ·rcases List.mem_append.1 hp with r | r
  ·exact s.lt p r D (hsub D q)
  ·rw [List.mem_singleton] at r;subst r;exact Int.le_of_lt (hup D q)
 ·rw [← s.tot,XL (z:=0) hi,zw e1]
theorem Sst.none (s:Sst days limit loads os0 h os cc i) (hi:i < loads.length) (hf:W1 days limit h (loads.getD i 0) os=none):scE (Wi days limit [] os0 loads)=([],4):=by
 rw [← s.tot,XL (z:=0) hi,Zaf hf];rfl
theorem Sst.done (s:Sst days limit loads os0 h os cc i) (hi:i=loads.length):scE (Wi days limit [] os0 loads)=(h.map (·.d),0):=by
 rw [← s.tot,hi,List.drop_length,qO];rfl
end
section
variable {kn:Kn} {lo:Nat} {H:Hp}
set_option maxRecDepth 100000 in
theorem Zby {x m:Int} {mb:Nat} (cm:Rd H mb [iv m]) (hlo:lo≤H.next):∃ H',FnX Try.prog kn lo 71 [iv x,pt mb] H (.bool (Wl m x)) H'∧Zh H H' []:=by
 have key:=Zp (kn:=kn) (lo:=lo) (H:=H) (args:=[iv x,pt mb]) (Q:=fun w H'=>w=(.bool (Wl m x))∧Zh H H' []) Try.func71 B71 N71 Z71 L71 (by simp) ?_
 ·obtain ⟨w,H',h,rfl,q⟩:=key;exact ⟨H',h,q⟩
 have hk:=Zh.refl H []
 refine Zc<|Za rfl<|Zb<|Zc<|Za rfl<|Zy (b:=mb) (o:=0) (v:=iv m) rfl cm rfl<|Zu rfl (XG) ?_
 intro tH1 H1 hH1 kH1
 have mH1:=kH1.1
 have hk:=hk.trans kH1
 have cm:=kH1.rd cm (by simp)
 cases tH1
 ·have thH1:inB x 0 m=false:=hH1
  have uhH1:=Xh thH1
  refine Zd (v:=.bool true) rfl rfl<|Za rfl<|Zb ?_
  exact And.intro trivial (Exists.intro _ (And.intro rfl ⟨congrArg Value.bool (show true=Wl m x from (by symm;simp only [Wl, *];try rfl)),hk⟩))
 ·have thH1:inB x 0 m=true:=hH1
  have uhH1:=Y0 thH1
  refine Zd (v:=.bool false) rfl rfl<|Za rfl<|Zb ?_
  exact And.intro trivial (Exists.intro _ (And.intro rfl ⟨congrArg Value.bool (show false=Wl m x from (by symm;simp only [Wl, *];try rfl)),hk⟩))
theorem ZbI {loads:List Int} {la:Option Addr} {n lcap:Nat} (hs:Sl H la n lcap (cI loads)) (hl:loads.length=n) (hn:n≤1000000) {m:Int} {mb:Nat} (cm:Rd H mb [iv m]) (hlo:lo≤H.next):∃ x H',FnX Try.prog kn lo 80 [.slice la n lcap,.func (.func 71) #[] #[pt mb]] H (iv x) H'∧decide (x ≥ 0)=loads.any (Wl m)∧Zh H H' []:=by
 have key:=Zp (kn:=kn) (lo:=lo) (H:=H) (args:=[.slice la n lcap,.func (.func 71) #[] #[pt mb]]) (Q:=fun w H'=>∃ x,w=iv x∧decide (x ≥ 0)=loads.any (Wl m)∧Zh H H' []) Try.func80 B80 N80 Z80 L80 (by simp) ?_
 ·obtain ⟨w,H',h,x,rfl,r⟩:=key;exact ⟨x,H',h,r⟩
 have hk:=Zh.refl H []
 have fs:=hs.old
 refine Zc<|Za rfl<|Zb<|Zc<|Za rfl<|Yd (m:=n) rfl<|Za rfl<|Zb ?_
 refine ZA (fn:=Try.f80) Zdm N80 Zeu (fun i:Nat=>[(0,.slice la n lcap),(1,.func (.func 71) #[] #[pt mb]),(7,iv (n:Int)),(8,iv (i:Int))])
  (fun k i H'=>i+k=n∧Zh H H' []∧Sl H' la n lcap (cI loads)∧Rd H' mb [iv m]∧∀ j,j < i→Wl m (loads.getD j 0)=false) n 0 ⟨by omega,hk,hs,cm,fun j h=>absurd h (Nat.not_lt_zero j)⟩ ⟨rfl,rfl,rfl,rfl,trivial⟩ ?_
 rintro k i L1 ⟨hik,hk,hs,cm,hall⟩
 have mk:=hk.1
 refine Zc<|ZB (a:=(i:Int)) (b:=(n:Int)) rfl rfl<|Zb ?_
 refine And.intro (fun q1=>?_) (fun q1=>?_)
 ·have q1:(i:Int) < (n:Int):=of_decide_eq_true q1
  have hi:i < n:=by omega
  rcases id hs with ⟨_,h0s,_⟩ | ⟨sb,es,rs,_⟩
  ·omega
  have ls:=rs.1
  have lsb2:=fs sb es
  first | refine Zj ?_ | skip
  refine Zc<|Za rfl<|Za rfl<|Zb<|Zc<|Za rfl<|Za rfl<|Za rfl<|Z0 (b:=sb) (o:=0) (k:=i) (j:=(i:Int)) (by rw [← es];rfl) rfl rfl hi<|Zy (b:=sb) (o:=0+i * 1) (v:=iv (loads.getD i 0)) rfl rs (zM (by omega)) ?_
  obtain ⟨H1,fH1,kH1⟩:=Zby (kn:=kn) (lo:=lo) (H:=L1) (x:=(loads.getD i 0)) cm (by omega)
  obtain ⟨tH1,eH1⟩:∃ t,t=Wl m (loads.getD i 0):=⟨_,rfl⟩
  rw [← eH1] at fH1
  refine Zi (vs:=[iv (loads.getD i 0)]) rfl (Y7 rfl (by simpa using fH1)) ?_
  have mH1:=kH1.1
  have hk:=hk.trans kH1
  have hs:=kH1.sl0 hs
  have cm:=kH1.rd cm (by simp)
  have rs:=kH1.rd rs (by simp)
  cases tH1
  ·have hb:Wl m (loads.getD i 0)=false:=eH1.symm
   refine Zb<|ZK ?_
   first | refine Zj ?_ | skip
   show Zo _ _ _ _ _ _ _ _
   refine Zt (a:=(i:Int)) (b:=1) rfl rfl ⟨by omega,by omega⟩<|Za rfl<|Zb ?_
   exact ⟨k - 1,i+1,by omega,⟨by omega,hk,hs,cm,fun j hj=>by rcases Nat.lt_or_ge j i with c | c;exact hall j c;rw [show j=i by omega];exact hb⟩,rfl,rfl,rfl,ivq (by omega),trivial⟩
  ·have hb:Wl m (loads.getD i 0)=true:=eH1.symm
   refine Zb<|ZN<|Zc<|Za rfl<|Za rfl<|Zb ?_
   exact And.intro trivial (Exists.intro _ (And.intro rfl ⟨(i:Int),rfl,by rw [WK (z:=0) (j:=i) (by omega) hb];exact decide_eq_true (by omega),hk⟩))
 ·have q1:¬ ((i:Int) < (n:Int)):=of_decide_eq_false q1
  first | (refine ZC ?_;show wC _ _ _ _ _ _ _ _ _) | skip
  refine Zc<|Za rfl<|Zb ?_
  exact And.intro trivial (Exists.intro _ (And.intro rfl ⟨-1,rfl,by rw [WG (z:=0) (fun j hj=>hall j (by omega))];rfl,hk⟩))
set_option maxRecDepth 100000 in
theorem Zbr {loads:List Int} {la:Option Addr} {n lcap:Nat} (hs:Sl H la n lcap (cI loads)) (hl:loads.length=n) (hn:n≤1000000) {m:Int} {mb:Nat} (cm:Rd H mb [iv m]) (hlo:lo≤H.next):∃ H',FnX Try.prog kn lo 70 [.slice la n lcap,.func (.func 71) #[] #[pt mb]] H (.bool (loads.any (Wl m))) H'∧Zh H H' []:=by
 have key:=Zp (kn:=kn) (lo:=lo) (H:=H) (args:=[.slice la n lcap,.func (.func 71) #[] #[pt mb]]) (Q:=fun w H'=>w=(.bool (loads.any (Wl m)))∧Zh H H' []) Try.func70 B70 N70 Z70 L70 (by simp) ?_
 ·obtain ⟨w,H',h,rfl,q⟩:=key;exact ⟨H',h,q⟩
 have hk:=Zh.refl H []
 refine Zc<|Za rfl<|Zb<|Zc<|Za rfl<|Za rfl ?_
 obtain ⟨x,H1,fH1,hx,kH1⟩:=ZbI (kn:=kn) (lo:=lo) (H:=H) hs hl hn cm (by omega)
 refine Zi (vs:=[.slice la n lcap,.func (.func 71) #[] #[pt mb]]) rfl (Zf fH1) ?_
 have mH1:=kH1.1
 have hk:=hk.trans kH1
 refine Jd (a:=x) (b:=0) rfl rfl<|Za rfl<|Zb ?_
 exact And.intro trivial (Exists.intro _ (And.intro rfl ⟨congrArg Value.bool hx,hk⟩))
set_option maxRecDepth 100000 in
theorem jF {loads:List Int} {la:Option Addr} {n lcap:Nat} (hs:Sl H la n lcap (cI loads)) (hl:loads.length=n) (hn:n≤1000000) {m:Int} (hlo:lo≤H.next):∃ H',FnX Try.prog kn lo 50 [.slice la n lcap,iv m] H (.bool (!loads.any (Wl m))) H'∧Zh H H' []:=by
 have key:=Zp (kn:=kn) (lo:=lo) (H:=H) (args:=[.slice la n lcap,iv m]) (Q:=fun w H'=>w=(.bool (!loads.any (Wl m)))∧Zh H H' []) Try.func50 B50 N50 Z50 L50 (by simp) ?_
 ·obtain ⟨w,H',h,rfl,q⟩:=key;exact ⟨H',h,q⟩
 have hk:=Zh.refl H []
 have fs:=hs.old
 refine Zc<|Yl (v:=iv m) rfl ?_
 intro H1 kH1 nH1 c1
 have c1:Cl H1 H.next [iv m]:=c1
 have mH1:=kH1.1
 have hk:=hk.trans kH1
 have hs:=kH1.sl0 hs
 refine Za rfl<|Zb<|Zc<|Za rfl<|Zd (v:=.func (.func 71) #[] #[pt H.next]) rfl (by kernel_rfl) ?_
 obtain ⟨H2,fH2,kH2⟩:=Zbr (kn:=kn) (lo:=lo) (H:=H1) hs hl hn c1.rd (by omega)
 refine Zi (vs:=[.slice la n lcap,.func (.func 71) #[] #[pt H.next]]) rfl (Zf fH2) ?_
 have mH2:=kH2.1
 have hk:=hk.trans kH2
 have hs:=kH2.sl0 hs
 have c1:=kH2.cl c1 (by simp)
 refine Zd (v:=.bool (!(loads.any (Wl m)))) rfl rfl<|Za rfl<|Zb ?_
 exact And.intro trivial (Exists.intro _ (And.intro rfl ⟨rfl,hk⟩))
set_option maxRecDepth 100000 in
set_option maxHeartbeats 4000000 in
theorem z4 {loads:List Int} {la:Option Addr} {n lcap:Nat} (hs:Sl H la n lcap (cI loads)) (hl:loads.length=n) (hn:n≤64) {os0:List Int} {oa:Option Addr} {om oc:Nat} {days limit:Int} (ho:Qu lo 0 3 H oa om oc (cI os0)) (hol:os0.length=om) (homx:om≤1000000) (hosd:∀ D,D∈os0→0≤D∧D≤16384) (hup:os0.Pairwise (· < ·)) (hv:∀ l,l∈loads→0≤l∧l≤72057594037927936) (hdy:1≤days∧days≤366) (hlim:0≤limit∧limit≤72057594037927936) (hlo:lo≤H.next) :
  ∃ v pl e H',FnX Try.prog kn lo 51 [.slice la n lcap,.slice oa om oc,iv days,iv limit] H (.tuple #[v,iv e]) H'∧scE (Wi days limit [] os0 loads)=(pl,e)∧Acc lo H.next 3 H' v pl.length (cI pl)∧Zh H H' []:=by
 have key:=Zp (kn:=kn) (lo:=lo) (H:=H) (args:=[.slice la n lcap,.slice oa om oc,iv days,iv limit]) (Q:=fun w H'=>∃ v pl e,w=.tuple #[v,iv e]∧scE (Wi days limit [] os0 loads)=(pl,e)∧Acc lo H.next 3 H' v pl.length (cI pl)∧Zh H H' []) Try.func51 B51 N51 Z51 L51 (by simp) ?_
 ·obtain ⟨w,H',h,v,pl,e,rfl,q⟩:=key;exact ⟨v,pl,e,H',h,q⟩
 have hk:=Zh.refl H []
 have fs:=hs.old
 have hob:∀ x,x∈YJ oa→x < H.next:=fun x hx=>(ho.blk x hx).2.2
 refine Zc<|Za rfl<|Za rfl<|Zb ?_
 first | refine ZcJ ?_ | refine ZbO ?_
 refine Zc<|Za rfl<|Zd (v:=.agg #[iv days,.slice none 0 0]) rfl (by kernel_rfl)<|Yq ?_
 intro H1 kH1 nH1 c1
 have c1:Cl H1 H.next [iv 0,.slice none 0 0]:=c1
 have mH1:=kH1.1
 have hk:=hk.trans kH1
 have hs:=kH1.sl0 hs
 have ho:=ho.keep kH1 (fun x hx=>by have:=hob x hx;simp)
 refine Z6 (b:=H.next) (o:=0) rfl rfl c1 (by omega) rfl rfl (by simp) ?_
 intro H2 kH2 nH2 sH2
 have mH2:=kH2.1
 have hk:=hk.new kH2 (fun b hb=>by simp at hb ⊢;omega)
 have hs:=kH2.sl hs (fun b e=>by have:=fs b e;first | (simp;done) | (simp;omega))
 have ho:=ho.keep kH2 (fun x hx=>by have:=hob x hx;simp;omega)
 have c1:Cl H2 H.next [iv days,.slice none 0 0]:=sH2
 refine Zb<|Zc<|Za rfl<|Zb ?_
 first | refine Zj ?_ | skip
 refine Zc<|Za rfl<|Yd (m:=n) rfl<|Za rfl<|Zb ?_
 refine ZA (fn:=Try.f51) Zeg N51 Zee (fun z:Nat × Value × Option Addr × Nat × Nat=>[(1,.slice z.2.2.1 z.2.2.2.1 z.2.2.2.2),(2,iv days),(3,iv limit),(10,pt H.next),(11,z.2.1),(18,.slice la n lcap),(19,iv (n:Int)),(20,iv (z.1:Int))])
  (fun k z H'=>z.1+k=n∧Zh H H' []∧H.next < H'.next∧Sl H' la n lcap (cI loads)∧∃ qa1 c1 h os cc,Cl H' H.next [iv days,.slice qa1 (h.filter (yg cc)).length c1]∧Qu lo (H.next+1) 95 H' qa1 (h.filter (yg cc)).length c1 (poc (h.filter (yg cc)))∧Acc lo (H.next+1) 3 H' z.2.1 h.length (cI (h.map (·.d)))∧Qu lo 0 3 H' z.2.2.1 z.2.2.2.1 z.2.2.2.2 (cI os)∧os.length=z.2.2.2.1∧z.2.2.2.1≤1000000∧(∀ x,x∈YJ z.2.2.1→x < H.next)∧(∀ x,x∈YJ qa1→x ∉ (bkv z.2.1).toList)∧Sst days limit loads os0 h os cc z.1) n (0,.slice none 0 0,oa,om,oc) ⟨by simp,hk,by omega,hs,none,0,[],os0,-400,c1,Qu.nil,.inl ⟨rfl,rfl,rfl⟩,ho,hol,homx,hob,fun x hx=>by simp [YJ] at hx,⟨rfl,List.Pairwise.nil,fun p hp=>by simp at hp,fun p hp=>by simp at hp,hosd,hup,fun D hD=>by have:=hosd D hD;omega,fun p hp=>by simp at hp,jr⟩⟩ ⟨rfl,rfl,rfl,rfl,rfl,rfl,rfl,rfl,trivial⟩ ?_
 rintro k ⟨i,wv,oa,om,oc⟩ L1 ⟨hik,hk,hnx,hs,qa1,c1,h,os,cc,cw,hq,hacc,ho,hol,homx,hob,hdj,s⟩
 simp only [] at hik hacc ho hol homx hob s;have mk:=hk.1;have hqb:=hq.blk;have hab:=hacc.blk;have hhl:=s.len;have hfl:=List.length_filter_le (yg cc) h
 refine Zc<|ZB (a:=(i:Int)) (b:=(n:Int)) rfl rfl<|Zb ?_
 refine And.intro (fun q1=>?_) (fun q1=>?_)
 ·have q1:(i:Int) < (n:Int):=of_decide_eq_true q1
  have hi:i < n:=by omega
  rcases id hs with ⟨_,h0s,_⟩ | ⟨sb,es,rs,_⟩
  ·omega
  have ls:=rs.1
  have lsb2:=fs sb es;have hld:=hv (loads.getD i 0) (Xi (z:=0) (l:=loads) (i:=i) (by omega))
  first | refine Zj ?_ | skip
  refine Zc<|Z0 (b:=sb) (o:=0) (k:=i) (j:=(i:Int)) (by rw [← es];rfl) rfl rfl hi<|Zy (b:=sb) (o:=0+i * 1) (v:=iv (loads.getD i 0)) rfl rs (zM (by omega))<|Za rfl<|Zb<|Zc<|Za rfl<|Yd (m:=om) rfl<|Za rfl<|Zb ?_
  refine ZA (fn:=Try.f51) ZdY N51 Zdt (fun j:Nat=>[(1,.slice oa om oc),(2,iv days),(3,iv limit),(10,pt H.next),(11,wv),(18,.slice la n lcap),(19,iv (n:Int)),(20,iv (i:Int)),(13,iv (loads.getD i 0)),(24,.slice oa om oc),(25,iv (om:Int)),(26,iv (j:Int))])
   (fun m j H'=>j+m=om∧Zh H H' []∧H.next < H'.next∧Sl H' la n lcap (cI loads)∧(∃ qa2 c2 cc2,Cl H' H.next [iv days,.slice qa2 (h.filter (yg cc2)).length c2]∧Qu lo (H.next+1) 95 H' qa2 (h.filter (yg cc2)).length c2 (poc (h.filter (yg cc2)))∧(∀ x,x∈YJ qa2→x ∉ (bkv wv).toList)∧∀ D,D∈os.drop j→cc2≤D - days)∧Acc lo (H.next+1) 3 H' wv h.length (cI (h.map (·.d)))∧Qu lo 0 3 H' oa om oc (cI os)∧W1 days limit h (loads.getD i 0) os=W1 days limit h (loads.getD i 0) (os.drop j)) om 0 ⟨by omega,hk,by omega,hs,⟨qa1,c1,cc,cw,hq,hdj,fun D hD=>s.cc D (by simpa using hD)⟩,hacc,ho,by simp⟩ ⟨rfl,rfl,rfl,rfl,rfl,rfl,rfl,rfl,rfl,rfl,rfl,rfl,trivial⟩ ?_
  rintro m j L2 ⟨hjm,hk,hnx,hs,⟨qa2,c2,cc2,cw,hq,hdj,hcc2⟩,hacc,ho,hf⟩
  have mk:=hk.1;have hqb:=hq.blk;have hab:=hacc.blk;have hhl:=s.len;have hfl:=List.length_filter_le (yg cc2) h
  refine Zc<|ZB (a:=(j:Int)) (b:=(om:Int)) rfl rfl<|Zb ?_
  refine And.intro (fun q2=>?_) (fun q2=>?_)
  ·have q2:(j:Int) < (om:Int):=of_decide_eq_true q2
   have hj:j < om:=by omega
   obtain ⟨pb,po,p0,ep_,fp,lp,rp,dp⟩:=ho.pos (by omega)
   have hpb:=hob pb (by rw [ep_];simp [YJ])
   have hDm:(os.getD j 0)∈os:=Xi (by omega)
   have hDr:=s.osd _ hDm;have hcd:cc2≤(os.getD j 0) - days:=hcc2 _ (by rw [XL (z:=0) (show j < os.length by omega)];simp)
   have hdw:=qI s.srt hcd;have hfl3:=List.length_filter_le (yg ((os.getD j 0) - days)) h
   first | refine Zj ?_ | skip
   refine Zc<|Za rfl<|Z0 (b:=pb) (o:=po) (k:=j) (j:=(j:Int)) (by rw [← ep_];rfl) rfl rfl hj<|Zy (b:=pb) (o:=po+j * 1) (v:=iv (os.getD j 0)) rfl rp (zC dp (zM (l:=os) (i:=j) (by omega)) (by omega))<|Za rfl<|Za rfl<|Zb<|Zc<|Za rfl ?_
   obtain ⟨H3,qa3,n3,c3,fH3,kH3,cw,hq,hl3,hab3⟩:=qM (kn:=kn) (lo:=lo) (H:=L2) cw hq rfl (by omega) (by omega) (by omega) (by omega) (s.dy.sub fun p hp=>(List.mem_filter.1 hp).1) (D:=(os.getD j 0)) (by omega) hdy
   refine Zi (vs:=[pt H.next,iv (os.getD j 0)]) rfl (Zf fH3) ?_
   rw [hdw] at hq hl3;subst hl3
   have mH3:=kH3.1
   have hk:=hk.new kH3 (fun b hb=>by simp at hb ⊢;omega)
   have hs:=kH3.sl hs (fun b e=>by have:=fs b e;first | (simp;done) | (simp;omega))
   have hacc:=hacc.keepL kH3 (fun x hx=>by have:=hab x hx;simp;omega)
   have ho:=ho.keep kH3 (fun x hx=>by have:=hob x hx;simp;omega)
   have rp:=kH3.rd rp (by first | (simp;done) | (simp;omega))
   have hqb:=hq.blk;have hdj:∀ x,x∈YJ qa3→x ∉ (bkv wv).toList:=fun x hx=>hdj x (by rw [← hab3];exact hx)
   refine Zb<|Zc ?_
   obtain ⟨H4,fH4,kH4⟩:=Q9 (kn:=kn) (lo:=lo) (H:=H3) cw hq rfl (by omega) (by omega) (by omega) (by omega) (s.vl.sub fun p hp=>(List.mem_filter.1 hp).1)
   refine Zi (vs:=[pt H.next]) rfl (Zf fH4) ?_
   have mH4:=kH4.1
   have hk:=hk.trans kH4
   have hs:=kH4.sl0 hs
   have hacc:=hacc.keepL kH4 (fun x hx=>by have:=hab x hx;simp)
   have ho:=ho.keep kH4 (fun x hx=>by have:=hob x hx;simp)
   have rp:=kH4.rd rp (by simp)
   have cw:=kH4.cl cw (by simp)
   have hq:=hq.keep kH4 (fun x hx=>by have:=hqb x hx;simp)
   have hpl:=zD (l:=(h.filter (yg ((os.getD j 0) - days)))) fun p hp=>(s.vl p (List.mem_filter.1 hp).1).1;have hph:=qK (l:=(h.filter (yg ((os.getD j 0) - days)))) (s.vl.sub fun p hp=>(List.mem_filter.1 hp).1)
   refine Za rfl<|Zt (a:=(ps (h.filter (yg ((os.getD j 0) - days))))) (b:=(loads.getD i 0)) rfl rfl ⟨by omega,by omega⟩<|Za rfl<|YW (a:=(ps (h.filter (yg ((os.getD j 0) - days))))+(loads.getD i 0)) (b:=limit) rfl rfl<|Zb ?_
   refine And.intro (fun q3=>?_) (fun q3=>?_)
   ·have q3:((ps (h.filter (yg ((os.getD j 0) - days))))+(loads.getD i 0)) > limit:=of_decide_eq_true q3
    first | (refine ZC ?_;show wC _ _ _ _ _ _ _ _ _) | skip
    show Zo _ _ _ _ _ _ _ _
    refine Zt (a:=(j:Int)) (b:=1) rfl rfl ⟨by omega,by omega⟩<|Za rfl<|Zb ?_
    exact ⟨m - 1,j+1,by omega,⟨by omega,hk,by omega,hs,⟨_,_,(os.getD j 0) - days,cw,hq,hdj,fun D hD=>by have:=qX s.up (by omega) D hD;omega⟩,hacc,ho,by rw [hf,XL (z:=0) (by omega),Zbw (by omega)]⟩,rfl,rfl,rfl,rfl,rfl,rfl,rfl,rfl,rfl,rfl,rfl,ivq (by omega),trivial⟩
   ·have q3:¬ (((ps (h.filter (yg ((os.getD j 0) - days))))+(loads.getD i 0)) > limit):=of_decide_eq_false q3
    first | refine Zj ?_ | skip
    refine Zc<|Za rfl<|Za rfl<|Zd (v:=.agg #[iv (os.getD j 0),iv (loads.getD i 0)]) rfl (by kernel_rfl) ?_
    have habo:=hacc.blk
    obtain ⟨H5,qa4,n4,c4,fH5,kH5,cw,hq,hl4,hfr⟩:=UU (kn:=kn) (lo:=lo) (H:=H4) cw hq rfl (by omega) (by omega) (by omega) (by omega) (s.dy.sub fun p hp=>(List.mem_filter.1 hp).1) (by omega) (p:=(⟨(os.getD j 0),(loads.getD i 0)⟩:Po)) (by exact hDr) hdy
    refine Zi (vs:=[pt H.next,.agg (Po.f (⟨(os.getD j 0),(loads.getD i 0)⟩:Po)).toArray]) rfl (Zf fH5) ?_
    have hd2:(h.filter (yg ((os.getD j 0) - days))).dropWhile (old (((⟨(os.getD j 0),(loads.getD i 0)⟩:Po)).d - days)) ++ [(⟨(os.getD j 0),(loads.getD i 0)⟩:Po)]=(h ++ [(⟨(os.getD j 0),(loads.getD i 0)⟩:Po)]).filter (yg ((os.getD j 0) - days)):=by rw [qI s.srt (Int.le_refl _),Zbu (by omega)]
    rw [hd2] at hq hl4;subst hl4
    have hk:=hk.new kH5 (fun x hx=>.inr (by rcases List.mem_cons.1 hx with e | hx;omega;(have:=hqb _ hx;omega)))
    have hs:=kH5.sl hs (fun x e0 hx=>by have:=fs x e0;rcases List.mem_cons.1 hx with e | hx;omega;(have:=hqb _ hx;omega))
    have ho:=ho.keep kH5 (fun x hx hx2=>by have:=hob x hx;rcases List.mem_cons.1 hx2 with e | hx2;omega;(have:=hqb _ hx2;omega))
    have hacc:=hacc.keepL kH5 (fun x hx hx2=>by have:=hab x hx;rcases List.mem_cons.1 hx2 with e | hx2;omega;exact hdj x hx2 hx)
    have mH5:=kH5.1;have hqb:=hq.blk;have hab:=hacc.blk
    have hdj:∀ x,x∈YJ qa4→x ∉ (bkv wv).toList:=fun x hx hx2=>by have:=hfr x hx;have:=habo x hx2;omega
    refine Zb<|Zc<|Za rfl<|Za rfl ?_
    obtain ⟨H6,hH6⟩:∃ H6,H5.new (.cells [iv (os.getD j 0)] 3 false)=H6:=⟨_,rfl⟩
    refine YD (H':=H6) (k:=.heavy) rfl (by kernel_rfl) ((Xz (v:=iv (os.getD j 0)) Zae zo3 rfl rfl rfl (by decide)).trans (by rw [← hH6];rfl)) (fun b e=>by cases e) ?_
    obtain ⟨kH6,nH6,c6⟩:=Yg hH6;clear hH6
    have c6:Cl H6 H5.next [iv (os.getD j 0)]:=c6
    have mH6:=kH6.1
    have hk:=hk.trans kH6
    have hs:=kH6.sl0 hs
    have hacc:=hacc.keepL kH6 (fun x hx=>by have:=hab x hx;simp)
    have ho:=ho.keep kH6 (fun x hx=>by have:=hob x hx;simp)
    have cw:=kH6.cl cw (by simp)
    have hq:=hq.keep kH6 (fun x hx=>by have:=hqb x hx;simp)
    obtain ⟨ax,cx,hwv,hqa⟩:=Qu.of_acc hacc
    subst hwv
    obtain ⟨H7,kdH7,eH7,dH7,aH7,kbH7⟩:=VD (P:=Try.prog) (lo:=lo) (t1:=42) Zae ZcD (c6.sl (Nat.le_refl 1)) rfl (by decide) rfl (by rw [qe,List.length_map];omega) (by omega) hqa (by omega) (f:=H.next+1) (by omega)
    refine YD (k:=kdH7) rfl (by kernel_rfl) (eH7 _ _ _ _ _ _ _ rfl rfl) (by intro x hx;rcases dH7 with q | ⟨bH7,q,_⟩<;>rw [q] at hx<;>cases hx) ?_
    have hqn:=hqa.blk;have hdj2:∀ x,x∈YJ ax→x∈(bkv (.slice ax h.length cx)).toList:=fun x hx=>by cases ax with | none=>simp [YJ] at hx | some a0=>simpa [YJ,bkv] using hx
    have hk:=hk.new kbH7 (fun x hx=>.inr (by have:=hqn x hx;omega))
    have hs:=kbH7.sl hs (fun x e0 hx=>by have:=fs x e0;have:=hqn x hx;omega)
    have ho:=ho.keep kbH7 (fun x hx hx2=>by have:=hob x hx;have:=hqn x hx2;omega)
    have cw:=kbH7.cl cw (fun hx=>by have:=hqn _ hx;omega)
    have hq:=hq.keep kbH7 (fun x hx hx2=>hdj x hx (hdj2 x hx2))
    have mH7:=kbH7.1
    have hdj:∀ x,x∈YJ qa4→x ∉ (bkv (.slice (some (⟨H6.next,0,none⟩:Addr)) (h.length+1) (h.length+1))).toList:=fun x hx hx2=>by have:=hqb x hx;simp [bkv] at hx2;omega
    have hacc2:Acc lo (H.next+1) 3 H7 (.slice (some ⟨H6.next,0,none⟩) (h.length+1) (h.length+1)) (h ++ [(⟨(os.getD j 0),(loads.getD i 0)⟩:Po)]).length (cI ((h ++ [(⟨(os.getD j 0),(loads.getD i 0)⟩:Po)]).map (·.d))):=by rcases aH7 with ⟨q,_⟩ | ⟨_,_,_,b9,o9,c9,q,_⟩ | ⟨b9,o9,c9,q,q0,qa1,qa2,qa3,qa4,q5,q6⟩<;>cases q;rw [List.drop_zero] at q6;subst q6;exact .inr ⟨H6.next,by rw [List.length_append];rfl,by rw [List.length_append];exact q0,qa1,qa2,qa3,by rw [List.map_append,Zav];exact qa4⟩
    have hqb:=hq.blk
    refine Za rfl<|Zb<|Zc<|Za rfl<|Za rfl<|Zt (a:=(j:Int)) (b:=1) rfl rfl ⟨by omega,by omega⟩ ?_
    obtain ⟨i3,hi3,hs3⟩:=i3s
    obtain ⟨o2,oc2,ob2,hsl,hb2,ho,hab2⟩:=Uz (lo:=lo) (k:=j+1) (j:=((j:Int)+1)) ZcD hi3 hs3 (by omega) ho (by rw [qe,hol,Nat.mul_one]) (by omega) (by omega) (by omega)
    refine YD (k:=.read ob2) rfl (by kernel_rfl) (hsl _ _ _ _ _ _ _ rfl rfl) (fun b e=>by cases e;exact hb2) ?_
    rw [ZaY] at ho;have hob:∀ x,x∈YJ o2→x < H.next:=fun x hx=>hob x (by rw [← hab2];exact hx)
    refine Za rfl<|Zb ?_
    first | (refine ZC ?_;show wC _ _ _ _ _ _ _ _ _) | skip
    show Zo _ _ _ _ _ _ _ _
    refine Zt (a:=(i:Int)) (b:=1) rfl rfl ⟨by omega,by omega⟩<|Za rfl<|Zb ?_
    exact ⟨k - 1,(i+1,_,_,_,_),by omega,⟨by simp only [];omega,hk,by omega,hs,_,_,h ++ [⟨(os.getD j 0),(loads.getD i 0)⟩],os.drop (j+1),(os.getD j 0) - days,cw,hq,hacc2,ho,by simp only [];rw [List.length_drop,hol],by simp only [];omega,hob,hdj,s.next (by omega) (by omega) (by omega) hld hf (by omega)⟩,rfl,rfl,rfl,rfl,rfl,rfl,rfl,ivq (by simp only [];omega),trivial⟩
  ·have q2:¬ ((j:Int) < (om:Int)):=of_decide_eq_false q2
   have hfn:W1 days limit h (loads.getD i 0) os=none:=by rw [hf,List.drop_eq_nil_of_le (by omega)];rfl
   first | (refine ZC ?_;show wC _ _ _ _ _ _ _ _ _) | skip
   refine Zc<|Za rfl<|Za rfl<|Zb ?_
   exact And.intro trivial (Exists.intro _ (And.intro rfl ⟨_,[],4,rfl,s.none (by omega) hfn,.inl ⟨rfl,rfl,rfl⟩,hk⟩))
 ·have q1:¬ ((i:Int) < (n:Int)):=of_decide_eq_false q1
  first | (refine ZC ?_;show wC _ _ _ _ _ _ _ _ _) | skip
  refine Zc<|Za rfl<|Za rfl<|Za rfl<|Zb ?_
  exact And.intro trivial (Exists.intro _ (And.intro rfl ⟨_,h.map (·.d),0,rfl,s.done (by omega),by rw [List.length_map];exact hacc.lowf (by omega),hk⟩))
end
end
end Go.Ax

/-
 Pool: Schedule,and the document of it (written by program).
-/
namespace Go.Ax
open Go Go.RowKit Go.Proofs

noncomputable section
def seT (loads:List Int) (ns:List Ns) (reach days limit frm to_:Int):List Int × Int:=
 if 64 < loads.length then ([],3) else if vN ns=false then ([],1) else if loads.any (Wl 72057594037927936)=true∨inB limit 0 72057594037927936=false∨inB reach 0 63=false∨inB days 1 366=false∨inB frm 0 16384=false∨inB to_ 0 16384=false then ([],2) else scE (Wi days limit [] (op ns reach frm (to_+1 - frm).toNat) loads)
section
variable {loads:List Int} {ns:List Ns} {reach days limit frm to_:Int}
theorem Zcg (h:64 < loads.length):seT loads ns reach days limit frm to_=([],3):=by unfold seT;rw [if_pos h]
theorem Zb4 (h:¬ 64 < loads.length) (k:vN ns=false):seT loads ns reach days limit frm to_=([],1):=by unfold seT;rw [if_neg h,if_pos k]
theorem W7 (h:¬ 64 < loads.length) (k:vN ns=true) (q:loads.any (Wl 72057594037927936)=true∨inB limit 0 72057594037927936=false∨inB reach 0 63=false∨inB days 1 366=false∨inB frm 0 16384=false∨inB to_ 0 16384=false):seT loads ns reach days limit frm to_=([],2):=by unfold seT;rw [if_neg h,if_neg (by rw [k];decide),if_pos q]
theorem ZdM (h:¬ 64 < loads.length) (k:vN ns=true) (q1:loads.any (Wl 72057594037927936)=false) (q2:inB limit 0 72057594037927936=true) (q3:inB reach 0 63=true) (q4:inB days 1 366=true) (q5:inB frm 0 16384=true) (q6:inB to_ 0 16384=true):seT loads ns reach days limit frm to_=scE (Wi days limit [] (op ns reach frm (to_+1 - frm).toNat) loads):=by
 unfold seT;rw [if_neg h,if_neg (by rw [k];decide),if_neg (by rw [q1,q2,q3,q4,q5,q6];decide)]
end
def py (h:List Po) (c:Int) (k:Nat):Int:=ps ((h.take k).filter (yg c))
structure Rst (ns:List Ns) (reach days limit to_:Int) (loads os0:List Int) (h:List Po) (day:Int) (i:Nat):Prop where
 len:h.length=i
 vl:Vl h
 dy:Dy h
 ld:∀ k,k < i→(h.getD k Po.z).l=loads.getD k 0
 tot:(Wi days limit h (op ns reach day (to_+1 - day).toNat) (loads.drop i)).map (h.map (·.d) ++ ·)=Wi days limit [] os0 loads
section
variable {ns:List Ns} {reach days limit to_ day D:Int} {loads os0:List Int} {h:List Po} {i:Nat}
theorem Rst.next (s:Rst ns reach days limit to_ loads os0 h day i) (hi:i < loads.length) (hl:0≤loads.getD i 0∧loads.getD i 0≤72057594037927936) (hD:0≤D∧D≤16384) (hDt:D≤to_) (hfr:frB ns reach D=true)
  (hf:W1 days limit h (loads.getD i 0) (op ns reach day (to_+1 - day).toNat)=W1 days limit h (loads.getD i 0) (op ns reach D (to_+1 - D).toNat)) (hc:loads.getD i 0+py h (D - days) i≤limit) :
  Rst ns reach days limit to_ loads os0 (h ++ [⟨D,loads.getD i 0⟩]) (D+1) (i+1):=by
 have e0:(to_+1 - D).toNat=(to_+1 - (D+1)).toNat+1:=by omega
 have e1:W1 days limit h (loads.getD i 0) (op ns reach day (to_+1 - day).toNat)=some (D,op ns reach (D+1) (to_+1 - (D+1)).toNat):=by
  rw [hf,e0,op,if_pos hfr]
  refine Zan ?_
  unfold py at hc
  rwa [List.take_of_length_le (by rw [s.len];exact Nat.le_refl _)] at hc
 refine ⟨by rw [List.length_append,s.len];rfl,fun p hp=>?_,fun p hp=>?_,fun k hk=>?_,?_⟩
 ·rcases List.mem_append.1 hp with q | q
  ·exact s.vl p q
  ·rw [List.mem_singleton] at q;subst q;exact hl
 ·rcases List.mem_append.1 hp with q | q
  ·exact s.dy p q
  ·rw [List.mem_singleton] at q;subst q;exact hD
 ·rw [List.getD_eq_getElem?_getD,List.getElem?_append,s.len]
  by_cases q:k < i
  ·rw [if_pos q,← List.getD_eq_getElem?_getD];exact s.ld k q
  ·rw [if_neg q,show k - i=0 by omega,show k=i by omega];rfl
 ·rw [← s.tot,XL (z:=0) hi,zw e1]
theorem Rst.done (s:Rst ns reach days limit to_ loads os0 h day i) (hi:i=loads.length):scE (Wi days limit [] os0 loads)=(h.map (·.d),0):=by
 rw [← s.tot,hi,List.drop_length,qO];rfl
end
section
variable {kn:Kn} {lo:Nat} {H:Hp}
set_option maxRecDepth 100000 in
set_option maxHeartbeats 4000000 in
theorem zz {loads:List Int} {la:Option Addr} {n lcap:Nat} (hs:Sl H la n lcap (cI loads)) (hl:loads.length=n) (hn:n≤1000000) {ns:List Ns} {na:Option Addr} {nn ncap:Nat} (hsn:Sl H na nn ncap (nsc ns)) (hln:ns.length=nn) (hnn:nn≤1000000) {reach days limit frm to_:Int} (h35:kn.b 35=none) (hlo:lo≤H.next):∃ v H',FnX Try.prog kn lo 22 [.slice la n lcap,.slice na nn ncap,iv reach,iv days,iv limit,iv frm,iv to_] H (.tuple #[v,iv (seT loads ns reach days limit frm to_).2]) H'∧Acc lo H.next 3 H' v (seT loads ns reach days limit frm to_).1.length (cI (seT loads ns reach days limit frm to_).1)∧Zh H H' []:=by
 have key:=Zp (kn:=kn) (lo:=lo) (H:=H) (args:=[.slice la n lcap,.slice na nn ncap,iv reach,iv days,iv limit,iv frm,iv to_]) (Q:=fun w H'=>∃ v,w=.tuple #[v,iv (seT loads ns reach days limit frm to_).2]∧Acc lo H.next 3 H' v (seT loads ns reach days limit frm to_).1.length (cI (seT loads ns reach days limit frm to_).1)∧Zh H H' []) Try.func22 B22 N22 Z22 L22 (by simp) ?_
 ·obtain ⟨w,H',h,v,rfl,q⟩:=key;exact ⟨v,H',h,q⟩
 have hk:=Zh.refl H []
 have fs:=hs.old
 have fn:=hsn.old
 refine Zc<|Za rfl<|Za rfl<|Zb<|Zc<|Za rfl<|Yd (m:=n) rfl<|YW (a:=(n:Int)) (b:=64) rfl rfl<|Zb ?_
 refine And.intro (fun q1=>?_) (fun q1=>?_)
 ·have q1:(n:Int) > 64:=of_decide_eq_true q1
  refine Zc<|Za rfl<|Za rfl<|Zb ?_
  exact And.intro trivial (Exists.intro _ (And.intro rfl ⟨_,by rw [Zcg (by omega)];rfl,by rw [Zcg (by omega)];exact .inl ⟨rfl,rfl,rfl⟩,hk⟩))
 ·have q1:¬ ((n:Int) > 64):=of_decide_eq_false q1
  first | refine Zj ?_ | skip
  refine Zc<|Za rfl<|Zu rfl (ZeE hsn hln hnn (by omega)) ?_
  intro tH1 H1 hH1 kH1
  have mH1:=kH1.1
  have hk:=hk.trans kH1
  have hs:=kH1.sl0 hs
  have hsn:=kH1.sl0 hsn
  cases tH1
  ·have hvn:vN ns=false:=hH1
   refine Zd (v:=.bool true) rfl rfl<|Zb<|ZN<|Zc<|Za rfl<|Za rfl<|Zb ?_
   exact And.intro trivial (Exists.intro _ (And.intro rfl ⟨_,by rw [Zb4 (by omega) hvn];rfl,by rw [Zb4 (by omega) hvn];exact .inl ⟨rfl,rfl,rfl⟩,hk⟩))
  ·have hvn:vN ns=true:=hH1
   obtain ⟨hl32,hanyN⟩:=ZeT hvn
   refine Zd (v:=.bool false) rfl rfl<|Zb<|ZK ?_
   first | refine Zj ?_ | skip
   refine Zc<|Za rfl<|Zu rfl (jF hs hl hn (m:=72057594037927936) (by omega)) ?_
   intro tH2 H2 hH2 kH2
   have mH2:=kH2.1
   have hk:=hk.trans kH2
   have hs:=kH2.sl0 hs
   have hsn:=kH2.sl0 hsn
   cases tH2
   ·have hvi:loads.any (Wl 72057594037927936)=true:=by simpa using hH2
    refine Zd (v:=.bool true) rfl rfl<|Za rfl<|Zg rfl<|Zg rfl<|Zg rfl<|Zd (v:=.bool true) rfl rfl<|Za rfl<|Zg rfl<|Zg rfl<|Zg rfl<|Zd (v:=.bool true) rfl rfl<|Zb<|ZN<|Zc<|Za rfl<|Za rfl<|Zb ?_
    exact And.intro trivial (Exists.intro _ (And.intro rfl ⟨_,by rw [W7 (by omega) hvn (by first | exact .inl (by assumption) | exact .inr (.inl (by assumption)) | exact .inr (.inr (.inl (by assumption))) | exact .inr (.inr (.inr (.inl (by assumption)))) | exact .inr (.inr (.inr (.inr (.inl (by assumption))))) | exact .inr (.inr (.inr (.inr (.inr (by assumption))))))];rfl,by rw [W7 (by omega) hvn (by first | exact .inl (by assumption) | exact .inr (.inl (by assumption)) | exact .inr (.inr (.inl (by assumption))) | exact .inr (.inr (.inr (.inl (by assumption)))) | exact .inr (.inr (.inr (.inr (.inl (by assumption))))) | exact .inr (.inr (.inr (.inr (.inr (by assumption))))))];exact .inl ⟨rfl,rfl,rfl⟩,hk⟩))
   ·have hvi:loads.any (Wl 72057594037927936)=false:=by simpa using hH2
    refine Zd (v:=.bool false) rfl rfl<|Za rfl ?_
    refine Zm rfl (Za rfl ?_)
    refine Zm rfl (Zu rfl (XG) ?_)
    intro tH3 H3 hH3 kH3
    have mH3:=kH3.1
    have hk:=hk.trans kH3
    have hs:=kH3.sl0 hs
    have hsn:=kH3.sl0 hsn
    cases tH3
    ·have thH3:inB limit 0 72057594037927936=false:=hH3
     have uhH3:=Xh thH3
     refine Zm rfl (Zd (v:=.bool true) rfl rfl ?_)
     refine Zd (v:=.bool true) rfl rfl<|Za rfl<|Zg rfl<|Zg rfl<|Zg rfl<|Zd (v:=.bool true) rfl rfl<|Zb<|ZN<|Zc<|Za rfl<|Za rfl<|Zb ?_
     exact And.intro trivial (Exists.intro _ (And.intro rfl ⟨_,by rw [W7 (by omega) hvn (by first | exact .inl (by assumption) | exact .inr (.inl (by assumption)) | exact .inr (.inr (.inl (by assumption))) | exact .inr (.inr (.inr (.inl (by assumption)))) | exact .inr (.inr (.inr (.inr (.inl (by assumption))))) | exact .inr (.inr (.inr (.inr (.inr (by assumption))))))];rfl,by rw [W7 (by omega) hvn (by first | exact .inl (by assumption) | exact .inr (.inl (by assumption)) | exact .inr (.inr (.inl (by assumption))) | exact .inr (.inr (.inr (.inl (by assumption)))) | exact .inr (.inr (.inr (.inr (.inl (by assumption))))) | exact .inr (.inr (.inr (.inr (.inr (by assumption))))))];exact .inl ⟨rfl,rfl,rfl⟩,hk⟩))
    ·have thH3:inB limit 0 72057594037927936=true:=hH3
     have uhH3:=Y0 thH3
     refine Zm rfl (Zd (v:=.bool false) rfl rfl ?_)
     refine Zd (v:=.bool false) rfl rfl<|Za rfl ?_
     refine Zm rfl (Za rfl ?_)
     refine Zm rfl (Zu rfl (XG) ?_)
     intro tH4 H4 hH4 kH4
     have mH4:=kH4.1
     have hk:=hk.trans kH4
     have hs:=kH4.sl0 hs
     have hsn:=kH4.sl0 hsn
     cases tH4
     ·have thH4:inB reach 0 63=false:=hH4
      have uhH4:=Xh thH4
      refine Zm rfl (Zd (v:=.bool true) rfl rfl ?_)
      refine Zd (v:=.bool true) rfl rfl<|Zb<|ZN<|Zc<|Za rfl<|Za rfl<|Zb ?_
      exact And.intro trivial (Exists.intro _ (And.intro rfl ⟨_,by rw [W7 (by omega) hvn (by first | exact .inl (by assumption) | exact .inr (.inl (by assumption)) | exact .inr (.inr (.inl (by assumption))) | exact .inr (.inr (.inr (.inl (by assumption)))) | exact .inr (.inr (.inr (.inr (.inl (by assumption))))) | exact .inr (.inr (.inr (.inr (.inr (by assumption))))))];rfl,by rw [W7 (by omega) hvn (by first | exact .inl (by assumption) | exact .inr (.inl (by assumption)) | exact .inr (.inr (.inl (by assumption))) | exact .inr (.inr (.inr (.inl (by assumption)))) | exact .inr (.inr (.inr (.inr (.inl (by assumption))))) | exact .inr (.inr (.inr (.inr (.inr (by assumption))))))];exact .inl ⟨rfl,rfl,rfl⟩,hk⟩))
     ·have thH4:inB reach 0 63=true:=hH4
      have uhH4:=Y0 thH4
      refine Zm rfl (Zd (v:=.bool false) rfl rfl ?_)
      refine Zd (v:=.bool false) rfl rfl<|Zb<|ZK ?_
      first | refine Zj ?_ | skip
      refine Zc<|Za rfl<|Zu rfl (K5) ?_
      intro tH5 H5 hH5 kH5
      have mH5:=kH5.1
      have hk:=hk.trans kH5
      have hs:=kH5.sl0 hs
      have hsn:=kH5.sl0 hsn
      cases tH5
      ·have thH5:inB days 1 366=false:=hH5
       have uhH5:=Xh thH5
       refine Zd (v:=.bool true) rfl rfl<|Za rfl<|Zg rfl<|Zg rfl<|Zg rfl<|Zd (v:=.bool true) rfl rfl<|Za rfl<|Zg rfl<|Zg rfl<|Zg rfl<|Zd (v:=.bool true) rfl rfl<|Zb<|ZN<|Zc<|Za rfl<|Za rfl<|Zb ?_
       exact And.intro trivial (Exists.intro _ (And.intro rfl ⟨_,by rw [W7 (by omega) hvn (by first | exact .inl (by assumption) | exact .inr (.inl (by assumption)) | exact .inr (.inr (.inl (by assumption))) | exact .inr (.inr (.inr (.inl (by assumption)))) | exact .inr (.inr (.inr (.inr (.inl (by assumption))))) | exact .inr (.inr (.inr (.inr (.inr (by assumption))))))];rfl,by rw [W7 (by omega) hvn (by first | exact .inl (by assumption) | exact .inr (.inl (by assumption)) | exact .inr (.inr (.inl (by assumption))) | exact .inr (.inr (.inr (.inl (by assumption)))) | exact .inr (.inr (.inr (.inr (.inl (by assumption))))) | exact .inr (.inr (.inr (.inr (.inr (by assumption))))))];exact .inl ⟨rfl,rfl,rfl⟩,hk⟩))
      ·have thH5:inB days 1 366=true:=hH5
       have uhH5:=Y0 thH5
       refine Zd (v:=.bool false) rfl rfl<|Za rfl ?_
       refine Zm rfl (Za rfl ?_)
       refine Zm rfl (Zu rfl (XG) ?_)
       intro tH6 H6 hH6 kH6
       have mH6:=kH6.1
       have hk:=hk.trans kH6
       have hs:=kH6.sl0 hs
       have hsn:=kH6.sl0 hsn
       cases tH6
       ·have thH6:inB frm 0 16384=false:=hH6
        have uhH6:=Xh thH6
        refine Zm rfl (Zd (v:=.bool true) rfl rfl ?_)
        refine Zd (v:=.bool true) rfl rfl<|Za rfl<|Zg rfl<|Zg rfl<|Zg rfl<|Zd (v:=.bool true) rfl rfl<|Zb<|ZN<|Zc<|Za rfl<|Za rfl<|Zb ?_
        exact And.intro trivial (Exists.intro _ (And.intro rfl ⟨_,by rw [W7 (by omega) hvn (by first | exact .inl (by assumption) | exact .inr (.inl (by assumption)) | exact .inr (.inr (.inl (by assumption))) | exact .inr (.inr (.inr (.inl (by assumption)))) | exact .inr (.inr (.inr (.inr (.inl (by assumption))))) | exact .inr (.inr (.inr (.inr (.inr (by assumption))))))];rfl,by rw [W7 (by omega) hvn (by first | exact .inl (by assumption) | exact .inr (.inl (by assumption)) | exact .inr (.inr (.inl (by assumption))) | exact .inr (.inr (.inr (.inl (by assumption)))) | exact .inr (.inr (.inr (.inr (.inl (by assumption))))) | exact .inr (.inr (.inr (.inr (.inr (by assumption))))))];exact .inl ⟨rfl,rfl,rfl⟩,hk⟩))
       ·have thH6:inB frm 0 16384=true:=hH6
        have uhH6:=Y0 thH6
        refine Zm rfl (Zd (v:=.bool false) rfl rfl ?_)
        refine Zd (v:=.bool false) rfl rfl<|Za rfl ?_
        refine Zm rfl (Za rfl ?_)
        refine Zm rfl (Zu rfl (XG) ?_)
        intro tH7 H7 hH7 kH7
        have mH7:=kH7.1
        have hk:=hk.trans kH7
        have hs:=kH7.sl0 hs
        have hsn:=kH7.sl0 hsn
        cases tH7
        ·have thH7:inB to_ 0 16384=false:=hH7
         have uhH7:=Xh thH7
         refine Zm rfl (Zd (v:=.bool true) rfl rfl ?_)
         refine Zd (v:=.bool true) rfl rfl<|Zb<|ZN<|Zc<|Za rfl<|Za rfl<|Zb ?_
         exact And.intro trivial (Exists.intro _ (And.intro rfl ⟨_,by rw [W7 (by omega) hvn (by first | exact .inl (by assumption) | exact .inr (.inl (by assumption)) | exact .inr (.inr (.inl (by assumption))) | exact .inr (.inr (.inr (.inl (by assumption)))) | exact .inr (.inr (.inr (.inr (.inl (by assumption))))) | exact .inr (.inr (.inr (.inr (.inr (by assumption))))))];rfl,by rw [W7 (by omega) hvn (by first | exact .inl (by assumption) | exact .inr (.inl (by assumption)) | exact .inr (.inr (.inl (by assumption))) | exact .inr (.inr (.inr (.inl (by assumption)))) | exact .inr (.inr (.inr (.inr (.inl (by assumption))))) | exact .inr (.inr (.inr (.inr (.inr (by assumption))))))];exact .inl ⟨rfl,rfl,rfl⟩,hk⟩))
        ·have thH7:inB to_ 0 16384=true:=hH7
         have uhH7:=Y0 thH7
         refine Zm rfl (Zd (v:=.bool false) rfl rfl ?_)
         refine Zd (v:=.bool false) rfl rfl<|Zb<|ZK ?_
         first | refine Zj ?_ | skip
         refine Zc<|Za rfl<|Za rfl<|Za rfl<|Za rfl<|Za rfl ?_
         obtain ⟨vo,H8,fH8,haccO,kH8⟩:=ze (kn:=kn) (lo:=lo) (H:=H7) (reach:=reach) (frm:=frm) (to_:=to_) hsn hln (by omega) hanyN (by omega) (by omega) (by omega)
         obtain ⟨oa,oc,rfl,hqo⟩:=Qu.of_acc haccO;have hqo:=hqo.mono (Nat.zero_le _);rw [K4] at hqo
         refine Zi (vs:=[.slice na nn ncap,iv reach,iv frm,iv to_]) rfl (Zf fH8) ?_
         have mH8:=kH8.1
         have hk:=hk.trans kH8
         have hs:=kH8.sl0 hs
         have hsn:=kH8.sl0 hsn
         have hol:(op ns reach frm (to_+1 - frm).toNat).length≤16385:=by rw [← K4];exact Nat.le_trans Ky (by omega)
         rw [K4]
         refine Za rfl<|Za rfl ?_
         obtain ⟨ve,pl,ee,H9,fH9,hse0,hacc,kH9⟩:=z4 (kn:=kn) (lo:=lo) (H:=H8) hs hl (by omega) hqo rfl (by omega) (fun D hD=>by have:=qS hD;omega) Zak (fun l hl2=>by have:=VJ hvi l hl2;simp only [Wl,Bool.not_eq_false'] at this;exact Y0 this) (days:=days) (limit:=limit) (by omega) (by omega) (by omega)
         refine Zi (vs:=[.slice la n lcap,.slice oa ((op ns reach frm (to_+1 - frm).toNat).length) oc,iv days,iv limit]) rfl (Zf fH9) ?_
         have mH9:=kH9.1
         have hk:=hk.trans kH9
         have hs:=kH9.sl0 hs
         have hsn:=kH9.sl0 hsn
         have hqo:=hqo.keep kH9 (fun x hx=>by simp)
         have hse:seT loads ns reach days limit frm to_=(pl,ee):=(ZdM (by omega) hvn hvi (by assumption) (by assumption) (by assumption) (by assumption) (by assumption)).trans hse0
         have hacc:=hacc.lowf (f':=H.next) (by omega)
         refine Zd (v:=ve) rfl (by kernel_rfl)<|Zd (v:=iv ee) rfl (by kernel_rfl)<|Za rfl<|Za rfl<|Zb ?_
         exact And.intro trivial (Exists.intro _ (And.intro rfl ⟨_,by rw [hse];rfl,by rw [hse];exact hacc,hk⟩))
set_option maxRecDepth 100000 in
theorem jL {xs:List Int} {a1 a2:Option Addr} {n c1 c2:Nat} (ha:Sl H a1 n c1 (cI xs)) (hb:Sl H a2 n c2 (cI xs)) (hl:xs.length=n) (hn:n≤1000000) (hlo:lo≤H.next):∃ H',FnX Try.prog kn lo 24 [.slice a1 n c1,.slice a2 n c2] H (.bool true) H'∧Zh H H' []:=by
 have key:=Zp (kn:=kn) (lo:=lo) (H:=H) (args:=[.slice a1 n c1,.slice a2 n c2]) (Q:=fun w H'=>w=(.bool true)∧Zh H H' []) Try.func24 B24 N24 Z24 L24 (by simp) ?_
 ·obtain ⟨w,H',h,rfl,q⟩:=key;exact ⟨H',h,q⟩
 have hk:=Zh.refl H []
 have fa:=ha.old
 have fb:=hb.old
 refine Zc<|Za rfl<|Zb<|Zc<|Za rfl<|Yd (m:=n) rfl<|Za rfl<|Yd (m:=n) rfl<|Jj (a:=(n:Int)) (b:=(n:Int)) rfl rfl<|Zb ?_
 refine And.intro (fun q1=>?_) (fun q1=>?_)
 ·have q1:(n:Int)≠(n:Int):=by simpa using q1
  omega
 ·have q1:¬ ((n:Int)≠(n:Int)):=by simpa using q1
  first | refine Zj ?_ | skip
  refine Zc<|Za rfl<|Zb ?_
  refine ZA (fn:=Try.f24) ZeD N24 Zdg (fun i:Nat=>[(0,.slice a1 n c1),(1,.slice a2 n c2),(5,iv (i:Int))])
   (fun k i H'=>i+k=n∧Zh H H' []∧Sl H' a1 n c1 (cI xs)∧Sl H' a2 n c2 (cI xs)) n 0 ⟨by omega,hk,ha,hb⟩ ⟨rfl,rfl,rfl,trivial⟩ ?_
  rintro k i L1 ⟨hik,hk,ha,hb⟩
  have mk:=hk.1
  refine Zc<|Za rfl<|Za rfl<|Yd (m:=n) rfl<|ZB (a:=(i:Int)) (b:=(n:Int)) rfl rfl<|Zb ?_
  refine And.intro (fun q2=>?_) (fun q2=>?_)
  ·have q2:(i:Int) < (n:Int):=of_decide_eq_true q2
   have hi:i < n:=by omega
   rcases id ha with ⟨_,h0s,_⟩ | ⟨sb,es,rs,_⟩
   ·omega
   have ls:=rs.1
   rcases id hb with ⟨_,h0t,_⟩ | ⟨tb,et,rt,_⟩
   ·omega
   have lt:=rt.1
   have lsb2:=fa sb es;have ltb2:=fb tb et
   first | refine Zj ?_ | skip
   refine Xu<|Zk rfl<|Zk rfl<|Yb (b:=sb) (o:=0) (k:=i) (j:=(i:Int)) (by rw [← es];rfl) rfl rfl hi<|XA (b:=sb) (o:=0+i * 1) (v:=iv (xs.getD i 0)) rfl rs (zM (by omega))<|Zk rfl<|Zk rfl<|Yb (b:=tb) (o:=0) (k:=i) (j:=(i:Int)) (by rw [← et];rfl) rfl rfl hi<|XA (b:=tb) (o:=0+i * 1) (v:=iv (xs.getD i 0)) rfl rt (zM (by omega))<|Zad (a:=(xs.getD i 0)) (b:=(xs.getD i 0)) rfl rfl ?_
   refine Yo (by repeat' first | exact True.intro | exact (fun h=>h) | refine And.intro ?_ ?_ | (intro h;have h:(_:Nat)=_:=h;omega)) ?_
   refine And.intro (fun q3=>?_) (fun q3=>?_)
   ·have q3:(xs.getD i 0)≠(xs.getD i 0):=by simpa using q3
    omega
   ·have q3:¬ ((xs.getD i 0)≠(xs.getD i 0)):=by simpa using q3
    first | refine Zj ?_ | skip
    show Zo _ _ _ _ _ _ _ _
    refine Za rfl<|Zt (a:=(i:Int)) (b:=1) rfl rfl ⟨by omega,by omega⟩<|Za rfl<|Zb ?_
    exact ⟨k - 1,i+1,by omega,⟨by omega,hk,ha,hb⟩,rfl,rfl,ivq (by omega),trivial⟩
  ·have q2:¬ ((i:Int) < (n:Int)):=of_decide_eq_false q2
   first | (refine ZC ?_;show wC _ _ _ _ _ _ _ _ _) | skip
   refine Zc<|Za rfl<|Zb ?_
   exact And.intro trivial (Exists.intro _ (And.intro rfl ⟨rfl,hk⟩))
end
end
end Go.Ax

/-
 Pool: the examples of the document (written by program).
-/
namespace Go.Ax
open Go Go.RowKit Go.Proofs

noncomputable section
def smp:List Dc:=[⟨10,1000,1200,50,60⟩,⟨12,500,500,100,100⟩,⟨15,2000,2000,30,40⟩]
theorem ZcA:paT smp 6 150000=(15,15,0):=by kernel_rfl
theorem ZcK:alT smp 6 250000 13=(48000,0):=by kernel_rfl
theorem ZcM:mxT ⟨1000,2000,10000,11000⟩ ⟨500,500,20000,20000⟩=((12000,14000),0):=by kernel_rfl
theorem Zc0:moT ⟨1000,2000,10000,11000⟩ 20000 20000 13000=(285,0):=by kernel_rfl
theorem ZcU:seT [60,60,60] [⟨4,8,9⟩] 4 3 100 5 20=([5,10,13],0):=by kernel_rfl
theorem Zdd:baT ⟨1000,1100,500,500,200,300,40,50,10,12⟩=((600,1000),(400,600),0):=by kernel_rfl
section
variable {kn:Kn} {lo:Nat} {H:Hp}
set_option maxRecDepth 100000 in
theorem Yp {a b:Int} (hlo:lo≤H.next):∃ H',FnX Try.prog kn lo 31 [iv a,iv b] H (.agg #[iv a,iv b]) H'∧Zh H H' []:=by
 have key:=Zp (kn:=kn) (lo:=lo) (H:=H) (args:=[iv a,iv b]) (Q:=fun w H'=>w=(.agg #[iv a,iv b])∧Zh H H' []) Try.func31 B31 N31 Z31 L31 (by simp) ?_
 ·obtain ⟨w,H',h,rfl,q⟩:=key;exact ⟨H',h,q⟩
 have hk:=Zh.refl H []
 refine Zc<|Yq ?_
 intro H1 kH1 nH1 c1
 have c1:Cl H1 H.next [iv 0,iv 0]:=c1
 have mH1:=kH1.1
 have hk:=hk.trans kH1
 refine Zb<|Zc<|Za rfl<|Za rfl<|Zd (v:=.agg #[iv a,iv b]) rfl (by kernel_rfl)<|Z6 (b:=H.next) (o:=0) rfl rfl c1 (by omega) rfl rfl (by simp) ?_
 intro H2 kH2 nH2 sH2
 have mH2:=kH2.1
 have hk:=hk.new kH2 (fun b hb=>by simp at hb ⊢;omega)
 have c1:Cl H2 H.next [iv a,iv b]:=sH2
 refine Zb ?_
 exact And.intro trivial (Exists.intro _ (And.intro (Uo rfl a31 Qi rfl c1) ⟨rfl,hk⟩))
theorem Kc (hlo:lo≤H.next):∃ b H',FnX Try.prog kn lo 30 [] H (.slice (some ⟨b,0,none⟩) 3 3) H'∧Zh H H' []∧H.next≤b∧Rd H' b (dcc smp):=by
 have key:=Zp (kn:=kn) (lo:=lo) (H:=H) (args:=[]) (Q:=fun w H'=>∃ b,w=.slice (some ⟨b,0,none⟩) 3 3∧Zh H H' []∧H.next≤b∧Rd H' b (dcc smp)) Try.func30 B30 N30 Z30 L30 (by simp) ?_
 ·obtain ⟨w,H',h,b,rfl,q⟩:=key;exact ⟨b,H',h,q⟩
 have hk:=Zh.refl H []
 refine Zc<|Za rfl<|Zb<|Zc ?_
 obtain ⟨H1,fH1,kH1⟩:=Yp (kn:=kn) (lo:=lo) (H:=H) (a:=1000) (b:=1200) (by omega)
 refine Zi (vs:=[iv 1000,iv 1200]) rfl (Zf fH1) ?_
 have mH1:=kH1.1
 have hk:=hk.trans kH1
 obtain ⟨H2,fH2,kH2⟩:=Yp (kn:=kn) (lo:=lo) (H:=H1) (a:=50) (b:=60) (by omega)
 refine Zi (vs:=[iv 50,iv 60]) rfl (Zf fH2) ?_
 have mH2:=kH2.1
 have hk:=hk.trans kH2
 refine Zd (v:=.agg #[iv 10,iv 1000,iv 1200,iv 50,iv 60]) rfl (by kernel_rfl) ?_
 obtain ⟨H3,fH3,kH3⟩:=Yp (kn:=kn) (lo:=lo) (H:=H2) (a:=500) (b:=500) (by omega)
 refine Zi (vs:=[iv 500,iv 500]) rfl (Zf fH3) ?_
 have mH3:=kH3.1
 have hk:=hk.trans kH3
 obtain ⟨H4,fH4,kH4⟩:=Yp (kn:=kn) (lo:=lo) (H:=H3) (a:=100) (b:=100) (by omega)
 refine Zi (vs:=[iv 100,iv 100]) rfl (Zf fH4) ?_
 have mH4:=kH4.1
 have hk:=hk.trans kH4
 refine Zd (v:=.agg #[iv 12,iv 500,iv 500,iv 100,iv 100]) rfl (by kernel_rfl) ?_
 obtain ⟨H5,fH5,kH5⟩:=Yp (kn:=kn) (lo:=lo) (H:=H4) (a:=2000) (b:=2000) (by omega)
 refine Zi (vs:=[iv 2000,iv 2000]) rfl (Zf fH5) ?_
 have mH5:=kH5.1
 have hk:=hk.trans kH5
 obtain ⟨H6,fH6,kH6⟩:=Yp (kn:=kn) (lo:=lo) (H:=H5) (a:=30) (b:=40) (by omega)
 refine Zi (vs:=[iv 30,iv 40]) rfl (Zf fH6) ?_
 have mH6:=kH6.1
 have hk:=hk.trans kH6
 refine Zd (v:=.agg #[iv 15,iv 2000,iv 2000,iv 30,iv 40]) rfl (by kernel_rfl) ?_
 obtain ⟨H7,hH7⟩:∃ H7,H6.new (.cells [iv 10,iv 1000,iv 1200,iv 50,iv 60,iv 12,iv 500,iv 500,iv 100,iv 100,iv 15,iv 2000,iv 2000,iv 30,iv 40] 52 false)=H7:=⟨_,rfl⟩
 refine YD (H':=H7) (k:=.heavy) rfl (by kernel_rfl) ((ZaO (a:=⟨10,1000,1200,50,60⟩) (b:=⟨12,500,500,100,100⟩) (c:=⟨15,2000,2000,30,40⟩) rfl rfl rfl).trans (by first | (rw [← hH7];done) | (rw [← hH7];rfl))) (fun b e=>by cases e) ?_
 obtain ⟨kH7,nH7,c7⟩:=Yg hH7;clear hH7
 have c7:Cl H7 H6.next [iv 10,iv 1000,iv 1200,iv 50,iv 60,iv 12,iv 500,iv 500,iv 100,iv 100,iv 15,iv 2000,iv 2000,iv 30,iv 40]:=c7
 have mH7:=kH7.1
 have hk:=hk.trans kH7
 refine Za rfl<|Zb ?_
 exact And.intro trivial (Exists.intro _ (And.intro rfl ⟨H6.next,rfl,hk,by omega,c7.rd⟩))
set_option maxHeartbeats 4000000 in
set_option maxRecDepth 100000 in
theorem yb (hkn:∀ f,kn.b f=none) (hlo:lo≤H.next):∃ H',FnX Try.prog kn lo 11 [] H (.bool true) H'∧Zh H H' []:=by
 have key:=Zp (kn:=kn) (lo:=lo) (H:=H) (args:=[]) (Q:=fun w H'=>w=(.bool true)∧Zh H H' []) Try.func11 B11 N11 Z11 L11 (by simp) ?_
 ·obtain ⟨w,H',h,rfl,q⟩:=key;exact ⟨H',h,q⟩
 have hk:=Zh.refl H []
 refine Zc<|Za rfl<|Zb<|Zc ?_
 obtain ⟨bz2,H1,fH1,kH1,hbz2,rdz2⟩:=Kc (kn:=kn) (lo:=lo) (H:=H) (by omega)
 refine Zi (vs:=[]) rfl (YR (hkn 30) fH1) ?_
 have mH1:=kH1.1
 have hk:=hk.trans kH1
 have slz2:Sl H1 (some ⟨bz2,0,none⟩) 3 3 (dcc smp):=.inr ⟨bz2,rfl,rdz2,Nat.le_refl _⟩;have fsz2:=slz2.old
 obtain ⟨H3,fH3,kH3⟩:=Kf (kn:=kn) (lo:=lo) (H:=H1) slz2 rfl (by omega) (by omega) (hkn 35) (days:=6) (limit:=150000)
 rw [ZcA] at fH3
 refine Zi (vs:=[.slice (some ⟨bz2,0,none⟩) 3 3,iv 6,iv 150000]) rfl (Zf fH3) ?_
 have mH3:=kH3.1
 have hk:=hk.trans kH3
 have slz2:=kH3.sl0 slz2
 refine Za rfl<|Zd (v:=iv 15) rfl (by kernel_rfl)<|Zd (v:=iv 15) rfl (by kernel_rfl)<|Zd (v:=iv 0) rfl (by kernel_rfl)<|Za rfl<|Za rfl<|Za rfl<|Zb<|Zc ?_
 obtain ⟨bz5,H4,fH4,kH4,hbz5,rdz5⟩:=Kc (kn:=kn) (lo:=lo) (H:=H3) (by omega)
 refine Zi (vs:=[]) rfl (YR (hkn 30) fH4) ?_
 have mH4:=kH4.1
 have hk:=hk.trans kH4
 have slz2:=kH4.sl0 slz2
 have slz5:Sl H4 (some ⟨bz5,0,none⟩) 3 3 (dcc smp):=.inr ⟨bz5,rfl,rdz5,Nat.le_refl _⟩;have fsz5:=slz5.old
 obtain ⟨H6,fH6,kH6⟩:=z6 (kn:=kn) (lo:=lo) (H:=H4) slz5 rfl (by omega) (by omega) (hkn 35) (days:=6) (limit:=250000) (day:=13)
 rw [ZcK] at fH6
 refine Zi (vs:=[.slice (some ⟨bz5,0,none⟩) 3 3,iv 6,iv 250000,iv 13]) rfl (Zf fH6) ?_
 have mH6:=kH6.1
 have hk:=hk.trans kH6
 have slz2:=kH6.sl0 slz2
 have slz5:=kH6.sl0 slz5
 refine Za rfl<|Zd (v:=iv 48000) rfl (by kernel_rfl)<|Zd (v:=iv 0) rfl (by kernel_rfl)<|Za rfl<|Za rfl<|Zb<|Zc ?_
 obtain ⟨H7,fH7,kH7⟩:=Yp (kn:=kn) (lo:=lo) (H:=H6) (a:=1000) (b:=2000) (by omega)
 refine Zi (vs:=[iv 1000,iv 2000]) rfl (Zf fH7) ?_
 have mH7:=kH7.1
 have hk:=hk.trans kH7
 have slz2:=kH7.sl0 slz2
 have slz5:=kH7.sl0 slz5
 obtain ⟨H8,fH8,kH8⟩:=Yp (kn:=kn) (lo:=lo) (H:=H7) (a:=10000) (b:=11000) (by omega)
 refine Zi (vs:=[iv 10000,iv 11000]) rfl (Zf fH8) ?_
 have mH8:=kH8.1
 have hk:=hk.trans kH8
 have slz2:=kH8.sl0 slz2
 have slz5:=kH8.sl0 slz5
 refine Zd (v:=.agg #[iv 1000,iv 2000,iv 10000,iv 11000]) rfl (by kernel_rfl) ?_
 obtain ⟨H9,fH9,kH9⟩:=Yp (kn:=kn) (lo:=lo) (H:=H8) (a:=500) (b:=500) (by omega)
 refine Zi (vs:=[iv 500,iv 500]) rfl (Zf fH9) ?_
 have mH9:=kH9.1
 have hk:=hk.trans kH9
 have slz2:=kH9.sl0 slz2
 have slz5:=kH9.sl0 slz5
 obtain ⟨H10,fH10,kH10⟩:=Yp (kn:=kn) (lo:=lo) (H:=H9) (a:=20000) (b:=20000) (by omega)
 refine Zi (vs:=[iv 20000,iv 20000]) rfl (Zf fH10) ?_
 have mH10:=kH10.1
 have hk:=hk.trans kH10
 have slz2:=kH10.sl0 slz2
 have slz5:=kH10.sl0 slz5
 refine Zd (v:=.agg #[iv 500,iv 500,iv 20000,iv 20000]) rfl (by kernel_rfl) ?_
 obtain ⟨H11,fH11,kH11⟩:=Zcv (kn:=kn) (lo:=lo) (H:=H10) (hkn 35) (a:=(⟨1000,2000,10000,11000⟩:Fw)) (b:=(⟨500,500,20000,20000⟩:Fw)) (by omega)
 rw [ZcM] at fH11
 refine Zi (vs:=[.agg (Fw.f (⟨1000,2000,10000,11000⟩:Fw)).toArray,.agg (Fw.f (⟨500,500,20000,20000⟩:Fw)).toArray]) rfl (Zf fH11) ?_
 have mH11:=kH11.1
 have hk:=hk.trans kH11
 have slz2:=kH11.sl0 slz2
 have slz5:=kH11.sl0 slz5
 refine Za rfl<|Zd (v:=.agg #[iv 12000,iv 14000]) rfl (by kernel_rfl)<|Zd (v:=iv 0) rfl (by kernel_rfl)<|Yq ?_
 intro H12 kH12 nH12 c12
 have c12:Cl H12 H11.next [iv 0,iv 0]:=c12
 have mH12:=kH12.1
 have hk:=hk.trans kH12
 have slz2:=kH12.sl0 slz2
 have slz5:=kH12.sl0 slz5
 refine Z6 (b:=H11.next) (o:=0) rfl rfl c12 (by omega) rfl rfl (by simp) ?_
 intro H13 kH13 nH13 sH13
 have mH13:=kH13.1
 have hk:=hk.new kH13 (fun b hb=>by simp at hb ⊢;omega)
 have slz2:=kH13.sl slz2 (fun b e=>by have:=fsz2 b e;first | (simp;done) | (simp;omega))
 have slz5:=kH13.sl slz5 (fun b e=>by have:=fsz5 b e;first | (simp;done) | (simp;omega))
 have c12:Cl H13 H11.next [iv 12000,iv 14000]:=sH13
 refine Za rfl<|Zb<|Zc ?_
 obtain ⟨H14,fH14,kH14⟩:=Yp (kn:=kn) (lo:=lo) (H:=H13) (a:=1000) (b:=2000) (by omega)
 refine Zi (vs:=[iv 1000,iv 2000]) rfl (Zf fH14) ?_
 have mH14:=kH14.1
 have hk:=hk.trans kH14
 have slz2:=kH14.sl0 slz2
 have slz5:=kH14.sl0 slz5
 have c12:=kH14.cl c12 (by simp)
 obtain ⟨H15,fH15,kH15⟩:=Yp (kn:=kn) (lo:=lo) (H:=H14) (a:=10000) (b:=11000) (by omega)
 refine Zi (vs:=[iv 10000,iv 11000]) rfl (Zf fH15) ?_
 have mH15:=kH15.1
 have hk:=hk.trans kH15
 have slz2:=kH15.sl0 slz2
 have slz5:=kH15.sl0 slz5
 have c12:=kH15.cl c12 (by simp)
 refine Zd (v:=.agg #[iv 1000,iv 2000,iv 10000,iv 11000]) rfl (by kernel_rfl) ?_
 obtain ⟨H16,fH16,kH16⟩:=Yp (kn:=kn) (lo:=lo) (H:=H15) (a:=20000) (b:=20000) (by omega)
 refine Zi (vs:=[iv 20000,iv 20000]) rfl (Zf fH16) ?_
 have mH16:=kH16.1
 have hk:=hk.trans kH16
 have slz2:=kH16.sl0 slz2
 have slz5:=kH16.sl0 slz5
 have c12:=kH16.cl c12 (by simp)
 obtain ⟨H17,fH17,kH17⟩:=ZbK (kn:=kn) (lo:=lo) (H:=H16) (a:=(⟨1000,2000,10000,11000⟩:Fw)) (l:=20000) (h:=20000) (limit:=13000) (by omega)
 rw [Zc0] at fH17
 refine Zi (vs:=[.agg (Fw.f (⟨1000,2000,10000,11000⟩:Fw)).toArray,.agg #[iv 20000,iv 20000],iv 13000]) rfl (Zf fH17) ?_
 have mH17:=kH17.1
 have hk:=hk.trans kH17
 have slz2:=kH17.sl0 slz2
 have slz5:=kH17.sl0 slz5
 have c12:=kH17.cl c12 (by simp)
 refine Za rfl<|Zd (v:=iv 285) rfl (by kernel_rfl)<|Zd (v:=iv 0) rfl (by kernel_rfl)<|Za rfl<|Za rfl<|Zb<|Zc ?_
 obtain ⟨H18,hH18⟩:∃ H18,H17.new (.cells [iv 60,iv 60,iv 60] 3 false)=H18:=⟨_,rfl⟩
 refine YD (H':=H18) (k:=.heavy) rfl (by kernel_rfl) ((zO (a:=60) (b:=60) (c:=60) rfl rfl rfl).trans (by first | (rw [← hH18];done) | (rw [← hH18];rfl))) (fun b e=>by cases e) ?_
 obtain ⟨kH18,nH18,c18⟩:=Yg hH18;clear hH18
 have c18:Cl H18 H17.next [iv 60,iv 60,iv 60]:=c18
 have mH18:=kH18.1
 have hk:=hk.trans kH18
 have slz2:=kH18.sl0 slz2
 have slz5:=kH18.sl0 slz5
 have c12:=kH18.cl c12 (by simp)
 refine Zd (v:=.agg #[iv 4,iv 8,iv 9]) rfl (by kernel_rfl) ?_
 obtain ⟨H19,hH19⟩:∃ H19,H18.new (.cells [iv 4,iv 8,iv 9] 68 false)=H19:=⟨_,rfl⟩
 refine YD (H':=H19) (k:=.heavy) rfl (by kernel_rfl) ((Xz (v:=.agg #[iv 4,iv 8,iv 9]) ZeO ZeL rfl rfl rfl (by decide)).trans (by rw [← hH19];rfl)) (fun b e=>by cases e) ?_
 obtain ⟨kH19,nH19,c19⟩:=Yg hH19;clear hH19
 have c19:Cl H19 H18.next [iv 4,iv 8,iv 9]:=c19
 have mH19:=kH19.1
 have hk:=hk.trans kH19
 have slz2:=kH19.sl0 slz2
 have slz5:=kH19.sl0 slz5
 have c12:=kH19.cl c12 (by simp)
 have c18:=kH19.cl c18 (by simp)
 obtain ⟨vs_,H20,fH20,hacs,kH20⟩:=zz (kn:=kn) (lo:=lo) (H:=H19) (loads:=[60,60,60]) (la:=some ⟨H17.next,0,none⟩) (n:=3) (lcap:=3) (c18.sl (Nat.le_refl 3)) rfl (by omega) (ns:=[⟨4,8,9⟩]) (na:=some ⟨H18.next,0,none⟩) (nn:=1) (ncap:=1) (c19.sl (Nat.le_refl 1)) rfl (by omega) (reach:=4) (days:=3) (limit:=100) (frm:=5) (to_:=20) (hkn 35) (by omega)
 rw [ZcU] at fH20 hacs
 refine Zi (vs:=[.slice (some ⟨H17.next,0,none⟩) 3 3,.slice (some ⟨H18.next,0,none⟩) 1 1,iv 4,iv 3,iv 100,iv 5,iv 20]) rfl (Zf fH20) ?_
 have mH20:=kH20.1
 have hk:=hk.trans kH20
 have slz2:=kH20.sl0 slz2
 have slz5:=kH20.sl0 slz5
 have c12:=kH20.cl c12 (by simp)
 have c18:=kH20.cl c18 (by simp)
 have c19:=kH20.cl c19 (by simp)
 obtain ⟨sa_,sc_,rfl,hsc,_⟩:=hacs.sl;have fsc:=hsc.old
 refine Za rfl<|Zd (v:=.slice sa_ 3 sc_) rfl (by kernel_rfl)<|Zd (v:=iv 0) rfl (by kernel_rfl)<|Za rfl<|Za rfl<|Zb<|Zc ?_
 obtain ⟨H21,fH21,kH21⟩:=Yp (kn:=kn) (lo:=lo) (H:=H20) (a:=1000) (b:=1100) (by omega)
 refine Zi (vs:=[iv 1000,iv 1100]) rfl (Zf fH21) ?_
 have mH21:=kH21.1
 have hk:=hk.trans kH21
 have slz2:=kH21.sl0 slz2
 have slz5:=kH21.sl0 slz5
 have c12:=kH21.cl c12 (by simp)
 have c18:=kH21.cl c18 (by simp)
 have c19:=kH21.cl c19 (by simp)
 have hsc:=kH21.sl0 hsc
 obtain ⟨H22,fH22,kH22⟩:=Yp (kn:=kn) (lo:=lo) (H:=H21) (a:=500) (b:=500) (by omega)
 refine Zi (vs:=[iv 500,iv 500]) rfl (Zf fH22) ?_
 have mH22:=kH22.1
 have hk:=hk.trans kH22
 have slz2:=kH22.sl0 slz2
 have slz5:=kH22.sl0 slz5
 have c12:=kH22.cl c12 (by simp)
 have c18:=kH22.cl c18 (by simp)
 have c19:=kH22.cl c19 (by simp)
 have hsc:=kH22.sl0 hsc
 obtain ⟨H23,fH23,kH23⟩:=Yp (kn:=kn) (lo:=lo) (H:=H22) (a:=200) (b:=300) (by omega)
 refine Zi (vs:=[iv 200,iv 300]) rfl (Zf fH23) ?_
 have mH23:=kH23.1
 have hk:=hk.trans kH23
 have slz2:=kH23.sl0 slz2
 have slz5:=kH23.sl0 slz5
 have c12:=kH23.cl c12 (by simp)
 have c18:=kH23.cl c18 (by simp)
 have c19:=kH23.cl c19 (by simp)
 have hsc:=kH23.sl0 hsc
 obtain ⟨H24,fH24,kH24⟩:=Yp (kn:=kn) (lo:=lo) (H:=H23) (a:=40) (b:=50) (by omega)
 refine Zi (vs:=[iv 40,iv 50]) rfl (Zf fH24) ?_
 have mH24:=kH24.1
 have hk:=hk.trans kH24
 have slz2:=kH24.sl0 slz2
 have slz5:=kH24.sl0 slz5
 have c12:=kH24.cl c12 (by simp)
 have c18:=kH24.cl c18 (by simp)
 have c19:=kH24.cl c19 (by simp)
 have hsc:=kH24.sl0 hsc
 obtain ⟨H25,fH25,kH25⟩:=Yp (kn:=kn) (lo:=lo) (H:=H24) (a:=10) (b:=12) (by omega)
 refine Zi (vs:=[iv 10,iv 12]) rfl (Zf fH25) ?_
 have mH25:=kH25.1
 have hk:=hk.trans kH25
 have slz2:=kH25.sl0 slz2
 have slz5:=kH25.sl0 slz5
 have c12:=kH25.cl c12 (by simp)
 have c18:=kH25.cl c18 (by simp)
 have c19:=kH25.cl c19 (by simp)
 have hsc:=kH25.sl0 hsc
 refine Zd (v:=.agg #[iv 1000,iv 1100,iv 500,iv 500,iv 200,iv 300,iv 40,iv 50,iv 10,iv 12]) rfl (by kernel_rfl) ?_
 obtain ⟨H26,fH26,kH26⟩:=yp (kn:=kn) (lo:=lo) (H:=H25) (hkn 35) (x:=(⟨1000,1100,500,500,200,300,40,50,10,12⟩:Ph)) (by omega)
 rw [Zdd] at fH26
 refine Zi (vs:=[.agg (Ph.f (⟨1000,1100,500,500,200,300,40,50,10,12⟩:Ph)).toArray]) rfl (Zf fH26) ?_
 have mH26:=kH26.1
 have hk:=hk.trans kH26
 have slz2:=kH26.sl0 slz2
 have slz5:=kH26.sl0 slz5
 have c12:=kH26.cl c12 (by simp)
 have c18:=kH26.cl c18 (by simp)
 have c19:=kH26.cl c19 (by simp)
 have hsc:=kH26.sl0 hsc
 refine Za rfl<|Zd (v:=.agg #[iv 600,iv 1000]) rfl (by kernel_rfl)<|Zd (v:=.agg #[iv 400,iv 600]) rfl (by kernel_rfl)<|Zd (v:=iv 0) rfl (by kernel_rfl)<|Yq ?_
 intro H27 kH27 nH27 c27
 have c27:Cl H27 H26.next [iv 0,iv 0]:=c27
 have mH27:=kH27.1
 have hk:=hk.trans kH27
 have slz2:=kH27.sl0 slz2
 have slz5:=kH27.sl0 slz5
 have c12:=kH27.cl c12 (by simp)
 have c18:=kH27.cl c18 (by simp)
 have c19:=kH27.cl c19 (by simp)
 have hsc:=kH27.sl0 hsc
 refine Yq ?_
 intro H28 kH28 nH28 c28
 have c28:Cl H28 H27.next [iv 0,iv 0]:=c28
 have mH28:=kH28.1
 have hk:=hk.trans kH28
 have slz2:=kH28.sl0 slz2
 have slz5:=kH28.sl0 slz5
 have c12:=kH28.cl c12 (by simp)
 have c18:=kH28.cl c18 (by simp)
 have c19:=kH28.cl c19 (by simp)
 have hsc:=kH28.sl0 hsc
 have c27:=kH28.cl c27 (by simp)
 refine Z6 (b:=H26.next) (o:=0) rfl rfl c27 (by omega) rfl rfl (by simp) ?_
 intro H29 kH29 nH29 sH29
 have mH29:=kH29.1
 have hk:=hk.new kH29 (fun b hb=>by simp at hb ⊢;omega)
 have slz2:=kH29.sl slz2 (fun b e=>by have:=fsz2 b e;first | (simp;done) | (simp;omega))
 have slz5:=kH29.sl slz5 (fun b e=>by have:=fsz5 b e;first | (simp;done) | (simp;omega))
 have c12:=kH29.cl c12 (by first | (simp;done) | (simp;omega))
 have c18:=kH29.cl c18 (by first | (simp;done) | (simp;omega))
 have c19:=kH29.cl c19 (by first | (simp;done) | (simp;omega))
 have hsc:=kH29.sl hsc (fun b e=>by have:=fsc b e;first | (simp;done) | (simp;omega))
 have c28:=kH29.cl c28 (by first | (simp;done) | (simp;omega))
 have c27:Cl H29 H26.next [iv 600,iv 1000]:=sH29
 refine Z6 (b:=H27.next) (o:=0) rfl rfl c28 (by omega) rfl rfl (by simp) ?_
 intro H30 kH30 nH30 sH30
 have mH30:=kH30.1
 have hk:=hk.new kH30 (fun b hb=>by simp at hb ⊢;omega)
 have slz2:=kH30.sl slz2 (fun b e=>by have:=fsz2 b e;first | (simp;done) | (simp;omega))
 have slz5:=kH30.sl slz5 (fun b e=>by have:=fsz5 b e;first | (simp;done) | (simp;omega))
 have c12:=kH30.cl c12 (by first | (simp;done) | (simp;omega))
 have c18:=kH30.cl c18 (by first | (simp;done) | (simp;omega))
 have c19:=kH30.cl c19 (by first | (simp;done) | (simp;omega))
 have hsc:=kH30.sl hsc (fun b e=>by have:=fsc b e;first | (simp;done) | (simp;omega))
 have c27:=kH30.cl c27 (by first | (simp;done) | (simp;omega))
 have c28:Cl H30 H27.next [iv 400,iv 600]:=sH30
 refine Za rfl<|Zb<|Xu<|Zk rfl<|X0 (a:=15) (b:=15) rfl rfl ?_
 intro t1 g1;obtain rfl:t1=false:=by rw [← g1];rfl
 refine Zk rfl ?_
 refine Yr rfl (Zk rfl ?_)
 refine Yr rfl (X0 (a:=15) (b:=15) rfl rfl ?_)
 intro t2 g2;obtain rfl:t2=false:=by rw [← g2];rfl
 refine Yy (v:=.bool false) rfl rfl<|Zk rfl ?_
 refine Yr rfl (Zk rfl ?_)
 refine Yr rfl (X0 (a:=0) (b:=0) rfl rfl ?_)
 intro t3 g3;obtain rfl:t3=false:=by rw [← g3];rfl
 refine Yy (v:=.bool false) rfl rfl<|Zk rfl ?_
 refine Yr rfl (Zk rfl ?_)
 refine Yr rfl (X0 (a:=48000) (b:=48000) rfl rfl ?_)
 intro t4 g4;obtain rfl:t4=false:=by rw [← g4];rfl
 refine Yy (v:=.bool false) rfl rfl<|Zk rfl ?_
 refine Yr rfl (Zk rfl ?_)
 refine Yr rfl (X0 (a:=0) (b:=0) rfl rfl ?_)
 intro t5 g5;obtain rfl:t5=false:=by rw [← g5];rfl
 refine Yy (v:=.bool false) rfl rfl<|Zk rfl ?_
 refine Yr rfl (ZU (b:=H11.next) (o:=0) rfl c12.rd (show row 2 _ _=some [iv 12000,iv 14000] from rfl) ?_)
 obtain ⟨H31,fH31,kH31⟩:=Yp (kn:=kn) (lo:=H30.next) (H:=H30) (a:=12000) (b:=14000) (Nat.le_refl _)
 refine Yr rfl (YP (vs:=[iv 12000,iv 14000]) rfl rfl (Zf fH31) ?_)
 have mH31:=kH31.1
 have hk:=hk.trans kH31
 have slz2:=kH31.sl0 slz2
 have slz5:=kH31.sl0 slz5
 have c12:=kH31.cl c12 (by simp)
 have c18:=kH31.cl c18 (by simp)
 have c19:=kH31.cl c19 (by simp)
 have hsc:=kH31.sl0 hsc
 have c27:=kH31.cl c27 (by simp)
 have c28:=kH31.cl c28 (by simp)
 refine Yr rfl (Yy (v:=.bool false) rfl (by kernel_rfl) ?_)
 refine Yy (v:=.bool false) rfl rfl<|Zk rfl ?_
 refine Yr rfl (Zk rfl ?_)
 refine Yr rfl (X0 (a:=0) (b:=0) rfl rfl ?_)
 intro t6 g6;obtain rfl:t6=false:=by rw [← g6];rfl
 refine Yy (v:=.bool false) rfl rfl<|Zk rfl ?_
 refine Yr rfl (Zk rfl ?_)
 refine Yr rfl (X0 (a:=285) (b:=285) rfl rfl ?_)
 intro t7 g7;obtain rfl:t7=false:=by rw [← g7];rfl
 refine Yy (v:=.bool false) rfl rfl<|Zk rfl ?_
 refine Yr rfl (Zk rfl ?_)
 refine Yr rfl (X0 (a:=0) (b:=0) rfl rfl ?_)
 intro t8 g8;obtain rfl:t8=false:=by rw [← g8];rfl
 refine Yy (v:=.bool false) rfl rfl ?_
 refine Yo (by repeat' first | exact True.intro | exact (fun h=>h) | refine And.intro ?_ ?_ | (intro h;have h:(_:Nat)=_:=h;omega)) ?_
 refine ZK ?_
 first | refine Zj ?_ | skip
 refine Xu<|Zk rfl ?_
 obtain ⟨H32,hH32⟩:∃ H32,H31.new (.cells [iv 5,iv 10,iv 13] 3 false)=H32:=⟨_,rfl⟩
 refine UC (H':=H32) (k:=.heavy) rfl (by kernel_rfl) ((zO (a:=5) (b:=10) (c:=13) rfl rfl rfl).trans (by first | (rw [← hH32];done) | (rw [← hH32];rfl))) (fun b e=>by cases e) ?_
 obtain ⟨kH32,nH32,c32⟩:=Yg hH32;clear hH32
 have c32:Cl H32 H31.next [iv 5,iv 10,iv 13]:=c32
 have mH32:=kH32.1
 have hk:=hk.trans kH32
 have slz2:=kH32.sl0 slz2
 have slz5:=kH32.sl0 slz5
 have c12:=kH32.cl c12 (by simp)
 have c18:=kH32.cl c18 (by simp)
 have c19:=kH32.cl c19 (by simp)
 have hsc:=kH32.sl0 hsc
 have c27:=kH32.cl c27 (by simp)
 have c28:=kH32.cl c28 (by simp)
 obtain ⟨H33,fH33,kH33⟩:=jL (kn:=kn) (lo:=lo) (H:=H32) (xs:=[5,10,13]) (n:=3) hsc (c32.sl (Nat.le_refl 3)) rfl (by omega) (by omega)
 refine Wh (vs:=[.slice sa_ 3 sc_,.slice (some ⟨H31.next,0,none⟩) 3 3]) rfl (Zf fH33) ?_
 have mH33:=kH33.1
 have hk:=hk.trans kH33
 have slz2:=kH33.sl0 slz2
 have slz5:=kH33.sl0 slz5
 have c12:=kH33.cl c12 (by simp)
 have c18:=kH33.cl c18 (by simp)
 have c19:=kH33.cl c19 (by simp)
 have hsc:=kH33.sl0 hsc
 have c27:=kH33.cl c27 (by simp)
 have c28:=kH33.cl c28 (by simp)
 have c32:=kH33.cl c32 (by simp)
 refine Zk rfl ?_
 refine Yr rfl (Zk rfl ?_)
 refine Yr rfl (zW (a:=0) (b:=0) rfl rfl ?_)
 intro t9 g9;obtain rfl:t9=true:=by rw [← g9];rfl
 refine Yy (v:=.bool true) rfl rfl<|Zk rfl ?_
 refine Yr rfl (ZU (b:=H26.next) (o:=0) rfl c27.rd (show row 2 _ _=some [iv 600,iv 1000] from rfl) ?_)
 obtain ⟨H34,fH34,kH34⟩:=Yp (kn:=kn) (lo:=H33.next) (H:=H33) (a:=600) (b:=1000) (Nat.le_refl _)
 refine Yr rfl (YP (vs:=[iv 600,iv 1000]) rfl rfl (Zf fH34) ?_)
 have mH34:=kH34.1
 have hk:=hk.trans kH34
 have slz2:=kH34.sl0 slz2
 have slz5:=kH34.sl0 slz5
 have c12:=kH34.cl c12 (by simp)
 have c18:=kH34.cl c18 (by simp)
 have c19:=kH34.cl c19 (by simp)
 have hsc:=kH34.sl0 hsc
 have c27:=kH34.cl c27 (by simp)
 have c28:=kH34.cl c28 (by simp)
 have c32:=kH34.cl c32 (by simp)
 refine Yr rfl (Yy (v:=.bool true) rfl (by kernel_rfl) ?_)
 refine Yy (v:=.bool true) rfl rfl<|Zk rfl ?_
 refine Yr rfl (ZU (b:=H27.next) (o:=0) rfl c28.rd (show row 2 _ _=some [iv 400,iv 600] from rfl) ?_)
 obtain ⟨H35,fH35,kH35⟩:=Yp (kn:=kn) (lo:=H34.next) (H:=H34) (a:=400) (b:=600) (Nat.le_refl _)
 refine Yr rfl (YP (vs:=[iv 400,iv 600]) rfl rfl (Zf fH35) ?_)
 have mH35:=kH35.1
 have hk:=hk.trans kH35
 have slz2:=kH35.sl0 slz2
 have slz5:=kH35.sl0 slz5
 have c12:=kH35.cl c12 (by simp)
 have c18:=kH35.cl c18 (by simp)
 have c19:=kH35.cl c19 (by simp)
 have hsc:=kH35.sl0 hsc
 have c27:=kH35.cl c27 (by simp)
 have c28:=kH35.cl c28 (by simp)
 have c32:=kH35.cl c32 (by simp)
 refine Yr rfl (Yy (v:=.bool true) rfl (by kernel_rfl) ?_)
 refine Yy (v:=.bool true) rfl rfl<|Zk rfl ?_
 refine Yr rfl (Zk rfl ?_)
 refine Yr rfl (zW (a:=0) (b:=0) rfl rfl ?_)
 intro t10 g10;obtain rfl:t10=true:=by rw [← g10];rfl
 refine Yy (v:=.bool true) rfl rfl<|Zk rfl ?_
 refine Yo (by repeat' first | exact True.intro | exact (fun h=>h) | refine And.intro ?_ ?_ | (intro h;have h:(_:Nat)=_:=h;omega)) ?_
 exact And.intro trivial (Exists.intro _ (And.intro rfl ⟨rfl,hk⟩))
end
end
end Go.Ax

/-
 Pool: the law PermitWindows (written by program).
-/
namespace Go.Ax
open Go Go.RowKit Go.Proofs

section
variable {kn:Kn} {lo:Nat} {H:Hp}
set_option maxRecDepth 100000 in
set_option maxHeartbeats 4000000 in
theorem zA (hkn:∀ f,kn.b f=none) {ds:List Dc} {sa:Option Addr} {n cap:Nat} (hs:Sl H sa n cap (dcc ds)) (hl:ds.length=n) {days limit day:Int} (hlo:lo≤H.next):∃ H',FnX Try.prog kn lo 3 [.slice sa n cap,iv days,iv limit,iv day] H (.bool true) H':=by
 have key:=Zp (kn:=kn) (lo:=lo) (H:=H) (args:=[.slice sa n cap,iv days,iv limit,iv day]) (Q:=fun w H'=>w=.bool true) Try.func3 B3 N3 Z3 L3 (by simp) ?_
 ·obtain ⟨w,H',h,rfl⟩:=key;exact ⟨H',h⟩
 have hk:=Zh.refl H []
 have fs:=hs.old
 refine Zc ?_
 refine Za (v:=.bool false) rfl ?_
 refine Zb ?_
 refine Zc ?_
 refine Za (v:=.slice sa n cap) rfl ?_
 refine Yd (m:=n) rfl ?_
 refine YW (a:=(n:Int)) (b:=70) rfl rfl ?_
 refine Zb ?_
 refine And.intro (fun q1=>?_) (fun q1=>?_)
 ·have q1:(n:Int) > 70:=of_decide_eq_true q1
  refine Zc ?_
  obtain ⟨H1,fH1,kH1⟩:=yb (kn:=kn) (lo:=lo) (H:=H) hkn (by omega)
  refine Zi (vs:=[]) rfl (YR (hkn 11) fH1) ?_
  have mH1:=kH1.1
  have hk:=hk.trans kH1
  have hs:=kH1.sl0 hs
  refine Za (v:=.bool true) rfl ?_
  refine Zb ?_
  exact And.intro trivial (Exists.intro _ (And.intro rfl rfl))
 ·have q1:¬ ((n:Int) > 70):=of_decide_eq_false q1
  first | refine Zj ?_ | skip
  refine Zc ?_
  refine Za (v:=.slice sa n cap) rfl ?_
  refine Za (v:=iv days) rfl ?_
  refine Za (v:=iv limit) rfl ?_
  obtain ⟨H2,fH2,kH2⟩:=Kf (kn:=kn) (lo:=lo) (H:=H) hs hl (by omega) (by omega) (hkn 35) (days:=days) (limit:=limit)
  refine Zi (vs:=[.slice sa n cap,iv days,iv limit]) rfl (Zf fH2) ?_
  have mH2:=kH2.1
  have hk:=hk.trans kH2
  have hs:=kH2.sl0 hs
  refine Za (v:=.tuple #[iv ((paT ds days limit).1),iv ((paT ds days limit).2.1),iv ((paT ds days limit).2.2)]) rfl ?_
  refine Zd (v:=iv ((paT ds days limit).1)) rfl (by kernel_rfl) ?_
  refine Zd (v:=iv ((paT ds days limit).2.1)) rfl (by kernel_rfl) ?_
  refine Zd (v:=iv ((paT ds days limit).2.2)) rfl (by kernel_rfl) ?_
  refine Za (v:=iv ((paT ds days limit).1)) rfl ?_
  refine Za (v:=iv ((paT ds days limit).2.1)) rfl ?_
  refine Za (v:=iv ((paT ds days limit).2.2)) rfl ?_
  refine Zb ?_
  refine Zc ?_
  refine Za (v:=.slice sa n cap) rfl ?_
  refine Za (v:=iv days) rfl ?_
  refine Za (v:=iv limit) rfl ?_
  obtain ⟨H3,fH3,kH3⟩:=KG (kn:=kn) (lo:=lo) (H:=H2) hs hl (by omega) (by omega) (days:=days) (limit:=limit)
  refine Zi (vs:=[.slice sa n cap,iv days,iv limit]) rfl (Zf fH3) ?_
  have mH3:=kH3.1
  have hk:=hk.trans kH3
  have hs:=kH3.sl0 hs
  refine Za (v:=.tuple #[iv ((paT ds days limit).1),iv ((paT ds days limit).2.1),iv ((paT ds days limit).2.2)]) rfl ?_
  refine Zd (v:=iv ((paT ds days limit).1)) rfl (by kernel_rfl) ?_
  refine Zd (v:=iv ((paT ds days limit).2.1)) rfl (by kernel_rfl) ?_
  refine Zd (v:=iv ((paT ds days limit).2.2)) rfl (by kernel_rfl) ?_
  refine Za (v:=iv ((paT ds days limit).1)) rfl ?_
  refine Za (v:=iv ((paT ds days limit).2.1)) rfl ?_
  refine Za (v:=iv ((paT ds days limit).2.2)) rfl ?_
  refine Zb ?_
  refine Zc ?_
  refine Za (v:=.slice sa n cap) rfl ?_
  refine Za (v:=iv days) rfl ?_
  refine Za (v:=iv limit) rfl ?_
  refine Za (v:=iv day) rfl ?_
  obtain ⟨H4,fH4,kH4⟩:=z6 (kn:=kn) (lo:=lo) (H:=H3) hs hl (by omega) (by omega) (hkn 35) (days:=days) (limit:=limit) (day:=day)
  refine Zi (vs:=[.slice sa n cap,iv days,iv limit,iv day]) rfl (Zf fH4) ?_
  have mH4:=kH4.1
  have hk:=hk.trans kH4
  have hs:=kH4.sl0 hs
  refine Za (v:=.tuple #[iv ((alT ds days limit day).1),iv ((alT ds days limit day).2)]) rfl ?_
  refine Zd (v:=iv ((alT ds days limit day).1)) rfl (by kernel_rfl) ?_
  refine Zd (v:=iv ((alT ds days limit day).2)) rfl (by kernel_rfl) ?_
  refine Za (v:=iv ((alT ds days limit day).1)) rfl ?_
  refine Za (v:=iv ((alT ds days limit day).2)) rfl ?_
  refine Zb ?_
  refine Zc ?_
  refine Za (v:=.slice sa n cap) rfl ?_
  refine Za (v:=iv days) rfl ?_
  refine Za (v:=iv limit) rfl ?_
  refine Za (v:=iv day) rfl ?_
  obtain ⟨H5,fH5,kH5⟩:=zo (kn:=kn) (lo:=lo) (H:=H4) hs hl (by omega) (by omega) (days:=days) (limit:=limit) (day:=day)
  refine Zi (vs:=[.slice sa n cap,iv days,iv limit,iv day]) rfl (Zf fH5) ?_
  have mH5:=kH5.1
  have hk:=hk.trans kH5
  have hs:=kH5.sl0 hs
  refine Za (v:=.tuple #[iv ((alT ds days limit day).1),iv ((alT ds days limit day).2)]) rfl ?_
  refine Zd (v:=iv ((alT ds days limit day).1)) rfl (by kernel_rfl) ?_
  refine Zd (v:=iv ((alT ds days limit day).2)) rfl (by kernel_rfl) ?_
  refine Za (v:=iv ((alT ds days limit day).1)) rfl ?_
  refine Za (v:=iv ((alT ds days limit day).2)) rfl ?_
  refine Zb ?_
  refine Zc ?_
  refine Za (v:=iv ((paT ds days limit).1)) rfl ?_
  refine Za (v:=iv ((paT ds days limit).1)) rfl ?_
  refine QV (a:=(paT ds days limit).1) rfl rfl ?_
  refine Za (v:=.bool true) rfl ?_
  refine Zm rfl (Za (v:=iv ((paT ds days limit).2.1)) rfl ?_)
  refine Zm rfl (Za (v:=iv ((paT ds days limit).2.1)) rfl ?_)
  refine Zm rfl (QV (a:=(paT ds days limit).2.1) rfl rfl ?_)
  refine Zd (v:=.bool true) rfl rfl ?_
  refine Za (v:=.bool true) rfl ?_
  refine Zm rfl (Za (v:=iv ((paT ds days limit).2.2)) rfl ?_)
  refine Zm rfl (Za (v:=iv ((paT ds days limit).2.2)) rfl ?_)
  refine Zm rfl (QV (a:=(paT ds days limit).2.2) rfl rfl ?_)
  refine Zd (v:=.bool true) rfl rfl ?_
  refine Za (v:=.bool true) rfl ?_
  refine Zm rfl (Za (v:=iv ((alT ds days limit day).1)) rfl ?_)
  refine Zm rfl (Za (v:=iv ((alT ds days limit day).1)) rfl ?_)
  refine Zm rfl (QV (a:=(alT ds days limit day).1) rfl rfl ?_)
  refine Zd (v:=.bool true) rfl rfl ?_
  refine Za (v:=.bool true) rfl ?_
  refine Zm rfl (Za (v:=iv ((alT ds days limit day).2)) rfl ?_)
  refine Zm rfl (Za (v:=iv ((alT ds days limit day).2)) rfl ?_)
  refine Zm rfl (QV (a:=(alT ds days limit day).2) rfl rfl ?_)
  refine Zd (v:=.bool true) rfl rfl ?_
  refine Za (v:=.bool true) rfl ?_
  obtain ⟨H6,fH6,kH6⟩:=yb (kn:=kn) (lo:=lo) (H:=H5) hkn (by omega)
  refine Zm rfl (Zi (vs:=[]) rfl (YR (hkn 11) fH6) ?_)
  have mH6:=kH6.1
  have hk:=hk.trans kH6
  have hs:=kH6.sl0 hs
  refine Zd (v:=.bool true) rfl rfl ?_
  refine Za (v:=.bool true) rfl ?_
  refine Zb ?_
  exact And.intro trivial (Exists.intro _ (And.intro rfl rfl))
end
end Go.Ax

namespace Go.Ax
open Go Go.RowKit Go.Proofs Go.ChangeShapes Go.WideShapes Go.Deep

def Qy (P:Program) (t:TypeId):Prop:=∀ (H:Type) (enc:TypeId × Value→H) (w:World) (base:Nat) (spare:Nat→Bool) (held:Bool) (fuel:Nat) (cs:List Value) (x:DataW H × List MemPlace),
 DataW.trod enc P w base spare held fuel t cs=some x→cs.length=P.cellsOf t∧∀ j,j < cs.length→∃ n,cs[j]? = some (.int .i64 n)
theorem Qy.int {P:Program} {t:TypeId} (ht:P.underlying t=some (.int .i64)) (hc:P.cellsOf t=1):Qy P t:=by
 intro H enc w base spare held fuel cs x h
 obtain ⟨n,rfl,_⟩:=DataW.trod_int ht h
 refine ⟨by rw [hc];rfl,fun j hj=>⟨n,?_⟩⟩
 have:j=0:=by simp at hj;omega
 subst this;rfl
theorem Qy.struct {P:Program} {t:TypeId} {fs:Array Field} (ht:P.underlying t=some (.struct fs)) (hf:∀ f∈fs.toList,Qy P f.type)
  (hcov:((List.range (P.cellsOf t)).all fun j=>fs.toList.any fun f=>decide (f.offset≤j) && decide (j < f.offset+P.cellsOf f.type))=true):Qy P t:=by
 intro H enc w base spare held fuel cs x h
 obtain ⟨xs,n,_,_,hlen,hxl,hg⟩:=DataW.trod_struct ht h
 refine ⟨hlen,fun j hj=>?_⟩
 have h1:=List.all_eq_true.1 hcov j (List.mem_range.2 (by omega))
 obtain ⟨f,hfm,h2⟩:=List.any_eq_true.1 h1
 simp only [Bool.and_eq_true,decide_eq_true_eq] at h2
 obtain ⟨i,hi,hfi⟩:=List.getElem_of_mem hfm
 have hfs:fs[i]? = some f:=by
  rw [← Array.getElem?_toList,List.getElem?_eq_getElem hi,hfi]
 have hi2:i < xs.length:=by simpa [hxl] using hi
 have h3:=hg i f hfs
 rw [List.getElem?_eq_getElem hi2] at h3
 obtain ⟨h4,h5⟩:=hf f hfm _ _ _ _ _ _ _ _ _ h3
 obtain ⟨m,hm⟩:=h5 (j - f.offset) (by omega)
 refine ⟨m,?_⟩
 rw [List.getElem?_take] at hm
 split at hm
 ·rw [List.getElem?_drop,show f.offset+(j - f.offset)=j by omega] at hm;exact hm
 ·cases hm

structure J6 {α:Type} (w:World) (v:Value) (f:α→List Value) (l:List α) (x:Imp):Prop where
 ok:∀ (i:Nat) u,x.cs[i]? = some u→w.cell? ⟨x.blk,x.off+i,none⟩=some u∧YY u=true
 cs:x.cs=l.flatMap f
 v:(v=.slice none 0 0∧l=[])∨∃ cap,v=.slice (some ⟨x.blk,x.off,none⟩) l.length cap∧l.length≤cap
theorem zq {α:Type} {f:α→List Value} {k:Nat} (hk:0 < k):∀ {l:List α} (_:∀ x∈l,(f x).length=k) (i:Nat) (u:Value),(l.flatMap f)[i]? = some u→∃ x,l[i / k]? = some x∧(f x)[i % k]? = some u
 | [],_,i,u,h=>by simp at h
 | y :: r,hl,i,u,h=>by
  have hy:=hl y (List.mem_cons_self ..)
  rw [List.flatMap_cons,List.getElem?_append] at h
  split at h
  ·rename_i q
   rw [hy] at q
   refine ⟨y,?_,?_⟩
   ·rw [Nat.div_eq_of_lt q];rfl
   ·rw [Nat.mod_eq_of_lt q];exact h
  ·rename_i q
   rw [hy] at q h
   obtain ⟨x,h1,h2⟩:=zq hk (fun x hx=>hl x (List.mem_cons_of_mem _ hx)) _ u h
   refine ⟨x,?_,?_⟩
   ·rw [Nat.div_eq_sub_div hk (by omega)];exact h1
   ·rw [Nat.mod_eq_sub_mod (by omega)];exact h2
theorem zR {H:Type} {enc:TypeId × Value→H} {P:Program} {w:World} {base b0:Nat} {r:Reach} {held:Bool} {α:Type} (f:α→List Value) (mk:(Nat→Int)→α) (k:Nat) {t e:TypeId} {fuel:Nat} {v:Value} {x:DataW H × List MemPlace}
  (ht:P.underlying t=some (.slice e)) (hI:Qy P e) (hc:P.cellsOf e=k) (hk:0 < k) (hmk:∀ N:Nat→Int,f (mk N)=(List.range k).map fun j=>Value.int .i64 (N j))
  (hok:Cell.okWide P w r b0 t v) (h:DataW.trod enc P w base (fun _=>true) held fuel t [v]=some x):∃ (l:List α) (y:Imp),J6 w v f l y:=by
 rcases open_slice ht h with ⟨h0,_⟩ | ⟨a,len,cap,m,n,D,Pl,hcs,hb,hl,hm,hmm,hx,hi⟩
 ·cases h0
  exact ⟨[],⟨0,0,[]⟩,fun i u e=>by simp at e,rfl,.inl ⟨rfl,rfl⟩⟩
 ·cases hcs
  obtain ⟨blk,off,spot⟩:=a
  have hs:spot=none:=by
   unfold Cell.okWide at hok
   rw [ht] at hok
   unfold Cell.ok at hok
   simp only [ht] at hok
   exact hok.2.2.2.1
  subst hs
  simp only [if_true] at hmm
  subst hmm
  have hcell:∀ i,i < len→∀ j,j < k→∃ n,w.cell? ⟨blk,off+(i * k+j),none⟩=some (.int .i64 n):=by
   intro i hil j hj
   obtain ⟨cs',h1,h2⟩:=hi i (by omega)
   obtain ⟨h3,h4⟩:=hI _ _ _ _ _ _ _ _ _ h2
   obtain ⟨_,h5,h6⟩:=World.cells?_some h1
   obtain ⟨n,hn⟩:=h4 j (by omega)
   refine ⟨n,?_⟩
   have h7:=h6 j (by omega)
   rw [hn,hc,add_add] at h7
   have e:(⟨blk,off,none⟩:Addr).add (i * k+j)=⟨blk,off+(i * k+j),none⟩:=by
    unfold Addr.add
    by_cases q:i * k+j=0
    ·simp [q]
    ·simp
   rw [e] at h7
   exact h7
  refine ⟨(List.range len).map fun i=>mk fun j=>match w.cell? ⟨blk,off+(i * k+j),none⟩ with | some (.int _ n)=>n | _=>0,⟨blk,off,_⟩,?_,rfl,.inr ⟨m,by simp,by simpa using hl⟩⟩
  intro i u hu
  obtain ⟨y,h1,h2⟩:=zq hk (fun y hy=>by
   obtain ⟨i,_,rfl⟩:=List.mem_map.1 hy
   rw [hmk];simp) i u hu
  have hlt:i / k < len:=by
   have:=QP h1
   simpa using this
  rw [List.getElem?_map,List.getElem?_range hlt] at h1
  simp only [Option.map_some,Option.some.injEq] at h1
  subst h1
  have hj:i % k < k:=Nat.mod_lt _ hk
  rw [hmk,List.getElem?_map,List.getElem?_range hj] at h2
  simp only [Option.map_some,Option.some.injEq] at h2
  obtain ⟨n,hn⟩:=hcell _ hlt _ hj
  rw [hn] at h2
  subst h2
  rw [Nat.div_add_mod' ] at hn
  exact ⟨hn,rfl⟩
theorem J6.rel {α:Type} {w:World} {v:Value} {f:α→List Value} {l:List α} {x:Imp} (g:J6 w v f l x) {r:Ren} {H:Hp} {b:Nat} (hr:r b=some ⟨x.blk,x.off,none⟩) (hb:b < H.next) (hc:cellsOf H b=some x.cs) (hro:H.t.get b=some (.ro x.cs)) :
  ∃ a cap,VR r (.slice a l.length cap) v∧Sl H a l.length cap (l.flatMap f)∧∀ b,a=some ⟨b,0,none⟩→H.t.get b=some (.ro (l.flatMap f)):=by
 rcases g.v with ⟨rfl,rfl⟩ | ⟨cap,rfl,hl⟩
 ·exact ⟨none,0,.nilSlice,.inl ⟨.inl rfl,rfl,rfl,rfl⟩,fun b e=>by cases e⟩
 ·refine ⟨some ⟨b,0,none⟩,cap,?_,.inr ⟨b,rfl,⟨hb,by rw [hc,g.cs]⟩,hl⟩,fun b' e=>by cases e;rw [hro,g.cs]⟩
  have:=VR.slice (o:=0) (n:=l.length) (c:=cap) hr rfl hl
  simpa using this
end Go.Ax

/-! Slices of rows of plain cells,as_ arguments. -/
namespace Go.Ax
open Go Go.RowKit Go.Proofs Go.ChangeShapes Go.WideShapes Go.Deep

theorem Qy.row {α:Type} {P:Program} {t:TypeId} {k:Nat} {f:α→List Value} {mk:(Nat→Int)→α} (h:Qy P t) (hc:P.cellsOf t=k) (hmk:∀ N:Nat→Int,f (mk N)=(List.range k).map fun j=>Value.int .i64 (N j))
  {H:Type} {enc:TypeId × Value→H} {w:World} {base:Nat} {spare:Nat→Bool} {held:Bool} (fuel:Nat) (cs:List Value) (x:DataW H × List MemPlace) (hx:DataW.trod enc P w base spare held fuel t cs=some x):∃ y:α,cs=f y∧True:=by
 obtain ⟨h1,h2⟩:=h _ _ _ _ _ _ _ _ _ hx
 have:∃ N:Nat→Int,∀ j,j < cs.length→cs[j]? = some (.int .i64 (N j)):=by
  refine ⟨fun j=>match cs[j]? with | some (.int _ n)=>n | _=>0,fun j hj=>?_⟩
  obtain ⟨n,hn⟩:=h2 j hj
  simp [hn]
 obtain ⟨N,hN⟩:=this
 refine ⟨mk N,?_,trivial⟩
 rw [hmk]
 apply List.ext_getElem?
 intro j
 by_cases hj:j < k
 ·rw [hN j (by omega),List.getElem?_map,List.getElem?_range hj];rfl
 ·rw [List.getElem?_eq_none (by omega),List.getElem?_eq_none (by simp;omega)]
end Go.Ax

/-! Arguments that point to what points: inner slices,rows of slices. -/
namespace Go.Ax
open Go Go.RowKit Go.Proofs Go.ChangeShapes Go.WideShapes Go.Deep

def zG (imps:List Imp):Ren:=fun b=>(imps[b]?).map fun x=>⟨x.blk,x.off,none⟩
theorem ZaI {P:Program} (imps outs:List Imp) (w:World) (h:∀ x∈imps,∀ (i:Nat) v,x.cs[i]? = some v→w.cell? ⟨x.blk,x.off+i,none⟩=some v∧YY v=true)
  (hcs:∀ x∈outs,∀ (i:Nat) v,x.cs[i]? = some v→∃ v',w.cell? ⟨x.blk,x.off+i,none⟩=some v'∧VR (zG imps) v v') :
  ∃ (r:Ren) (H:Hp),Rel P r w.heap.size H w∧H.next=(imps ++ outs).length∧(∀ b loc,r b=some loc→b < H.next)∧Ren.Le (zG imps) r∧∀ (b:Nat) x,(imps ++ outs)[b]? = some x→r b=some ⟨x.blk,x.off,none⟩∧H.t.get b=some (.ro x.cs):=by
 have hall:∀ x∈imps ++ outs,∀ (i:Nat) v,x.cs[i]? = some v→∃ v',w.cell? ⟨x.blk,x.off+i,none⟩=some v'∧VR (zG imps) v v':=by
  intro x hx i v hv
  rcases List.mem_append.1 hx with hx | hx
  ·obtain ⟨h1,h2⟩:=h x hx i v hv
   exact ⟨v,h1,Ua h2⟩
  ·exact hcs x hx i v hv
 obtain ⟨t,ht⟩:=Zcr (fun b=>((imps ++ outs)[b]?).map fun x=>.ro x.cs) (imps ++ outs).length
 have hle:Ren.Le (zG imps) (fun b=>((imps ++ outs)[b]?).map fun x=>⟨x.blk,x.off,none⟩):=fun b loc e=>by
  unfold zG at e
  have hlt:b < imps.length:=by
   rcases Nat.lt_or_ge b imps.length with q | q
   ·exact q
   ·rw [List.getElem?_eq_none q] at e;cases e
  show ((imps ++ outs)[b]?).map _=_
  rw [List.getElem?_append_left hlt];exact e
 have hr:∀ (b:Nat) loc,((imps ++ outs)[b]?).map (fun x=>(⟨x.blk,x.off,none⟩:Loc))=some loc→∃ x,(imps ++ outs)[b]? = some x∧b < (imps ++ outs).length∧loc=⟨x.blk,x.off,none⟩∧t.get b=some (.ro x.cs):=by
  intro b loc e
  cases hx:(imps ++ outs)[b]? with
  | none=>rw [hx] at e;cases e
  | some x=>
   rw [hx] at e
   simp at e
   have hlt:=QP hx
   exact ⟨x,rfl,hlt,e.symm,by rw [ht,if_pos hlt,hx];rfl⟩
 have low:∀ {g o:Nat} {v:Value},w.cell? ⟨g,o,none⟩=some v→g < w.heap.size:=fun {g o v} hv=>by
  unfold World.cell? at hv
  rcases Nat.lt_or_ge g w.heap.size with q | q
  ·exact q
  ·rw [Array.getElem?_eq_none q] at hv;cases hv
 refine ⟨fun b=>((imps ++ outs)[b]?).map fun x=>⟨x.blk,x.off,none⟩,{ next:=(imps ++ outs).length,t },⟨?_,?_,?_,Nat.le_refl _⟩,rfl,?_,hle,?_⟩
 ·intro b loc e
  obtain ⟨x,hx,hlt,rfl,hg⟩:=hr b loc e
  refine ⟨hlt,?_⟩
  show Dm _ _ _ (t.get b)
  rw [hg]
  cases hc:x.cs with
  | nil=>exact .inl rfl
  | cons v l=>
   obtain ⟨v',h1,_⟩:=hall x (List.mem_of_getElem? hx) 0 v (by rw [hc];rfl)
   exact .inr (low h1)
 ·intro b loc o e eo
  obtain ⟨x,hx,hlt,rfl,hg⟩:=hr b loc e
  rw [hg] at eo;cases eo
  refine ⟨rfl,fun i v ev=>?_⟩
  obtain ⟨v',h1,h2⟩:=hall x (List.mem_of_getElem? hx) i v ev
  unfold World.cell? at h1
  simp only at h1
  split at h1
  ·rename_i C e' f hC
   exact ⟨C,e',f,v',hC,by simpa using h1,h2.mono hle⟩
  ·cases h1
 ·intro b b' loc loc' e e' _ hl _
  obtain ⟨x,hx,hlt,rfl,hg⟩:=hr b loc e
  obtain ⟨o,h1,h2,h3⟩:=hl
  have:t.get b=some o:=h1
  rw [hg] at this;cases this
  cases h3
 ·intro b loc e
  obtain ⟨x,hx,hlt,rfl,hg⟩:=hr b loc e
  exact hlt
 ·intro b x hx
  have hlt:=QP hx
  refine ⟨by simp only [hx,Option.map_some],?_⟩
  show t.get b=_
  rw [ht,if_pos hlt,hx];rfl

structure ZcB {α:Type} (w:World) (v:Value) (f:α→List Value) (l:List α) (x:Imp):Prop where
 ok:∀ (i:Nat) u,x.cs[i]? = some u→w.cell? ⟨x.blk,x.off+i,none⟩=some u∧YY u=true
 cs:x.cs=l.flatMap f
 v:((v=.slice none 0 0∨∃ a',v=.slice (some a') 0 0)∧l=[])∨∃ cap,v=.slice (some ⟨x.blk,x.off,none⟩) l.length cap∧l.length≤cap
theorem ZcB.rel {α:Type} {w:World} {v:Value} {f:α→List Value} {l:List α} {x:Imp} (g:ZcB w v f l x) {r:Ren} {b:Nat} (hr:r b=some ⟨x.blk,x.off,none⟩) :
  ∃ a cap,VR r (.slice a l.length cap) v∧(∀ y,a=some ⟨y,0,none⟩→y=b)∧∀ H:Hp,b < H.next→H.t.get b=some (.ro x.cs)→Sl H a l.length cap (l.flatMap f):=by
 rcases g.v with ⟨rfl | ⟨a',rfl⟩,rfl⟩ | ⟨cap,rfl,hl⟩
 ·exact ⟨none,0,.nilSlice,fun y e=>by (cases e),fun H _ _=>.inl ⟨.inl rfl,rfl,rfl,rfl⟩⟩
 ·exact ⟨some ⟨0,0,some 0⟩,0,.weird (.inl rfl),fun y e=>by (cases e),fun H _ _=>.inl ⟨.inr rfl,rfl,rfl,rfl⟩⟩
 ·refine ⟨some ⟨b,0,none⟩,cap,?_,fun y e=>by (cases e;rfl),fun H hb hc=>.inr ⟨b,rfl,⟨hb,by unfold cellsOf;rw [hc,g.cs]⟩,hl⟩⟩
  have:=VR.slice (o:=0) (n:=l.length) (c:=cap) hr rfl hl
  simpa using this
structure RV where
 rv:Value
 l:List Int
 x:Imp
def RV.f (r:RV):List Value:=[r.rv]
def RV.Q (w:World) (r:RV):Prop:=ZcB w r.rv (fun n:Int=>[iv n]) r.l r.x
end Go.Ax

/-! What is Yv as_ arguments. -/
namespace Go.Ax
open Go Go.RowKit Go.Proofs Go.ChangeShapes Go.WideShapes Go.Deep

theorem KY {P:Program} (pre:List Imp) {w:World} (h:∀ x∈pre,∀ (i:Nat) v,x.cs[i]? = some v→w.cell? ⟨x.blk,x.off+i,none⟩=some v∧YY v=true) :
  ∃ (r:Ren) (H:Hp),Rel P r w.heap.size H w∧(∀ b loc,r b=some loc→b < H.next)∧(∀ (b:Nat) x,pre[b]? = some x→b < H.next∧r b=some ⟨x.blk,x.off,none⟩∧H.t.get b=some (.ro x.cs)):=by
 obtain ⟨r,H,h1,h2,h3,h4,h5⟩:=ZaI (P:=P) pre [] w h (fun x hx=>by simp at hx)
 refine ⟨r,H,h1,h3,fun b x hx=>?_⟩
 have:=QP hx
 obtain ⟨a,c⟩:=h5 b x (by simpa using hx)
 exact ⟨by rw [h2];simpa using this,a,c⟩
end Go.Ax


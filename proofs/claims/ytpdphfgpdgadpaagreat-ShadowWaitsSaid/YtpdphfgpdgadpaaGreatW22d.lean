import Derived.Test.YtpdphfgpdgadpaaGreatW22c
set_option linter.unusedSimpArgs false
set_option linter.unusedVariables false
set_option maxHeartbeats 4000000
set_option maxRecDepth 100000
open Go.Proofs.Tryz
namespace Go.Proofs.YtpdphfgpdgadpaaGreat
open Lib(hid)
open Go Go.RowKit Go.Sort M
def Ox (w wr:World) (K:Nat->Prop) (t:Nat) (E:Eg) (R':List Rt) (v:Value) (d:Nat) (b:List Rt) (X:List (Nat×Nat)) (p:Option Addr) (c:Nat) (i:Nat):Prop:=
 ∃K' a,EngB wr K' t { E with L:=midE E.R R' E.di E.L i } a v d b X p c/\Touch K w wr/\∀g,K' g->K g\/In w.heap.size wr.heap.size g
def ldD (n:Int) (B:Nat) (Y:List Ch):Nat->Value->World->Prop
 | 11,v,_=>v = .int .i64 n
 | 12,v,W=>∃p c,v = .slice p Y.length c/\W.ownsRow B 158 5 (.slice p Y.length c) Y.length (ccs Y)
 | _,_,_=>True
theorem Zvt (n:Int) (B:Nat) (Y:List Ch):∀i v W W',Below W.heap.size W W'->ldD n B Y i v W->ldD n B Y i v W':=by
 intro i v W W' a h;unfold ldD at h ⊢;split at h
 ·exact h
 ·obtain ⟨p,c,d,b⟩:=h;exact ⟨p,c,d,own_below b a⟩
 ·trivial
theorem Y9 (w:World) (K:Nat->Prop) (t:Nat) (E:Eg) (be:Nat->Nat) (v:Value) (d:Nat) (L0:List Rt) (X:List (Nat×Nat)) (p:Option Addr) (c:Nat) (k:Ky) (s:Int) (H:EngB w K t E be v d L0 X p c) (b:E.ok) (hk:k.good) (hl:E.R.length<=300)
 (h1:0<=s\/s = -1) :
 Calls prog 51 #[.pointer (some ⟨t,0,none⟩),kyV k,.int .i64 s] w λe w'=>e = .returned (.tuple #[])/\∃K' u,EngB w' K' t { E with L:=B2 E.R (lvlM E.R k s) E.di E.L } u v d L0 X p c/\Touch K w w'/\∀g,K' g->K g\/In w.heap.size w'.heap.size g:=by
 obtain ⟨rp,rc,rfl⟩:=Aq H.own;have ap:C4 (lvlM E.R k s):=by
  rcases h1 with h1 | h1
  ·rw [Yl b.rts.sort k s h1];exact N6 b.rts hk h1
  ·rw [h1,Ym];exact N7 b.rts k
 have F:=λW (h:Row W rp (rcs E.R)) (low high:Int)=>Z2u rp rc E.R k s low high W h b.rts.good hk (E1 H.own) (C6 H.own) hl;rw [Nw b.rts.sort] at F;have U:=λ(low high:Int) (q1:low<high) (q2:high-low<=8)=>Z6j b.rts.sort (λr hr=>b.rts.good r hr) hk s q1 q2;obtain ⟨R',ad⟩:=Q' (lvlM E.R k s);rw [<-ad] at ap F U ⊢;have b3:=λlow high=>Oo E.R low high b.rts.good;obtain ⟨W0,C⟩:∃W:World,W=w.alloc (.cells #[.int .u64 (k.h:Int),.int .u64 (k.l:Int),.int .i64 k.n] 32):=⟨_,rfl⟩;have am:Below w.heap.size w W0:=by rw [C];go_grown
 have az:W0.heap.size=w.heap.size+1:=by rw [C];simp
 have u0:W0.cell? ⟨w.heap.size,0,none⟩=some (.int .u64 (k.h:Int)):=by rw [C];simp [go_sem]
 have u1:W0.cell? ⟨w.heap.size,1,none⟩=some (.int .u64 (k.l:Int)):=by rw [C];simp [go_sem]
 have u2:W0.cell? ⟨w.heap.size,2,none⟩=some (.int .i64 k.n):=by rw [C];simp [go_sem]
 have H0:=H.old.below am;obtain ⟨K0,a7⟩:∃K0:Nat->Prop,K0=λj=>K j/\j<w.heap.size:=⟨_,rfl⟩;rw [<-a7] at H0;have b6:¬K0 w.heap.size:=by rw [a7];intro h;have:=h.2;omega
 have bb:∀g,K0 g->K g:=by rw [a7];exact λg h=>h.1
 have d1:=H0.c1;have d4:=H0.c4;have dl:=H0.lt;have HI:Hid (Ox W0 W0 K0 t E R' (.slice rp E.R.length rc) d L0 X p c 0):=hid ⟨K0,be,by rw [Zys];exact H0,Touch.refl _ _,λg h => .inl h⟩;have a1:=hid F;have bq:=hid U;have ca:=hid b3;have bz:E.L.length<=128:=by have:=Yq E.L E.di (by have:=b.dir.2;omega) b.lev;have:=b.dir.1;omega
 have av:=hid b;have cb:=hid ap;have cz:=hid H0.ts;have c7:=hid H0.xl;have bm:=hid bb;have bs:=hid am;have aw:=hid b6;have cy:=hid az;have d7:=hid hk;have d0:=hid (λa ha=>(H0.kp a ha).2);have d6:=hid (λa ha=>(H0.kp a ha).1);have aa:∀w',Ox W0 w' K0 t E R' (.slice rp E.R.length rc) d L0 X p c E.L.length->∃K' u,EngB w' K' t { E with L:=B2 E.R R' E.di E.L } u (.slice rp E.R.length rc) d L0 X p c/\Touch K w w'/\∀g,K' g->K g\/In w.heap.size w'.heap.size g:=by
  rintro w' ⟨K',u,q1,q2,q3⟩;rw [Z2g] at q1;refine ⟨K',u,q1,Touch.trans (Touch.quiet bs.o) (q2.mono λg _ h=>bm.o g h),λg hg => ?_⟩;rcases q3 g hg with h | h
  ·exact .inl (bm.o g h)
  ·exact .inr ⟨Qw bs.o.size h.1,h.2⟩
 have bp:=hid aa;have bv:w.heap.size<W0.heap.size:=Qa;clear F U b3 b ap ad H H0 a7 b6 bb am az hk aa h1;unfold kyV at a1 ⊢;go_enter func51,ntmps51;go_upto_region 1 with fail;rw [<-C];clear C;go_wp2;go_loopg [6,18] E.L.length (λkx s6 bu wr=>∃i:Nat,bu = .int .i64 (i:Int)/\s6 = .int .i64 (atL E.di E.L i)/\E.L.length-i<=kx/\i<=E.L.length/\Hid (Ox W0 wr K0 t E R' (.slice rp E.R.length rc) d L0 X p c i))
 case atStart=>exact ⟨0,rfl,rfl,Qa,Qa,HI⟩
 case round=>
  clear HI;obtain ⟨i,rfl,rfl,k1,k2,HI⟩:=hrel;by_cases hi:i<E.L.length
  ·obtain ⟨K1,I,ax,O,bo⟩:=HI.o;have an:i<X.length:=by rw [c7.o];exact hi
   obtain ⟨gt,ot,rfl,cw,t0,t1⟩:=ax.ts.tier an;obtain ⟨K2,a6⟩:∃K2:Nat->Prop,K2=λj=>K1 j/\j<wr.heap.size:=⟨_,rfl⟩;have D:=ax.old;rw [<-a6] at D;have b7:∀j,K2 j->j<wr.heap.size:=by rw [a6];exact λj h=>h.2
   have bd:∀g,K2 g->K0 g\/In W0.heap.size wr.heap.size g:=by rw [a6];exact λg h=>bo g h.1
   have S:=Z55 E.R R' E.di E.L i hi;have x:=Z2e E.R R' E.di E.L i hi;have bw:=Z2f E.R R' E.di E.L i Qa;obtain ⟨a4,ai⟩:=Yp E.L E.di av.o.lev i hi;have ab:=Oh E.di E.L i hi;have ah:i<(midE E.R R' E.di E.L i).length:=Qa;have y:(midE E.R R' E.di E.L i)[i]=E.L[i]:=by rw [Qr ah] at S;exact Option.some.inj S
   have a5:=D.lev i an ah;simp only [y] at a5;have m:=a1.o;have aj:=bq.o (atL E.di E.L i) E.L[i].n a4.2.1 a4.2.2.1;have ag:=ca.o (atL E.di E.L i) E.L[i].n;have u0:=O.cell u0 aw.o;have u1:=O.cell u1 aw.o;have u2:=O.cell u2 aw.o;have c2:=D.c2;have cl:=D.lt;have a3:=Qm bv O.size;have ac:=Row.of_own D.own;have z:=Xb (A:=setS E.R (atL E.di E.L i) E.L[i].n) (B:=setS R' (atL E.di E.L i) E.L[i].n) (λr hr=>(Gd av.o.rts.good hr).1) (λr hr=>(Gd cb.o.good hr).1);have m:=λW h=>a1.o W h (atL E.di E.L i) E.L[i].n;obtain ⟨Y,hY⟩:=Q' (ofS (setS E.R (atL E.di E.L i) E.L[i].n) (setS R' (atL E.di E.L i) E.L[i].n));rw [<-hY] at x z m aj;obtain ⟨low,a9⟩:=Q' (atL E.di E.L i);rw [<-a9] at a4 ai m ag ⊢;have b8:=(Z5d E.L[i] Y).2.2;have b5:=Hw E.L[i] Y;generalize E.L[i]=V at *
   obtain ⟨q,hq⟩:=Q' (X[i].1);obtain ⟨nb,a8⟩:=Q' (X[i].2);rw [<-hq] at t0 a5;rw [<-a8] at t1;have HQ:=hid hq;have i1:(0:Int)<=(i:Int):=Qa;have i2:(i:Int)<(E.L.length:Int):=Qa;have bl:=hid a5;have br:=hid D;have cg:=hid ai;have bj:=hid m;have cj:=hid z;have bn:=hid bd;have bi:=hid b7;have ae:=hid O;have ce:=hid x;have cm:=hid b8;have cd:=hid b5;have bg:=hid ac;have co:=hid ab;have d5:=hid ah;have cf:=hid y;have c8:=hid an;have ci:Hid (Y.length<=256/\(setS E.R low V.n).length<=256*E.R.length/\0<=V.n):=hid ⟨aj,ag,Qa⟩;clear a5 ax D ai m z bd b7 O x b8 b5 ac ab y aj ag HI bo a6 S bw a4 a9 hY hq a8;go_wp2_with fail;obtain ⟨W1,Z⟩:=Q' (wr.alloc (.cells #[.pointer (some ⟨q,0,none⟩),.int .i64 (nb:Int)] 84));try rw [<-Z]
   have f:Below wr.heap.size wr W1:=by rw [Z];go_grown
   have ay:W1.heap.size=wr.heap.size+1:=by rw [Z];simp
   have b0:W1.cell? ⟨wr.heap.size,0,none⟩=some (.pointer (some ⟨q,0,none⟩)):=by rw [Z];simp [go_sem]
   have c2:=(f.cell (p:=⟨t,2,none⟩) cl).trans c2;have u0:=(f.cell (p:=⟨w.heap.size,0,none⟩) a3).trans u0;have u1:=(f.cell (p:=⟨w.heap.size,1,none⟩) a3).trans u1;have u2:=(f.cell (p:=⟨w.heap.size,2,none⟩) a3).trans u2;have cx:=Qm cl f.size;have cp:=Qm a3 f.size;have b9:wr.heap.size<W1.heap.size:=Qa;have Q:=hid f;have a2:=hid (λW (h:LevP W (λj=>I j=i+4/\K2 j) q V)=>Kq.bits W _ q V h);have c6:=hid ay;have d8:=hid c2;clear f Z ay;have kg:=Ad;refine wp_region_noPanic ?_;generalize ba:NoPanic _=NQ;refine Zu5 [0,2,3,4,7,8,9] [1,5,6,10] [(11,33,[]),(12,34,[(11,33)])] [13] (ldD V.n W1.heap.size Y) (Zvt _ _ _) Qb (by rw [<-ba];exact λ_ _ _ h=>h) Qb Qb Qb ?_;simp only [Ag,List.filterMap_cons,List.filterMap_nil,List.getElem?_toArray,List.getElem?_cons_succ,List.getElem?_cons_zero];repeat (any_goals (quiet_step (fail)))
   refine wpQuiet_nil ?_;clear kg;refine ⟨by rfl,⟨?_,?_,trivial⟩,?_⟩
   ·intro W hW K hK o ho;injection ho with ho;subst ho;go_simp;go_at_call 76;refine (a2.o W (bl.o.below (Q.o.trans (hW.mono Q.o.size)))).mono ?_;rintro e w3 ⟨rfl,al⟩;exact hK _ _ al rfl
   ·intro W hW af ar K;obtain rfl:af=_:=ar;go_simp;intro hK o ho;injection ho with ho;subst ho;go_simp;go_at_call 75;refine (bj.o W (bg.o.below (Q.o.trans (hW.mono Q.o.size)))).mono ?_;rintro e w3 ⟨p3,c3,rfl,J,al⟩;exact hK _ _ al ⟨p3,c3,rfl,A7 J hW.size⟩
   ·intro W hW af ar cv c5;obtain rfl:af=_:=ar;obtain ⟨p3,c3,rfl,J⟩:=c5;have ao:Below wr.heap.size wr W:=Q.o.trans (hW.mono Q.o.size);have b4:∀a,p3=some a->¬(I a.block=i+4/\K2 a.block):=λa ha hc=>by subst ha;have h1:=(J.lt a.block rfl).1;have h2:=bi.o _ hc.2;have h3:=c6.o;omega
    have bx:=ci.o;have c0:=av;have bf:=hid (Kq.turn W (λj=>I j=i+4/\K2 j) q V _ p3 c3 Y (bl.o.below ao) cg.o cj.o Qa (C6 J) (Row.of_own J) b4);have au:=hid ao;have b0:=(hW.cell (p:=⟨wr.heap.size,0,none⟩) b9).trans b0;have HW:=hid hW;clear b4 ao J hW bj bg a2 bx c0 u0 u1 u2 c2;show wpList _ _ _ _ _ _;simp only [Ag,List.filterMap_cons,List.filterMap_nil,List.getElem?_toArray,List.getElem?_cons_succ,List.getElem?_cons_zero];subst ba;go_wp2_with fail;refine bf.o.mono ?_;rintro e w6 ⟨rfl,K6,aq,N,bc⟩;have b0:=N.cell b0 (λh=>Nat.lt_irrefl _ (bi.o _ h.2));have cu:=Qm (Qm b9 HW.o.size) N.size;have ck:=hid ((br.o.below au.o).lev_step (i:=i) c8.o (by rw [<-HQ.o];exact aq) bc N (λh2=>by simp only [cf.o];exact cm.o));have c9:=hid (Bq (ae.o.trans (Touch.quiet au.o)) (λg (hg:I g=i+4/\K2 g)=>(bn.o g hg.2).imp id λh=>h.1) N);have cn:=hid (λW (h:LevP W K6 q (V.turns Y))=>Kq.bits W _ q _ h);have cc:=hid aq;have cs:=N.size;have cq:=au.o.size;clear aq N bc bf;go_wp2_with fail;refine NoPanic.normal ?_;go_wp2_with fail;refine (cn.o _ cc.o).mono ?_;rintro e w7 ⟨rfl,ak⟩;rw [cd.o];go_wp2;go_roundg (E.L.length-(i+1))
    case measure=>omega
    case rel=>
     refine ⟨i+1,Qj,by rw [co.o],Qa,Qa,hid ⟨_,_,(by have:=ck.o.below ak;simp only [ce.o] at this;exact this),c9.o.trans (Touch.quiet ak),λg hg => ?_⟩⟩;have cr:=ak.size;have ct:=ae.o.size;rcases hg with hg | hg
     ·rcases bn.o g hg with h | h
      ·exact .inl h
      ·exact .inr ⟨h.1,by have:=h.2;omega⟩
     ·exact .inr ⟨by have:=hg.1;omega,by have:=hg.2;omega⟩
  ·obtain rfl:i=E.L.length:=Qa;go_wp2;go_end0;exact ⟨rfl,bp.o _ HI.o⟩
end Go.Proofs.YtpdphfgpdgadpaaGreat

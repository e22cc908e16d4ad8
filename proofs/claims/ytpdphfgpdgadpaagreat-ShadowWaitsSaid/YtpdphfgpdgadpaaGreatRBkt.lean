import Derived.Test.YtpdphfgpdgadpaaGreatW17f
import Derived.Deep.MidRow
set_option linter.unusedSimpArgs false
set_option linter.unusedVariables false
set_option maxHeartbeats 4000000
set_option maxRecDepth 100000
open Go.Proofs.Tryz
namespace Go.Proofs.YtpdphfgpdgadpaaGreat
open Lib(hid)
section
open Go Go.RowKit Go.Sort M
def Er (C:List Int) (wd lo a st:Int):Option (List Nat):=if ablB wd lo a st=true then (bst C st.toNat wd.toNat (min a.toNat wd.toNat) lo.toNat).map (·.2) else none
def ChoE (o:Option (List Nat)) (e:Ending) (w':World):Prop:=
 match o with
 | none=>e = .returned (.tuple #[.slice none 0 0,.int .i64 1])
 | some L=>∃q d,e = .returned (.tuple #[.slice q L.length d,.int .i64 0])/\IRow w' q (toI L)/\L.length<=d
theorem Zyt {P:Program} {t e:TypeId} {z:Value} {size bytes:Nat} (l:P.underlying t=some (.slice e)) (k:(P.info? e).map (λi=>(i.zero,i.size,i.bytes))=some (some z,size,bytes)) (c:Nat) (n:bytes*c<=281474976710656) (m:c<=maxLen) (w:World) :
 (Instr.makeSlice t (.int .i64 0) (.int .i64 (c:Int))).run P w = .ok (.slice (some ⟨w.heap.size,0,none⟩) 0 c) (w.alloc (.cells (madeCells z.cells (c*size)) e)):=by
 obtain ⟨j,f,d,b,a⟩:=info_parts k;have h:=run_make (P:=P) w t e j z l f d .i64 .i64 0 c Qa Qa (by rw [a];have e:((bytes*c:Nat):Int)<=281474976710656:=(Qa);rwa [Int.natCast_mul] at e) (by unfold maxLen at m;omega);rw [Int.toNat_natCast,b] at h;exact h
theorem Zvh (w:World) (c B:Nat) (t:TypeId) (b:B<=w.heap.size) (a:c<=maxLen):(w.alloc (.cells (madeCells #[.int .i64 0] c) t)).ownsRow B t 1 (.slice (some ⟨w.heap.size,0,none⟩) 0 c) 0 (ics []):=
 ⟨rfl,.inr ⟨w.heap.size,c,_,rfl,b,heap_alloc_new w _,Nat.zero_le _,a,by simp [madeCells],by simp [ics]⟩⟩
def bJ (C:List Int) (st wd a:Nat):Nat->Nat
 | 0=>0
 | k+1=>bsI C st wd a k
theorem Z3x (r:Option Wy):chB r r=false:=by
 cases r with
 | none=>rfl
 | some x=>exact decide_eq_false (Nat.lt_irrefl _)
theorem Z7b (C:List Int) (st wd a k:Nat):bJ C st wd a (k+1)=if chB (exO C st wd k a) (exO C st wd (bJ C st wd a k) a) then k else bJ C st wd a k:=by
 cases k with
 | zero=>
  show 0=if chB (exO C st wd 0 a) (exO C st wd 0 a) then 0 else 0
  rw [Z3x];rfl
 | succ k=>rfl
theorem bJ_le (C:List Int) (st wd a k:Nat):bJ C st wd a k<=k:=by
 cases k with
 | zero=>exact Qn _
 | succ k=>exact Qw (Jf C st wd a k) (Nat.le_succ k)
theorem Z0q (C:List Int) (wd lo a st:Nat) (h:ablB wd lo a st=true) (b:lo<=wd):Er C wd lo a st=(exO C st wd (bsI C st wd lo (min a (wd-lo))) lo).map (·.2):=by unfold Er;rw [if_pos h,Z8q C st wd a lo b];rfl
theorem Zv8 (p:Option Addr) (c:Nat) (C:List Int) (wd lo mo st:Int) (w:World) (hC:IRow w p C) (h1:C.length<=1000000) (h2:C.length<=c) :
 Calls prog 17 #[.int .i64 wd,.int .i64 lo,.int .i64 mo,.int .i64 st,.slice p C.length c] w λe w'=>ChoE (Er C wd lo mo st) e w'/\Below w.heap.size w w':=by
 have hA:=S9 wd lo mo st;cases E:ablB wd lo mo st with
 | false=>
  have hR:Er C wd lo mo st=none:=by unfold Er;rw [E];rfl
  rw [hR];rw [E] at hA;have HA:=hid hA;clear hA E hR hC;go_enter func17,ntmps17;go_wp2_with fail;refine (HA.o _).mono ?_;rintro e w1 ⟨rfl,h⟩;go_wp2;go_ret2;exact ⟨rfl,h⟩
 | true=>
  have Z:=E;unfold ablB at Z;obtain ⟨a1,a2,a3,a4,a5,a6,a7,a8⟩:=of_decide_eq_true Z;clear Z;obtain ⟨d,rfl⟩:=Qv (show 0<=wd by omega);obtain ⟨a,rfl⟩:=Qv a3;obtain ⟨mn,rfl⟩:=Qv a5;obtain ⟨i,rfl⟩:=Qv (show 0<=st by omega);rw [Z0q C d a mn i E Qa];rw [E] at hA;obtain ⟨M,hM⟩:=Q' (min mn (d-a)+1);have ao:=λW (hW:Below w.heap.size w W)=>Zr5 p c d a mn i C W (hC.below hW) h1 h2 Qa Qa Qa Qa Qa Qa M hM;have bg:1<=M:=Qa;have bf:M<=129:=Qa;rw [show min mn (d-a)=M-1 by omega];obtain ⟨R,hR⟩:=Q' ((exO C i d (bsI C i d a (M-1)) a).map (·.2));rw [<-hR];have HR:=hid hR;clear hR;have HA:=hid hA;have av:=hid ao;have af:a<=d:=Qa;clear hA E hC ao hM;obtain ⟨i0,b8,b5,b4,b3⟩:=info_parts E2;go_enter func17,ntmps17;go_wp2_with fail;refine (HA.o _).mono ?_;rintro e w1 ⟨rfl,h⟩;go_wp2_with fail;refine (av.o _ h).mono ?_;rintro e w2 ⟨q2,rfl,⟨g,rfl,hg,hy⟩,Q⟩;have HY:=hid hy;have Q:=h.trans (Q.mono h.size);clear hy h HA av;go_wp2;go_loopg [13,31] M (λkx az aw wr=>∃k:Nat,aw = .int .i64 (k:Int)/\M-k<=kx/\k<=M/\az = .int .i64 ((bJ C i d a k:Nat):Int)/\Below w2.heap.size w2 wr)
  case atStart=>exact ⟨0,rfl,Qa,Qa,rfl,Below.refl _ _⟩
  case round=>
   obtain ⟨k,rfl,k1,k2,rfl,o⟩:=hrel;have ai:=bJ_le C i d a k;by_cases hk:k<M
   ·have u:=Z7b C i d a k;obtain ⟨b,r⟩:=Q' (bJ C i d a k);rw [<-r] at u ai;rw [<-r];obtain ⟨pk,x0,q,rfl,N,K⟩:=HY.o k hk;obtain ⟨pb,x1,s,rfl,h,B⟩:=HY.o b Qa;obtain ⟨y0,y1,y2⟩:=K a (Qn _) af;obtain ⟨z0,z1,J⟩:=B a (Qn _) af;have x0:=(o.cell (p:=⟨g,k,none⟩) hg).trans x0;have x1:=(o.cell (p:=⟨g,b,none⟩) hg).trans x1;have y0:wr.cell? ⟨q,a*3,none⟩=some (Value.int .i64 ((wyE (exO C i d k a)).c:Int)):=(o.cell (p:=⟨q,a*3,none⟩) N).trans y0;have y1:wr.cell? ⟨q,a*3+1,none⟩=some (Value.int .i64 ((wyE (exO C i d k a)).f:Int)):=(o.cell (p:=⟨q,a*3+1,none⟩) N).trans y1;have y2:wr.cell? ⟨q,a*3+2,none⟩=some (Value.bool (wyE (exO C i d k a)).t):=(o.cell (p:=⟨q,a*3+2,none⟩) N).trans y2;have z0:wr.cell? ⟨s,a*3,none⟩=some (Value.int .i64 ((wyE (exO C i d b a)).c:Int)):=(o.cell (p:=⟨s,a*3,none⟩) h).trans z0;have z1:wr.cell? ⟨s,a*3+1,none⟩=some (Value.int .i64 ((wyE (exO C i d b a)).f:Int)):=(o.cell (p:=⟨s,a*3+1,none⟩) h).trans z1;have J:wr.cell? ⟨s,a*3+2,none⟩=some (Value.bool (wyE (exO C i d b a)).t):=(o.cell (p:=⟨s,a*3+2,none⟩) h).trans J;have l:=T6 (wyE (exO C i d k a)) (wyE (exO C i d b a));rw [Tz] at l;generalize wyE (exO C i d k a)=y at y0 y1 y2 l;generalize wyE (exO C i d b a)=z at z0 z1 J l;obtain ⟨yc,yf,yt⟩:=y;obtain ⟨zc,zf,zt⟩:=z;simp only at y0 y1 y2 z0 z1 J;unfold wyV at l;simp only at l;have S:=o.size;have bd:=Q.trans (o.mono Q.size);have g1:=Qm hg S;have g2:=Qm N S;have g3:=Qm h S;have i1:(k:Int)<(M:Int):=Qa;have i2:(b:Int)<(M:Int):=Qa;have i3:(a:Int)<(d:Int)+1:=Qa;cases O:chB (exO C i d k a) (exO C i d b a) with
    | true=>
     rw [O,if_pos rfl] at u;rw [O] at l;have ag:=hid u;have a9:=hid l;clear O u l r K B S;go_wp2_with fail;have kg:=Ad;refine Am Qb Qb ?_;repeat (any_goals (first|go_big_quiet_step ((exact Aj.at a9.o _ _ _))|quiet_step ((exact Aj.at a9.o _ _ _))))
     refine wpQuiet_nil ?_;clear kg;intro w8 Y;obtain ⟨ba,b9⟩:=Ac Y;have o:=o.trans (Y.mono o.size);go_wp2;go_roundg (M-(k+1))
     case measure=>omega
     case rel=>exact ⟨k+1,Qj,Qa,Qa,by rw [ag.o],o⟩
    | false=>
     rw [O,if_neg Qd] at u;rw [O] at l;have ag:=hid u;have a9:=hid l;clear O u l r K B S;go_wp2_with fail;have kg:=Ad;refine Am Qb Qb ?_;repeat (any_goals (first|go_big_quiet_step ((exact Aj.at a9.o _ _ _))|quiet_step ((exact Aj.at a9.o _ _ _))))
     refine wpQuiet_nil ?_;clear kg;intro w8 Y;obtain ⟨ba,b9⟩:=Ac Y;have o:=o.trans (Y.mono o.size);go_wp2;go_roundg (M-(k+1))
     case measure=>omega
     case rel=>exact ⟨k+1,Qj,Qa,Qa,by rw [ag.o],o⟩
   ·obtain rfl:k=M:=Qa;obtain ⟨b,r⟩:=Q' (bJ C i d a k);have ab:b=bsI C i d a (k-1):=by rw [r,show k=(k-1)+1 by omega];rfl
    have be:b<=k-1:=by rw [ab];exact Jf _ _ _ _ _
    clear ai;rw [<-r];have F:=HR.o;rw [<-ab] at F;obtain ⟨pb,x1,s,rfl,h,B⟩:=HY.o b Qa;obtain ⟨z0,z1,J⟩:=B a (Qn _) af;have x1:=(o.cell (p:=⟨g,b,none⟩) hg).trans x1;have J:wr.cell? ⟨s,a*3+2,none⟩=some (.bool (wyE (exO C i d b a)).t):=(o.cell (p:=⟨s,a*3+2,none⟩) h).trans J;have ae:=Q.trans (o.mono Q.size);have i2:(b:Int)<(k:Int):=Qa;have i3:(a:Int)<(d:Int)+1:=Qa;rw [wyE_t] at J;cases hex:exO C i d b a with
    | none=>rw [hex] at J;simp only [Option.isSome_none] at J;rw [hex] at F;have ah:=hid F;clear r ab hex B z0 z1 F;go_wp2;go_ret2;exact ⟨by rw [ah.o];rfl,ae⟩
    | some x=>
     obtain ⟨xc,L⟩:=x;rw [hex] at J;simp only [Option.isSome_some] at J;rw [hex] at F;have ah:=hid F;have I:=hid hex;have b7:=Zyt (P:=prog) (t:=48) underlying48 E2 b Qa Qk;have aq:=hid (Zvh wr b wr.heap.size 3 (Qn _) Qk);have al:Below wr.heap.size wr (wr.alloc (.cells (madeCells #[.int .i64 0] b) 3)):=(Below.refl _ _).alloc (Qn _) _;clear r ab hex B z0 z1 F;go_wp2
     rename World=>wo
     clear J x1 b7;go_loopg [1,15,16] b (λkx s1 ay ax wr=>∃(n aa c':Nat) (D R':List Nat) (pd:Option Addr) (cd:Nat),ax = .int .i64 (n:Int)/\n<=kx/\n<=b/\s1 = .int .i64 (aa:Int)/\a<=aa/\aa<=d/\Hid (exO C i d n aa=some (c',R'))/\Hid (L=D++R')/\D.length+n<=b /\
      ay = .slice pd D.length cd/\Hid (wr.ownsRow wo.heap.size 3 1 (.slice pd D.length cd) D.length (ics (toI D)))/\Below wo.heap.size wo wr)
     case atStart=>exact ⟨b,a,xc,[],L,_,b,rfl,Qa,Qa,rfl,Qa,Qa,I,hid rfl,Qf,rfl,aq,al⟩
     case round=>
      clear I aq al;obtain ⟨n,l2,c2,D,R2,pd,cd,rfl,k3,k4,rfl,k5,k6,I,HL,k7,rfl,HO,X⟩:=hrel;by_cases hn:n=0
      ·subst hn;have am:=Z6p I.o;have HE:Hid (R=some D):=by rw [ah.o,HL.o,am,List.append_nil];exact hid rfl
       have ak:=T9 HO.o;clear am I HL;go_wp2;go_ret2;refine ⟨?_,ae.trans (X.mono ae.size)⟩;rw [HE.o];exact ⟨pd,cd,rfl,.of_own HO.o,ak⟩
      ·obtain ⟨m,rfl⟩:∃m,n=m+1:=⟨n-1,Qa⟩;obtain ⟨b0,M2,c3,e1,e2,e3,e4,e5⟩:=Z6r I.o;obtain ⟨pk,x0,q,rfl,N,K⟩:=HY.o (m+1) Qa;obtain ⟨-,y1,-⟩:=K l2 k5 k6;have ac:=o.trans (X.mono o.size);have x0:=(ac.cell (p:=⟨g,m+1,none⟩) hg).trans x0;have y1:wr.cell? ⟨q,l2*3+1,none⟩=some (.int .i64 ((wyE (exO C i d (m+1) l2)).f:Int)):=(ac.cell (p:=⟨q,l2*3+1,none⟩) N).trans y1;rw [e2] at y1;have bc:=hid e3;have au:=hid e1;have i1:(m:Int)+1<(k:Int):=Qa;have i2:(l2:Int)<(d:Int)+1:=Qa;have b6:=X.size;clear e1 e2 e3 K I;go_wp2_with (at_builtin;go_loud (refine wpList_append_own_at _ rfl (.tmp 75) (.tmp 77) 48 rfl wo.heap.size 3 i0 _ 1 8 underlying48 b8 b5 b4 b3 rfl Qd _ _ _ rfl (HO.o.alloc _) ⟨wr.heap.size,0,none⟩ 1 1 [.int .i64 (b0:Int)] rfl rfl (Ft Qi) (by simp [Value.oneCell']) Qk Qa Qe ?_));intro v9 w9 A aj _ _;obtain ⟨p9,c9,rfl⟩:=Aq A;have bb:Below wo.heap.size wo w9:=(X.alloc X.size _).grown aj Qe (λj hj=>(HO.o.lt j hj).1);have ar:Hid (L=(D++[b0])++M2):=by rw [HL.o,au.o,Qu];exact hid rfl
       have ap:Hid (w9.ownsRow wo.heap.size 3 1 (.slice p9 (D++[b0]).length c9) (D++[b0]).length (ics (toI (D++[b0])))):=by
        have e:ics (toI (D++[b0]))=ics (toI D)++[.int .i64 (b0:Int)]:=by simp [toI,ics]
        rw [e,Qo];exact hid A
       have U:(D++[b0]).length=D.length+1:=Qf;obtain ⟨D9,an⟩:=Q' (D++[b0]);rw [<-an] at ar ap U;have ad:=hid U;clear A aj HO HL au x0 y1 b6 U an;go_wp2;go_roundg m
       case measure=>omega
       case rel=>refine ⟨m,b0,c3,D9,M2,p9,c9,Qj,Qa,Qa,rfl,Qa,Qa,bc,ar,by have:=ad.o;omega,?_,ap,bb⟩;rw [ad.o]
end
section
open Go.RowKit Go.Sort M
def kyV (k:Ky):Value := .agg #[.int .u64 (k.h:Int),.int .u64 (k.l:Int),.int .i64 k.n]
def x5 (x:Pl):List Value:=[.int .u64 (xh x:Int),.int .u64 (xl x:Int),.int .i64 (xn x),.int .i64 (xv x),.bool x.isSome]
structure Bkt (w:World) (g o:Nat) (C:List Pl):Prop where
 four:C.length=4
 lt:g<w.heap.size
 cell:∀(i:Nat) (hi:i<C.length) (j:Nat) (u:Value),(x5 C[i])[j]? = some u->w.cell? ⟨g,o+i*5+j,none⟩=some u
 free:∀j,j<20->w.frozen? ⟨g,o+j,none⟩=false
structure Turn (w w':World) (g o n:Nat):Prop where
 grown:w.grownBy w' (some g)
 cell:∀x,x<o\/o+n<=x->w'.cell? ⟨g,x,none⟩=w.cell? ⟨g,x,none⟩
 frozen:∀x,w'.frozen? ⟨g,x,none⟩=w.frozen? ⟨g,x,none⟩
theorem Turn.of_below {w w':World} {g o n:Nat} (b:g<w.heap.size) (a:Below w.heap.size w w'):Turn w w' g o n:=
 ⟨⟨a.os,a.tape,a.output,a.size,λk c _=>a.block k c⟩,λx _=>a.cell (p:=⟨g,x,none⟩) b,λx=>a.frozen (p:=⟨g,x,none⟩) b⟩
theorem Turn.trans {a b c:World} {g o n:Nat} (h:Turn a b g o n) (k:Turn b c g o n):Turn a c g o n:=
 ⟨h.grown.trans k.grown,λx d=>(k.cell x d).trans (h.cell x d),λx=>(k.frozen x).trans (h.frozen x)⟩
theorem Bkt.below {w w':World} {g o:Nat} {C:List Pl} (H:Bkt w g o C) (a:Below w.heap.size w w'):Bkt w' g o C:=
 ⟨H.four,Qm H.lt a.size,λi hi j u b=>(a.cell (p:=⟨g,o+i*5+j,none⟩) H.lt).trans (H.cell i hi j u b),λj c=>(a.frozen (p:=⟨g,o+j,none⟩) H.lt).trans (H.free j c)⟩
theorem Bkt.kept {w w':World} {g o c a n:Nat} {C:List Pl} (H:Bkt w g o C) (h:Turn w w' c a n) (l:g≠c\/o+20<=a\/a+n<=o):Bkt w' g o C:=by
 have f:∀x,x<20->w'.cell? ⟨g,o+x,none⟩=w.cell? ⟨g,o+x,none⟩/\w'.frozen? ⟨g,o+x,none⟩=w.frozen? ⟨g,o+x,none⟩:=by
  intro x m;by_cases e:g=c
  ·subst e;exact ⟨h.cell _ Qa,h.frozen _⟩
  ·have k:=h.grown.block g H.lt (by simpa using e);exact ⟨World.cell?_of_block k,by unfold World.frozen?;rw [k]⟩
 have p:=H.four;refine ⟨H.four,Qm H.lt h.grown.size,λi hi j u d => ?_,λj b=>(f j b).2.trans (H.free j b)⟩;have b:j<5:=(List.getElem?_eq_some_iff.1 d).1;rw [Nat.add_assoc,(f (i*5+j) Qa).1,<-Nat.add_assoc];exact H.cell i hi j u d
theorem Bkt.at {w:World} {g o:Nat} {C:List Pl} (H:Bkt w g o C) (i:Nat) (hi:i<C.length) :
 w.cell? ⟨g,o+i*5,none⟩=some (.int .u64 (xh C[i]:Int))/\w.cell? ⟨g,o+i*5+1,none⟩=some (.int .u64 (xl C[i]:Int))/\w.cell? ⟨g,o+i*5+2,none⟩=some (.int .i64 (xn C[i]))/\w.cell? ⟨g,o+i*5+3,none⟩=some (.int .i64 (xv C[i]))/\w.cell? ⟨g,o+i*5+4,none⟩=some (.bool C[i].isSome):=
 ⟨H.cell i hi 0 _ rfl,H.cell i hi 1 _ rfl,H.cell i hi 2 _ rfl,H.cell i hi 3 _ rfl,H.cell i hi 4 _ rfl⟩
theorem F3 (w:World) (g o n x:Nat) (u:Value) (f:o<=x) (d:x<o+n):Turn w (w.setCell ⟨g,x,none⟩ u) g o n:=by
 refine ⟨⟨rfl,rfl,rfl,by rw [World.size_setCell];exact Qn _,λk c a=>Below.heap_setCell w ⟨g,x,none⟩ u k (by simpa using a)⟩,λy b => ?_,λy => ?_⟩
 ·rw [World.cell?_setCell_other];intro e;injection e with i h;omega
 ·rw [World.frozen?_setCell]
theorem Turn.mono {w w':World} {g o n a b:Nat} (h:Turn w w' g o n) (e:a<=o) (d:o+n<=a+b):Turn w w' g a b:=⟨h.grown,λx c=>h.cell x Qa,h.frozen⟩
def put5 (w:World) (g p:Nat) (x:Pl):World:=
 ((((w.setCell ⟨g,p,none⟩ (.int .u64 (xh x:Int))).setCell ⟨g,p+1,none⟩ (.int .u64 (xl x:Int))).setCell ⟨g,p+2,none⟩ (.int .i64 (xn x))).setCell ⟨g,p+3,none⟩ (.int .i64 (xv x))).setCell ⟨g,p+4,none⟩ (.bool x.isSome)
theorem Uc (w:World) (g p:Nat) (x:Pl):Turn w (put5 w g p x) g p 5:=
 ((((F3 w g p 5 p _ Qa Qa).trans (F3 _ g p 5 (p+1) _ Qa Qa)).trans (F3 _ g p 5 (p+2) _ Qa Qa)).trans (F3 _ g p 5 (p+3) _ Qa Qa)).trans
   (F3 _ g p 5 (p+4) _ Qa Qa)
theorem Zxz {w:World} {g p:Nat} (x:Pl) (a:∀j,j<5->(w.cell? ⟨g,p+j,none⟩).isSome=true) (j:Nat) (u:Value) (b:(x5 x)[j]? = some u):(put5 w g p x).cell? ⟨g,p+j,none⟩=some u:=by have c:=a 0 Qa;have h:=a 1 Qa;have f:=a 2 Qa;have e:=a 3 Qa;have d:=a 4 Qa;rw [Nat.add_zero] at c;have i:j<5:=(List.getElem?_eq_some_iff.1 b).1;unfold put5;rcases (show j=0\/j=1\/j=2\/j=3\/j=4 by omega) with rfl | rfl | rfl | rfl | rfl<;>(simp only [x5,List.getElem?_cons_zero,List.getElem?_cons_succ,Option.some.injEq] at b;subst b;simp [go_sem,c,h,f,e,d])
theorem Bkt.put {w:World} {g o:Nat} {C:List Pl} (H:Bkt w g o C) (i:Nat) (hi:i<C.length) (x:Pl):Bkt (put5 w g (o+i*5) x) g o (C.set i x)/\Turn w (put5 w g (o+i*5) x) g o 20:=by
 have f:=H.four;have b:=Uc w g (o+i*5) x;refine ⟨⟨by simpa using f,Qm H.lt b.grown.size,λk d j u a => ?_,λj c=>(b.frozen _).trans (H.free j c)⟩,b.mono Qa Qa⟩;rw [List.length_set] at d;have c:j<5:=(List.getElem?_eq_some_iff.1 a).1;by_cases e:i=k
 ·subst e;rw [List.getElem_set_self] at a;exact Zxz x (λj c=>by rw [H.cell i hi j _ (Qr (by simpa [x5] using c))];rfl) j u a
 ·rw [List.getElem_set_ne e] at a;rw [b.cell _ Qa];exact H.cell k d j u a
theorem Bkt.drew {w:World} {g o:Nat} {C:List Pl} (H:Bkt w g o C):Bkt w.drew g o C:=H.below Qg
theorem Turn.drew {w w':World} {g o n:Nat} (h:Turn w w' g o n) (a:g<w.heap.size):Turn w w'.drew g o n:=h.trans (Turn.of_below (Qm a h.grown.size) Qg)
theorem Bkt.put_drew {w w1:World} {g o:Nat} {C:List Pl} (H:Bkt w g o C) (a:Below w.heap.size w w1) (i:Nat) (hi:i<C.length) (x:Pl) :
 Bkt (put5 w1 g (o+i*5) x).drew g o (C.set i x)/\Turn w (put5 w1 g (o+i*5) x).drew g o 20:=by
 have b:=(H.below a).put i hi x;exact ⟨b.1.drew,((Turn.of_below H.lt a).trans b.2).drew H.lt⟩
theorem Turn.fresh {w w1:World} {g o n:Nat} (h:Turn w w1 g o n) (f:g<w.heap.size) (b x:Nat) (u:Value) (i:w.heap.size<=b):Turn w (w1.setCell ⟨b,x,none⟩ u) g o n:=by
 refine ⟨⟨h.grown.os,h.grown.tape,h.grown.output,by rw [World.size_setCell];exact h.grown.size,λk d c=>(Below.heap_setCell w1 ⟨b,x,none⟩ u k Qe).trans (h.grown.block k d c)⟩,λy a => ?_,λy => ?_⟩
 ·rw [World.cell?_setCell_other]
  ·exact h.cell y a
  ·intro e;injection e with l j;omega
 ·rw [World.frozen?_setCell];exact h.frozen y
theorem Bkt.fresh {w1:World} {g o:Nat} {C:List Pl} (H:Bkt w1 g o C) (b x:Nat) (u:Value) (a:g≠b):Bkt (w1.setCell ⟨b,x,none⟩ u) g o C:=H.kept (F3 w1 b x 1 x u (Qn _) Qa) (.inl a)
theorem Turn.far {w w':World} {g o n b:Nat} (h:Turn w w' g o n) (d:b<w.heap.size) (a:b≠g) (x:Nat):w'.cell? ⟨b,x,none⟩=w.cell? ⟨b,x,none⟩/\w'.frozen? ⟨b,x,none⟩=w.frozen? ⟨b,x,none⟩:=by have c:=h.grown.block b d (by simpa using a);exact ⟨World.cell?_of_block c,by unfold World.frozen?;rw [c]⟩
def bcs (C:List Pl):List Value:=C.flatMap x5
theorem Ud:∀(C:List Pl) (i:Nat) (hi:i<C.length) (j:Nat),j<5->(bcs C)[i*5+j]? = (x5 C[i])[j]?
 | x::C,0,_,j,a=>by show (x5 x++bcs C)[0*5+j]? = _;rw [List.getElem?_append_left (by simp [x5];omega)];simp
 | x::C,i+1,hi,j,a=>by show (x5 x++bcs C)[(i+1)*5+j]? = _;rw [List.getElem?_append_right (by simp [x5];omega),show (i+1)*5+j-(x5 x).length=i*5+j by simp [x5];omega,Ud C i (by simpa using hi) j a];simp
theorem Jk (C:List Pl):(bcs C).length=C.length*5:=by
 unfold bcs
 induction C with
 | nil=>rfl
 | cons x C ih=>rw [List.flatMap_cons,Qo,ih];simp [x5];omega
theorem Bkt.range {w:World} {g o:Nat} {C:List Pl} (H:Bkt w g o C):w.rangeAt g o (bcs C):=by
 intro j v a;have c:(bcs C).length=20:=by rw [Jk,H.four]
 have d:j<20:=by have:=(List.getElem?_eq_some_iff.1 a).1;omega
 have b:j/5<C.length:=by rw [H.four];omega
 have e:=Ud C (j/5) b (j%5) Qa;rw [show j/5*5+j%5=j by omega] at e;have:=H.cell (j/5) b (j%5) v (e▸a)
 rwa [show o+j/5*5+j%5=o+j by omega] at this
theorem M1 {ops:Array Oper} {rest:List Oper} {b:Oper} {a:Act} {w:World} {Q:Exit->Act->World->Prop} (x:Operand) (g o:Nat) (L:List Value) (c:b.guard=none) (e:b.op = .load 175 x)
 (d:a.eval x = .pointer (some ⟨g,o,none⟩)) (i:w.rangeAt g o L) (f:L.length=20) (h:wpList prog ops Q rest (a.put b.dst (.agg L.toArray)) w):wpList prog ops Q (b::rest) a w:=
 wpList_load_mid c 175 x e g o d L _ i underlying175 rfl (by rw [f];kernel_rfl) h
theorem E8 {ops:Array Oper} {rest:List Oper} {b:Oper} {a:Act} {w:World} {Q:Exit->Act->World->Prop} (x y:Operand) (X:Array Value) (i:Int) (v:Value) (c:b.guard=none) (j:b.op = .index 175 x y)
 (e:a.eval x = .agg X) (d:a.eval y = .int .i64 i) (f:∀w,(Instr.index 175 (.agg X) (.int .i64 i)).run prog w = .ok v w) (h:wpList prog ops Q rest (a.put b.dst v) w):wpList prog ops Q (b::rest) a w:=
 wpList_plain c λ_ k=>by unfold Oper.wp execOp;simp only [j,e,d,Sem.run_bind,f,Result.andThen_ok,Sem.run_pure];exact k _ _ h
theorem M3 {C:List Pl} (e:C.length=4) (i:Nat) (hi:i<C.length) (w:World) :
 (Instr.index 175 (.agg (bcs C).toArray) (.int .i64 (i:Int))).run prog w = .ok (.agg #[.int .u64 (xh C[i]:Int),.int .u64 (xl C[i]:Int),.int .i64 (xn C[i]),.int .i64 (xv C[i]),.bool C[i].isSome]) w:=by
 obtain ⟨a,b,c,d,rfl⟩:∃a b c d,C=[a,b,c,d]:=by
  match C,e with
  | [a,b,c,d],_=>exact ⟨a,b,c,d,rfl⟩
 simp only [Qt,List.length_nil] at hi;rcases (show i=0\/i=1\/i=2\/i=3 by omega) with rfl | rfl | rfl | rfl<;>rfl
theorem eqlK (a b:Nat) (n:Int) (c d:Nat) (m:Int) (w:World):(binOp .eql 32 (.agg #[.int .u64 a,.int .u64 b,.int .i64 n]) (.agg #[.int .u64 c,.int .u64 d,.int .i64 m])).run prog w =
 .ok (.bool (decide (a=c/\b=d/\n=m))) w:=by
 have i:decide (a=c/\b=d/\n=m)=(decide ((a:Int)=c)&&(decide ((b:Int)=d)&&decide (n=m))):=by rw [<-Bool.decide_and,<-Bool.decide_and,decide_eq_decide];omega
 rw [i];by_cases h:(a:Int)=c<;>by_cases f:(b:Int)=d<;>by_cases e:n=m<;>simp [go_sem,h,f,e]
theorem M4 (g o:Nat) (C:List Pl) (k:Ky) (w:World) (H:Bkt w g o C) :
 Calls prog 137 #[.pointer (some ⟨g,o,none⟩),kyV k] w λe w'=>e = .returned (.int .i64 (idxI (hasK k) C))/\Below w.heap.size w w':=by
 have f:=(H.below (w':=w.alloc (.cells #[.int .u64 (k.h:Int),.int .u64 (k.l:Int),.int .i64 k.n] 32)) Qg).range;have d:(bcs C).length=20:=by rw [Jk,H.four]
 have E:=hid (λi hi=>M3 H.four i hi);have O:=H.four;have N:=H.lt;generalize bcs C=X at f d E;clear H;unfold kyV;go_enter func137,ntmps137;go_wp2_with (refine M1 _ g o X rfl rfl rfl f d ?_);clear f d;go_loopw [5,6,13] (λK J i wr=>∃(j:Nat),j<=4/\i = .int .i64 (j:Int)/\(∀x (r:x<C.length),x<j->hasK k C[x]=false)/\wr.cell? ⟨w.heap.size,0,none⟩=some (.int .u64 (k.h:Int))/\wr.cell? ⟨w.heap.size,1,none⟩=some (.int .u64 (k.l:Int))/\wr.cell? ⟨w.heap.size,2,none⟩=some (.int .i64 k.n)/\w.heap.size<wr.heap.size/\Below w.heap.size w wr) (λ_ _ i _=>4-(intOf i).toNat)
 case atStart=>exact ⟨0,Qa,rfl,λx _ h=>absurd h Qa,Qi,Qi,Qi,Qf,Qg⟩
 case round=>
  obtain ⟨j,L,rfl,c,D,k1,B,p,I⟩:=hrel;by_cases F:j<4
  ·have hi:=E.o j Qa;have m:=hid (Z6h k (C[j]'(Qa)));have a:=hid c;clear c;generalize r:(C[j]'(Qa))=x at hi m;have A:=hid r;clear r;have z:=eqlK (xh x) (xl x) (xn x) k.h k.l k.n;by_cases b:x.isSome=true
   ·rw [b] at hi;by_cases q:xh x=k.h/\xl x=k.l/\xn x=k.n
    ·rw [decide_eq_true q] at z;have s:Hid (hasK k x=true):=by show hasK k x=true;rw [m.o,b,decide_eq_true q];rfl
     clear b m q;go_wp2_with (refine E8 _ _ _ _ _ rfl rfl rfl rfl hi ?_);go_ret;refine ⟨Bc (Pm Qa (by rw [A.o];exact s.o) a.o).symm,Qg⟩
    ·rw [decide_eq_false q] at z;have s:Hid (hasK k x=false):=by show hasK k x=false;rw [m.o,b,decide_eq_false q];rfl
     clear b m q;go_wp2_with (refine E8 _ _ _ _ _ rfl rfl rfl rfl hi ?_);go_roundw
     case rel=>
      refine ⟨j+1,Qa,Qj,λy u t => ?_,(World.cell?_alloc_lt wr _ ⟨w.heap.size,0,none⟩ p).trans D,(World.cell?_alloc_lt wr _ ⟨w.heap.size,1,none⟩ p).trans k1,(World.cell?_alloc_lt wr _ ⟨w.heap.size,2,none⟩ p).trans B,Qe,Qg⟩;by_cases e:y=j
      ·subst e;rw [A.o];exact s.o
      ·exact a.o y u Qa
     case measure=>simp [intOf];omega
   ·rw [Bool.not_eq_true] at b;rw [b] at hi;have s:Hid (hasK k x=false):=by show hasK k x=false;rw [m.o,b];rfl
    clear b m z;go_wp2_with (refine E8 _ _ _ _ _ rfl rfl rfl rfl hi ?_);go_roundw
    case rel=>
     refine ⟨j+1,Qa,Qj,λy u t => ?_,(World.cell?_alloc_lt wr _ ⟨w.heap.size,0,none⟩ p).trans D,(World.cell?_alloc_lt wr _ ⟨w.heap.size,1,none⟩ p).trans k1,(World.cell?_alloc_lt wr _ ⟨w.heap.size,2,none⟩ p).trans B,Qe,Qg⟩;by_cases e:y=j
     ·subst e;rw [A.o];exact s.o
     ·exact a.o y u Qa
    case measure=>simp [intOf];omega
  ·go_wp2;go_ret;exact ⟨Bc (Pn (λx r=>c x r Qa)).symm,I⟩
theorem Zz1 (g o:Nat) (C:List Pl) (w:World) (H:Bkt w g o C) :
 Calls prog 144 #[.pointer (some ⟨g,o,none⟩)] w λe w'=>e = .returned (.int .i64 (idxI Option.isNone C))/\Below w.heap.size w w':=by
 have d:=H.range;have c:(bcs C).length=20:=by rw [Jk,H.four]
 have p:=hid (λi hi=>M3 H.four i hi);have D:=H.four;have B:=H.lt;generalize bcs C=X at d c p;clear H;go_enter func144,ntmps144;go_wp2_with (refine M1 _ g o X rfl rfl rfl d c ?_);clear d c;go_loopw [3,4,11] (λu t i wr=>∃(j:Nat),j<=4/\i = .int .i64 (j:Int)/\(∀x (f:x<C.length),x<j->Option.isNone C[x]=false)/\w.heap.size<=wr.heap.size/\Below w.heap.size w wr) (λ_ _ i _=>4-(intOf i).toNat)
 case atStart=>exact ⟨0,Qa,rfl,λx _ h=>absurd h Qa,Qn _,Qg⟩
 case round=>
  obtain ⟨j,A,rfl,b,z,s⟩:=hrel;by_cases r:j<4
  ·have hi:=p.o j Qa;have a:=hid b;clear b;generalize f:(C[j]'(Qa))=x at hi;have n:=hid f;clear f;by_cases k:x.isSome=true
   ·rw [k] at hi;have l:Hid (Option.isNone x=false):=by show Option.isNone x=false;cases x<;>simp_all
    clear k;go_wp2_with (refine E8 _ _ _ _ _ rfl rfl rfl rfl hi ?_);go_roundw
    case rel=>
     refine ⟨j+1,Qa,Qj,λy q m => ?_,Qe,Qg⟩;by_cases e:y=j
     ·subst e;rw [n.o];exact l.o
     ·exact a.o y q Qa
    case measure=>simp [intOf];omega
   ·rw [Bool.not_eq_true] at k;rw [k] at hi;have l:Hid (Option.isNone x=true):=by show Option.isNone x=true;cases x<;>simp_all
    clear k;go_wp2_with (refine E8 _ _ _ _ _ rfl rfl rfl rfl hi ?_);go_ret;refine ⟨Bc (Pm Qa (by rw [n.o];exact l.o) a.o).symm,Qg⟩
  ·go_wp2;go_ret;exact ⟨Bc (Pn (λx f=>b x f Qa)).symm,s⟩
theorem Z0y (g o:Nat) (C:List Pl) (w:World) (H:Bkt w g o C) :
 Calls prog 160 #[.pointer (some ⟨g,o,none⟩)] w λe w'=>Cw w w' e (allC C):=by
 have k:=H.range;have f:(bcs C).length=20:=by rw [Jk,H.four]
 have K:=hid (λi hi=>M3 H.four i hi);have h4:=H.four;have hg:=H.lt;have HS:=hid (λi h=>Z0x C i h);have HA:=hid (Lc C);obtain ⟨O,I,E,D,B⟩:=info_parts D3;generalize bcs C=X at k f K;clear H;go_enter func160,ntmps160;go_wp2_with (refine M1 _ g o X rfl rfl rfl k f ?_);clear k f;go_loopw [3,5,12] (λN s5 i wr=>∃(j:Nat) (p:Option Addr) (c:Nat) (L:List Rt),j<=4/\i = .int .i64 (j:Int)/\N = .slice p L.length c/\L.length<=4/\Hid (L=allC (C.take j))/\wr.ownsRow w.heap.size 34 4 (.slice p L.length c) L.length (rcs L)/\Below w.heap.size w wr) (λ_ _ i _=>4-(intOf i).toNat)
 case atStart=>exact ⟨0,none,0,[],Qa,rfl,rfl,Qf,hid rfl,World.ownsRow_nil _ _ _ _,Qg⟩
 case round=>
  obtain ⟨j,p,c,L,J,rfl,rfl,Z,l,a,A⟩:=hrel;have Q:=A.size;by_cases S:j<4
  ·have hi:=K.o j Qa;have z:=HS.o j Qa;rw [<-l.o] at z;have s:=Lc (C.take (j+1));rw [z] at s;have q:(C.take (j+1)).length<=4:=Qe;have n:Hid ((L++(C[j]'(Qa)).toList).length<=4):=by show _<=4;omega
   clear s q;have u:=hid z;clear z l;generalize R:(C[j]'(Qa))=x at hi u n;clear R;cases x with
   | none=>
    simp only [xh,xl,xn,xv,Option.isSome_none] at hi;have m:Hid (L=allC (C.take (j+1))):=by show L=_;rw [u.o];simp
    clear u;go_wp2_with (refine E8 _ _ _ _ _ rfl rfl rfl rfl hi ?_);go_roundw
    case rel=>exact ⟨j+1,p,c,L,Qa,Qj,rfl,Z,m,a.alloc _,Qg⟩
    case measure=>simp [intOf];omega
   | some r=>
    simp only [xh,xl,xn,xv,Option.isSome_some] at hi;have m:Hid (L++[r]=allC (C.take (j+1))):=by show L++[r]=_;rw [u.o];simp
    have y:Hid ((L++[r]).length<=4):=by show _<=4;exact n.o
    have Y:L.length<=3:=by have:=y.o;simp at this;omega
    clear u n;go_wp2_with (first
     | (refine E8 _ _ _ _ _ rfl rfl rfl rfl hi ?_)
     | (at_builtin;go_loud (refine wpList_append_own _ rfl (.tmp 17) (.tmp 23) 27 rfl w.heap.size 34 O _ 4 32 underlying27 I E D B rfl Qd _ _ _ rfl ((a.alloc _).alloc _) ⟨wr.heap.size+1,0,none⟩ 1 1 (Ae r) rfl rfl (Fp Qi Qi Qi Qi) (by simp [Ae,Value.oneCell']) Qk Qa Qe ?_)))
    intro v3 w3 d t _;have b:=Le d rfl;have F:Below w.heap.size w w3:=((A.alloc Q _).alloc Qe _).grown t Qe (λj J=>(a.lt j J).1);obtain ⟨p3,c3,rfl⟩:=Aq b;clear d t a A;go_wp2;go_roundw
    case rel=>exact ⟨j+1,p3,c3,L++[r],Qa,Qj,rfl,y.o,m,b,F⟩
    case measure=>simp [intOf];omega
  ·go_wp2;go_ret;have U:L=allC C:=by have:=l.o;rwa [List.take_of_length_le Qa] at this
   subst U;exact ⟨p,c,rfl,a,A⟩
structure RBk (w:World) (g o:Nat) (C:List Pl):Prop where
 four:C.length=4
 lt:g<w.heap.size
 rt:∀(i:Nat) (hi:i<C.length),w.cell? ⟨g,o+i*4,none⟩=some (.int .u64 (xh C[i]:Int))/\w.cell? ⟨g,o+i*4+1,none⟩=some (.int .u64 (xl C[i]:Int))/\w.cell? ⟨g,o+i*4+2,none⟩=some (.int .i64 (xn C[i]))/\w.cell? ⟨g,o+i*4+3,none⟩=some (.int .i64 (xv C[i]))
 on:∀(i:Nat) (hi:i<C.length),w.cell? ⟨g,o+16+i,none⟩=some (.bool C[i].isSome)
 free:∀j,j<20->w.frozen? ⟨g,o+j,none⟩=false
theorem RBk.kept {w w':World} {g o:Nat} {C:List Pl} (H:RBk w g o C) (f:w.heap.size<=w'.heap.size) (h:∀x,x<20->w'.cell? ⟨g,o+x,none⟩=w.cell? ⟨g,o+x,none⟩/\w'.frozen? ⟨g,o+x,none⟩=w.frozen? ⟨g,o+x,none⟩):RBk w' g o C:=by
 have k:=H.four;refine ⟨H.four,Qm H.lt f,λi hi => ?_,λi hi => ?_,λj e=>(h j e).2.trans (H.free j e)⟩
 ·obtain ⟨a,b,c,d⟩:=H.rt i hi;simp only [Nat.add_assoc] at *
  exact ⟨(h _ Qa).1.trans a,(h _ Qa).1.trans b,(h _ Qa).1.trans c,(h _ Qa).1.trans d⟩
 ·have:=H.on i hi;rw [Nat.add_assoc] at *
  exact (h _ Qa).1.trans this
theorem RBk.below {w w':World} {g o:Nat} {C:List Pl} (H:RBk w g o C) (a:Below w.heap.size w w'):RBk w' g o C:=
 H.kept a.size λx _=>⟨a.cell (p:=⟨g,o+x,none⟩) H.lt,a.frozen (p:=⟨g,o+x,none⟩) H.lt⟩
theorem RBk.apart {w w':World} {g o b a n:Nat} {C:List Pl} (H:RBk w g o C) (h:Turn w w' b a n) (d:g≠b\/o+20<=a\/a+n<=o):RBk w' g o C:=by
 refine H.kept h.grown.size λx f => ?_;by_cases e:g=b
 ·subst e;exact ⟨h.cell _ Qa,h.frozen _⟩
 ·have c:=h.grown.block g H.lt (by simpa using e);exact ⟨World.cell?_of_block c,by unfold World.frozen?;rw [c]⟩
end
end Go.Proofs.YtpdphfgpdgadpaaGreat

import Derived.Test.YtpdphfgpdgadpaaGreatL22d
set_option linter.unusedSimpArgs false
set_option linter.unusedVariables false
set_option maxHeartbeats 16000000
set_option maxRecDepth 100000
open Go.Proofs.Tryz
namespace Go.Proofs.YtpdphfgpdgadpaaGreat
open Lib(hid)
open Go Go.RowKit Go.Sort M
theorem Zx7 {w:World} {B n m d k:Nat} {e:TypeId} {q:Option Addr} {xs:List Value} (h:w.ownsRow B e k (.slice q n d) m xs):q=none->d=0:=by
 intro a;subst a;rcases h.2 with ⟨e,-⟩ | ⟨g,cap,b,e,-⟩
 ·simp only [Value.slice.injEq] at e;exact e.2.2
 ·simp only [Value.slice.injEq] at e;cases e.1
theorem Yd {n:Nat} (h:n<=30):∀r∈Ah n,r.k.good:=Z1s h
theorem Z5g {w:World} {B n:Nat} {v:Value} (h:w.ownsRow B 34 4 v (n+1) (rcs (Ah n)++Ae (shR n))):w.ownsRow B 34 4 v (n+1) (rcs (Ah (n+1))):=by rw [Oa,C9,Fo];exact h
theorem Z1q (n:Nat):Af (Ah n)=Ah n:=Nw (Hz n)
theorem shK (j:Nat):kyV (shR j).k = .agg #[.int .u64 ((j:Int)*144115188075855872),.int .u64 0,.int .i64 7]:=by unfold kyV shR;simp only [Int.natCast_mul];rfl
theorem Zqo {Q:World->(Nat->Prop)->Nat->Eg->Prop} {P:World->(Nat->Prop)->Nat->Sh->Prop} (DE:EngC Q) (D:ShdC Q P) (c:Cf) (s:Nat) (N SL T:Nat) (w:World) (ws:W64 s)
 (ck:H7 c=true) (bp:okCf c=true) (m1:8<=c.wd) (m2:N<=30) (m3:1<=SL) (m4:SL<=10) (m5:T<=10) :
 Calls prog 3 #[cfgA c,.int .u64 (s:Int),.int .i64 (N:Int),.int .i64 (SL:Int),.int .i64 (T:Int)] w λe w'=>e = .returned (.bool true)/\Below w.heap.size w w':=by
 have HA:=hid (λw=>X6 D w);have c1:=X4 c;have c8:=Xq c;rw [ck] at c1;rw [bp] at c8;have bo:=λW p k h4 h5 h6=>D.start c s (Ah N) p k SL W ws h4 (Yd m2) (by rw [B5];omega) h5 h6 bp m3 Qa;rw [Z1q,B5] at bo;have c7:=X3 bp s (Yd m2) (by rw [B5];omega) m3 (show SL<=9223372036854775807 by omega);have c6:=Zut c s N SL Qa m2;have c5:=(Zus c s (Ah N) SL).trans (B5 N);obtain ⟨S0,co⟩:=Q' (C5 c s (Ah N) SL);rw [<-co] at bo c7 c6 c5;obtain ⟨wd,di,lv,st,hs,bt,le,bk,rt,hp⟩:=c;unfold cfgA at *
 simp only at *
 have d7:=hid c1;have d8:=hid c8;have d6:=hid bo;have b6:=hid (And.intro c7 (And.intro c6 c5));have J:=hid D;have av:=hid DE;clear c1 c8 ck bp bo c7 c6 c5 co;obtain ⟨i0,b8,cx,cw,cv⟩:=info_parts D3;have n1:¬wd<8:=Qa;have n2:¬(N:Int)<0:=Qa;have n3:¬30<(N:Int):=Qa;have n4:¬(SL:Int)<1:=Qa;have n5:¬10<(SL:Int):=Qa;have n6:¬(T:Int)<0:=Qa;have n7:¬10<(T:Int):=Qa;go_enter func3,ntmps3;go_wp2_with fail;refine (HA.o _).mono ?_;rintro e w1 ⟨rfl,ac⟩;have ci:Below w.heap.size w w1:=Below.trans Qg (ac.mono Qf);have y0:w1.cell? ⟨w.heap.size,0,none⟩=some (.int .i64 wd):=by rw [ac.cell Qc];exact Ql
 have y1:w1.cell? ⟨w.heap.size,1,none⟩=some (.int .i64 di):=by rw [ac.cell Qc];exact Ql
 have y2:w1.cell? ⟨w.heap.size,2,none⟩=some (.int .i64 lv):=by rw [ac.cell Qc];exact Ql
 have y3:w1.cell? ⟨w.heap.size,3,none⟩=some (.int .i64 st):=by rw [ac.cell Qc];exact Ql
 have y4:w1.cell? ⟨w.heap.size,4,none⟩=some (.int .i64 hs):=by rw [ac.cell Qc];exact Ql
 have y5:w1.cell? ⟨w.heap.size,5,none⟩=some (.int .i64 bt):=by rw [ac.cell Qc];exact Ql
 have y6:w1.cell? ⟨w.heap.size,6,none⟩=some (.int .i64 le):=by rw [ac.cell Qc];exact Ql
 have y7:w1.cell? ⟨w.heap.size,7,none⟩=some (.int .i64 bk):=by rw [ac.cell Qc];exact Ql
 have y8:w1.cell? ⟨w.heap.size,8,none⟩=some (.int .i64 rt):=by rw [ac.cell Qc];exact Ql
 have y9:w1.cell? ⟨w.heap.size,9,none⟩=some (.int .i64 hp):=by rw [ac.cell Qc];exact Ql
 have af:w.heap.size<w1.heap.size:=by have:=ac.size;simp at this;omega
 clear ac;go_wp2_with fail;refine (d7.o _).mono ?_;rintro e w2 ⟨rfl,bs⟩;have cg:=ci.trans (bs.mono ci.size);obtain ⟨aj,-⟩:=Ac bs;have y0:=(aj _ 0 af).trans y0;have y1:=(aj _ 1 af).trans y1;have y2:=(aj _ 2 af).trans y2;have y3:=(aj _ 3 af).trans y3;have y4:=(aj _ 4 af).trans y4;have y5:=(aj _ 5 af).trans y5;have y6:=(aj _ 6 af).trans y6;have y7:=(aj _ 7 af).trans y7;have y8:=(aj _ 8 af).trans y8;have y9:=(aj _ 9 af).trans y9;have ae:=Qm af bs.size;clear bs aj;go_wp2_with fail;refine (d8.o _).mono ?_;rintro e w3 ⟨rfl,br⟩;have cf:=cg.trans (br.mono cg.size);obtain ⟨ai,-⟩:=Ac br;have y0:=(ai _ 0 ae).trans y0;have y1:=(ai _ 1 ae).trans y1;have y2:=(ai _ 2 ae).trans y2;have y3:=(ai _ 3 ae).trans y3;have y4:=(ai _ 4 ae).trans y4;have y5:=(ai _ 5 ae).trans y5;have y6:=(ai _ 6 ae).trans y6;have y7:=(ai _ 7 ae).trans y7;have y8:=(ai _ 8 ae).trans y8;have y9:=(ai _ 9 ae).trans y9;have ad:=Qm ae br.size;clear br ai;have da:Hid (∀wx,Below w3.heap.size w3 wx->(wx.cell? ⟨w.heap.size,0,none⟩=some (.int .i64 wd)/\wx.cell? ⟨w.heap.size,1,none⟩=some (.int .i64 di)/\wx.cell? ⟨w.heap.size,2,none⟩=some (.int .i64 lv)/\wx.cell? ⟨w.heap.size,3,none⟩=some (.int .i64 st)/\wx.cell? ⟨w.heap.size,4,none⟩=some (.int .i64 hs)) /\
  (wx.cell? ⟨w.heap.size,5,none⟩=some (.int .i64 bt)/\wx.cell? ⟨w.heap.size,6,none⟩=some (.int .i64 le)/\wx.cell? ⟨w.heap.size,7,none⟩=some (.int .i64 bk)/\wx.cell? ⟨w.heap.size,8,none⟩=some (.int .i64 rt)/\wx.cell? ⟨w.heap.size,9,none⟩=some (.int .i64 hp))/\w.heap.size<wx.heap.size):=by
  refine hid λwx h=>⟨⟨(h.cell (p:=⟨w.heap.size,0,none⟩) ad).trans y0,(h.cell (p:=⟨w.heap.size,1,none⟩) ad).trans y1,(h.cell (p:=⟨w.heap.size,2,none⟩) ad).trans y2,(h.cell (p:=⟨w.heap.size,3,none⟩) ad).trans y3,(h.cell (p:=⟨w.heap.size,4,none⟩) ad).trans y4⟩,⟨(h.cell (p:=⟨w.heap.size,5,none⟩) ad).trans y5,(h.cell (p:=⟨w.heap.size,6,none⟩) ad).trans y6,(h.cell (p:=⟨w.heap.size,7,none⟩) ad).trans y7,(h.cell (p:=⟨w.heap.size,8,none⟩) ad).trans y8,(h.cell (p:=⟨w.heap.size,9,none⟩) ad).trans y9⟩,Qm ad h.size⟩
 go_wp2;clear y1 y2 y3 y4 y5 y6 y7 y8 y9 y0;go_loopg [12,13] N (λkx ct cs wx=>∃(i:Nat) (p:Option Addr) (cp:Nat),cs = .int .i64 (i:Int)/\N-i<=kx/\i<=N/\ct = .slice p i cp/\Hid (wx.ownsRow w3.heap.size 34 4 (.slice p i cp) i (rcs (Ah i)))/\Below w3.heap.size w3 wx)
 case atStart=>exact ⟨0,none,0,rfl,Qa,Qa,rfl,hid (World.ownsRow_nil _ _ _ _),Qg⟩
 case round=>
  obtain ⟨i,p,cp,rfl,k1,k2,rfl,HO,b9⟩:=hrel;by_cases hi:i<N
  ·have dc:=b9.size;have i1:¬(i:Int)<0:=Qa;go_wp2_with (at_builtin;go_loud (refine wpList_append_own _ rfl (.tmp 69) (.tmp 77) 27 rfl w3.heap.size 34 i0 _ 4 32 underlying27 b8 cx cw cv rfl Qd _ _ _ rfl (HO.o.alloc _) ⟨wr.heap.size,0,none⟩ 1 1 (Ae (shR i)) rfl rfl (Fp (by simp [go_sem,shR]) (by simp [go_sem,shR]) (by simp [go_sem,shR]) (by simp [go_sem,shR])) (by simp [Ae,Value.oneCell']) Qk Qa Qe ?_));intro v4 w4 ba cm _;have b0:=Z5g ba;obtain ⟨p4,c4,rfl⟩:=Aq b0;have d9:=hid b0;have bq:Below w3.heap.size w3 w4:=(b9.alloc b9.size _).grown cm Qe (λj hj=>(HO.o.lt j hj).1);clear ba b0 cm HO b9;go_wp2;go_roundg (N-(i+1))
   case measure=>omega
   case rel=>exact ⟨i+1,p4,c4,Qj,Qa,Qa,rfl,d9,bq⟩
  ·obtain rfl:i=N:=Qa;obtain ⟨⟨y0,y1,y2,y3,y4⟩,⟨y5,y6,y7,y8,y9⟩,dd⟩:=da.o _ b9;have cy:i<=cp:=T9 HO.o;obtain ⟨U,d0⟩:=Q' wr;subst d0;have ap:=cf.trans (b9.mono cf.size);have bu:=Row.of_own HO.o;have bv:=Zx7 HO.o;clear HO;go_wp2_with fail;refine (d6.o _ _ _ bu cy bv).mono ?_;rintro e w4 ⟨t,rfl,hP,bq⟩;have HI:Hid (ShI P U w4 t S0 (In U.heap.size w4.heap.size)):=hid ⟨hP,b6.o.1,λg hg=>⟨hg.1,hg.2⟩,bq⟩;clear hP bq bu bv y0 y1 y2 y3 y4 y5 y6 y7 y8 y9;go_wp2_with fail;refine (X5 0 _).mono ?_;rintro e w5 ⟨rfl,cn⟩;have ao:=hid (HI.o.grow J.o cn);clear cn HI;have b8:i<=30:=m2;have de:=ao.o.below.size;by_cases hn:i=0
   ·have z:S0.W=[]:=List.length_eq_zero_iff.1 (b6.o.2.2.trans hn);have ng:¬0<(i:Int):=Qa;have a:=hid (J.o.done w5 _ t S0 ao.o.shd ao.o.ok z);clear z;go_wp2_with fail;refine a.o.mono ?_;rintro e w6 ⟨g6,K6,rfl,-,-,be⟩;have bj:=hid (ao.o.grow J.o be);clear be ao a;go_wp2;go_loopg [16] 40 (λkx c0 wx=>∃(j:Nat),c0 = .int .i64 (j:Int)/\40-j<=kx/\j<=30/\Hid (∃S K,ShI P U wx t S K/\S.fin.R=Ah i/\S.W.length<=30-j))
    case atStart=>exact ⟨0,rfl,Qa,Qa,hid ⟨S0,_,bj.o,b6.o.2.1,by rw [b6.o.2.2];omega⟩⟩
    case round=>
     clear bj;obtain ⟨j,rfl,l1,l2,HI⟩:=hrel;obtain ⟨O,K1,u,hf,hm⟩:=HI.o;have hj:(j:Int)<40:=Qa;by_cases z:O.W=[]
     ·have a:=hid (λW h=>J.o.done W K1 t O h u.ok z);have hR:O.E.R=Ah i:=by rw [<-Sh.fin_done z];exact hf
      have HF:Hid ((O.dels T).fin.R=(Ah i).drop T):=hid (O.dels_fin hR T);have b7:Hid (∀k,k<=10->(O.dels k).ok):=hid λk hk=>Sh.dels_ok u.ok Qa (by rw [hR,B5];exact b8);have cj:O.E.R.length<=30:=by rw [hR,B5];exact b8
      have ab:=hid u;have HW:=hid z;clear HI u hf hm z hR;go_wp2_with fail;refine (a.o _ ab.o.shd).mono ?_;rintro e w8 ⟨g8,K8,rfl,-,-,ak⟩;have a5:=hid (ab.o.grow J.o ak);clear ak ab;go_wp2_with fail;refine (a.o _ a5.o.shd).mono ?_;rintro e w9 ⟨g9,K9,rfl,-,-,bd⟩;have an:=hid (a5.o.grow J.o bd);clear bd a5 a;go_wp2;obtain ⟨cr,cc⟩:=Q' wr;subst cc;go_loopg [17] T (λkx bz wx=>∃(k:Nat),bz = .int .i64 (k:Int)/\T-k<=kx/\k<=T/\Hid (∃K,ShI P U wx t (O.dels k) K))
      case atStart=>exact ⟨0,rfl,Qa,Qa,hid ⟨K1,by rw [Sh.dels_zero HW.o];exact an.o⟩⟩
      case round=>
       clear an;obtain ⟨k,rfl,q1,q2,HI⟩:=hrel;obtain ⟨K2,u⟩:=HI.o;have r:=hid u;clear u HI;by_cases hk:k<T
       ·have b4:=λW h=>J.o.del W K2 t (O.dels k) (shR k).k h (b7.o k Qa) (by rw [Sh.dels_succ];exact b7.o (k+1) Qa);rw [shK,Sh.dels_succ] at b4;have bm:=hid b4;have cu:¬(k:Int)<0:=Qa;have bn:=hid (b7.o (k+1) Qa);clear b4;go_wp2_with fail;refine (bm.o _ r.o.shd).mono ?_;rintro e bx ⟨rfl,ce,ar,aq,au⟩;have bl:Hid (∃K,ShI P U bx t (O.dels (k+1)) K):=hid ⟨ce,r.o.turned ar bn.o aq au⟩;clear ar aq au r bn bm;go_wp2;go_roundg (T-(k+1))
        case measure=>omega
        case rel=>exact ⟨k+1,Qj,Qa,Qa,bl⟩
       ·obtain rfl:k=T:=Qa;obtain ⟨cq,cb⟩:=Q' wr;subst cb;by_cases hT:k=0
        ·have bb:¬0<(k:Int):=Qa;have a:=hid (λW h=>J.o.done W K2 t (O.dels k) h r.o.ok ((O.dels_nil k).2 hT));go_wp2_with fail;refine (a.o _ r.o.shd).mono ?_;rintro e bw ⟨cz,d5,rfl,-,-,Y⟩;have a6:=hid (r.o.grow J.o Y);clear Y r a;go_wp2;go_loopg [18] 40 (λkx ay wx=>∃(j:Nat),ay = .int .i64 (j:Int)/\40-j<=kx/\j<=10/\Hid (∃S K,ShI P U wx t S K/\S.fin.R=(Ah i).drop k/\S.W.length<=10-j))
         case atStart=>exact ⟨0,rfl,Qa,Qa,hid ⟨_,_,a6.o,HF.o,by show (dlL k).length<=_;rw [Fh];omega⟩⟩
         case round=>
          clear a6;obtain ⟨j,rfl,l1,l2,HI⟩:=hrel;obtain ⟨y,K2,u,hf,hm⟩:=HI.o;have hj:(j:Int)<40:=Qa;have L:=ap.trans (u.below.mono ap.size);by_cases z:y.W=[]
          ·have al:=λW h=>J.o.done W K2 t y h u.ok z;have ag:=u.ok.eng;have hR:y.E.R=(Ah i).drop k:=by rw [<-Sh.fin_done z];exact hf
           have X:y.E.R.length=i-k:=by rw [hR,List.length_drop,B5]
           have a:=hid al;have HQ:=hid (And.intro ag X);have d:=hid u;clear HI u hf hm z al ag X hR;go_wp2_with fail;refine (a.o _ d.o.shd).mono ?_;rintro e ax ⟨ca,cd,rfl,-,-,l⟩;have b:=hid (d.o.grow J.o l);have f:=L.trans (l.mono L.size);clear l d L;by_cases c9:k<=i
           ·have h1:¬(i:Int)-(k:Int)<0:=Qa;have F:(y.E.R.length:Int)=(i:Int)-(k:Int):=by rw [HQ.o.2];omega
            have a8:y.E.R.length<=301:=by rw [HQ.o.2];omega
            have HM:=hid F;clear F;go_wp2_with fail;refine (a.o _ b.o.shd).mono ?_;rintro e A ⟨a9,I,rfl,q,-,o⟩;have n:=f.trans (o.mono f.size);have aa:=hid (av.o.routes A I a9 y.E q HQ.o.1 a8);clear o q f;go_wp2_with fail;refine aa.o.mono ?_;rintro e aw ⟨az,b5,rfl,-,C⟩;have B:=n.trans (C.mono n.size);go_wp2;go_ret;have b3:=HM.o;refine ⟨Au ?_,B⟩
            first
             | (rw [beq_iff_eq];omega)
             | (rw [beq_iff_eq])
           ·(try (exfalso;omega))
            all_goals
             have h1:(i:Int)-(k:Int)<0:=Qa;have F:(y.E.R.length:Int)=0:=by rw [HQ.o.2];omega
             have a8:y.E.R.length<=301:=Qa;have HM:=hid F;clear F;go_wp2_with fail;refine (a.o _ b.o.shd).mono ?_;rintro e A ⟨a9,I,rfl,q,-,o⟩;have n:=f.trans (o.mono f.size);have aa:=hid (av.o.routes A I a9 y.E q HQ.o.1 a8);clear o q f;go_wp2_with fail;refine aa.o.mono ?_;rintro e aw ⟨az,b5,rfl,-,C⟩;have B:=n.trans (C.mono n.size);go_wp2;go_ret;have b3:=HM.o;refine ⟨Au ?_,B⟩
             first
              | (rw [beq_iff_eq];omega)
              | (rw [beq_iff_eq])
          ·have a:=hid (λW h=>J.o.wait W K2 t y h u.ok z);have a3:=hid (λW h=>J.o.step W K2 t y h u.ok);have ah:y.W.length≠0:=λe=>z (List.length_eq_zero_iff.1 e);have a4:=hid (Sh.step_few (m:=10-(j+1)) u.ok Qa);have a7:=hid (y.step_fin.symm▸hf);have bc:j<10:=Qa;have d:=hid u;clear HI u hf hm z ah;go_wp2_with fail;refine (a.o _ d.o.shd).mono ?_;rintro e ax ⟨rfl,l⟩;have b:=hid (d.o.grow J.o l);clear l d L;go_wp2_with fail;refine (a3.o _ b.o.shd).mono ?_;rintro e A ⟨rfl,I,a1,Z,a2⟩;have am:Hid (∃S K,ShI P U A t S K/\S.fin.R=(Ah i).drop k/\S.W.length<=10-(j+1)):=hid ⟨y.step,I,b.o.turned a1 b.o.ok.step Z a2,a7.o,a4.o⟩;clear a1 Z a2 b a4 a7;go_wp2;go_roundg (40-(j+1))
           case measure=>omega
           case rel=>exact ⟨j+1,Qj,Qa,Qa,am⟩
        ·have bb:0<k:=Qa;have cl:decide (0<k)=true:=decide_eq_true bb;have a:=hid (λW h=>J.o.wait W K2 t (O.dels k) h r.o.ok (λe=>hT ((O.dels_nil k).1 e)));go_wp2_with fail;refine (a.o _ r.o.shd).mono ?_;rintro e bw ⟨rfl,Y⟩;have a6:=hid (r.o.grow J.o Y);clear Y r a;go_wp2;go_loopg [18] 40 (λkx ay wx=>∃(j:Nat),ay = .int .i64 (j:Int)/\40-j<=kx/\j<=10/\Hid (∃S K,ShI P U wx t S K/\S.fin.R=(Ah i).drop k/\S.W.length<=10-j))
         case atStart=>exact ⟨0,rfl,Qa,Qa,hid ⟨_,_,a6.o,HF.o,by show (dlL k).length<=_;rw [Fh];omega⟩⟩
         case round=>
          clear a6;obtain ⟨j,rfl,l1,l2,HI⟩:=hrel;obtain ⟨y,K2,u,hf,hm⟩:=HI.o;have hj:(j:Int)<40:=Qa;have L:=ap.trans (u.below.mono ap.size);by_cases z:y.W=[]
          ·have al:=λW h=>J.o.done W K2 t y h u.ok z;have ag:=u.ok.eng;have hR:y.E.R=(Ah i).drop k:=by rw [<-Sh.fin_done z];exact hf
           have X:y.E.R.length=i-k:=by rw [hR,List.length_drop,B5]
           have a:=hid al;have HQ:=hid (And.intro ag X);have d:=hid u;clear HI u hf hm z al ag X hR;go_wp2_with fail;refine (a.o _ d.o.shd).mono ?_;rintro e ax ⟨ca,cd,rfl,-,-,l⟩;have b:=hid (d.o.grow J.o l);have f:=L.trans (l.mono L.size);clear l d L;by_cases c9:k<=i
           ·have h1:¬(i:Int)-(k:Int)<0:=Qa;have F:(y.E.R.length:Int)=(i:Int)-(k:Int):=by rw [HQ.o.2];omega
            have a8:y.E.R.length<=301:=by rw [HQ.o.2];omega
            have HM:=hid F;clear F;go_wp2_with fail;refine (a.o _ b.o.shd).mono ?_;rintro e A ⟨a9,I,rfl,q,-,o⟩;have n:=f.trans (o.mono f.size);have aa:=hid (av.o.routes A I a9 y.E q HQ.o.1 a8);clear o q f;go_wp2_with fail;refine aa.o.mono ?_;rintro e aw ⟨az,b5,rfl,-,C⟩;have B:=n.trans (C.mono n.size);go_wp2;go_ret;have b3:=HM.o;refine ⟨Au ?_,B⟩
            first
             | (rw [beq_iff_eq];omega)
             | (rw [beq_iff_eq])
           ·(try (exfalso;omega))
            all_goals
             have h1:(i:Int)-(k:Int)<0:=Qa;have F:(y.E.R.length:Int)=0:=by rw [HQ.o.2];omega
             have a8:y.E.R.length<=301:=Qa;have HM:=hid F;clear F;go_wp2_with fail;refine (a.o _ b.o.shd).mono ?_;rintro e A ⟨a9,I,rfl,q,-,o⟩;have n:=f.trans (o.mono f.size);have aa:=hid (av.o.routes A I a9 y.E q HQ.o.1 a8);clear o q f;go_wp2_with fail;refine aa.o.mono ?_;rintro e aw ⟨az,b5,rfl,-,C⟩;have B:=n.trans (C.mono n.size);go_wp2;go_ret;have b3:=HM.o;refine ⟨Au ?_,B⟩
             first
              | (rw [beq_iff_eq];omega)
              | (rw [beq_iff_eq])
          ·have a:=hid (λW h=>J.o.wait W K2 t y h u.ok z);have a3:=hid (λW h=>J.o.step W K2 t y h u.ok);have ah:y.W.length≠0:=λe=>z (List.length_eq_zero_iff.1 e);have a4:=hid (Sh.step_few (m:=10-(j+1)) u.ok Qa);have a7:=hid (y.step_fin.symm▸hf);have bc:j<10:=Qa;have d:=hid u;clear HI u hf hm z ah;go_wp2_with fail;refine (a.o _ d.o.shd).mono ?_;rintro e ax ⟨rfl,l⟩;have b:=hid (d.o.grow J.o l);clear l d L;go_wp2_with fail;refine (a3.o _ b.o.shd).mono ?_;rintro e A ⟨rfl,I,a1,Z,a2⟩;have am:Hid (∃S K,ShI P U A t S K/\S.fin.R=(Ah i).drop k/\S.W.length<=10-(j+1)):=hid ⟨y.step,I,b.o.turned a1 b.o.ok.step Z a2,a7.o,a4.o⟩;clear a1 Z a2 b a4 a7;go_wp2;go_roundg (40-(j+1))
           case measure=>omega
           case rel=>exact ⟨j+1,Qj,Qa,Qa,am⟩
     ·have a:=hid (λW h=>J.o.wait W K1 t O h u.ok z);have a3:=hid (λW h=>J.o.step W K1 t O h u.ok);have ah:O.W.length≠0:=λe=>z (List.length_eq_zero_iff.1 e);have a4:=hid (Sh.step_few (m:=30-(j+1)) u.ok Qa);have a7:=hid (O.step_fin.symm▸hf);have bc:j<30:=Qa;have ab:=hid u;clear HI u hf hm z ah;go_wp2_with fail;refine (a.o _ ab.o.shd).mono ?_;rintro e w8 ⟨rfl,ak⟩;have a5:=hid (ab.o.grow J.o ak);clear ak ab;go_wp2_with fail;refine (a3.o _ a5.o.shd).mono ?_;rintro e w9 ⟨rfl,K9,bg,bf,bi⟩;have an:Hid (∃S K,ShI P U w9 t S K/\S.fin.R=Ah i/\S.W.length<=30-(j+1)):=hid ⟨O.step,K9,a5.o.turned bg a5.o.ok.step bf bi,a7.o,a4.o⟩;clear bg bf bi a5 a4 a7;go_wp2;go_roundg (40-(j+1))
      case measure=>omega
      case rel=>exact ⟨j+1,Qj,Qa,Qa,an⟩
   ·have z:S0.W≠[]:=λe=>hn (by rw [<-b6.o.2.2,e];rfl);have ng:0<i:=Qa;have db:decide (0<i)=true:=decide_eq_true ng;have a:=hid (J.o.wait w5 _ t S0 ao.o.shd ao.o.ok z);clear z;go_wp2_with fail;refine a.o.mono ?_;rintro e w6 ⟨rfl,be⟩;have bj:=hid (ao.o.grow J.o be);clear be ao a;go_wp2;go_loopg [16] 40 (λkx c0 wx=>∃(j:Nat),c0 = .int .i64 (j:Int)/\40-j<=kx/\j<=30/\Hid (∃S K,ShI P U wx t S K/\S.fin.R=Ah i/\S.W.length<=30-j))
    case atStart=>exact ⟨0,rfl,Qa,Qa,hid ⟨S0,_,bj.o,b6.o.2.1,by rw [b6.o.2.2];omega⟩⟩
    case round=>
     clear bj;obtain ⟨j,rfl,l1,l2,HI⟩:=hrel;obtain ⟨O,K1,u,hf,hm⟩:=HI.o;have hj:(j:Int)<40:=Qa;by_cases z:O.W=[]
     ·have a:=hid (λW h=>J.o.done W K1 t O h u.ok z);have hR:O.E.R=Ah i:=by rw [<-Sh.fin_done z];exact hf
      have HF:Hid ((O.dels T).fin.R=(Ah i).drop T):=hid (O.dels_fin hR T);have b7:Hid (∀k,k<=10->(O.dels k).ok):=hid λk hk=>Sh.dels_ok u.ok Qa (by rw [hR,B5];exact b8);have cj:O.E.R.length<=30:=by rw [hR,B5];exact b8
      have ab:=hid u;have HW:=hid z;clear HI u hf hm z hR;go_wp2_with fail;refine (a.o _ ab.o.shd).mono ?_;rintro e w8 ⟨g8,K8,rfl,-,-,ak⟩;have a5:=hid (ab.o.grow J.o ak);clear ak ab;go_wp2_with fail;refine (a.o _ a5.o.shd).mono ?_;rintro e w9 ⟨g9,K9,rfl,-,-,bd⟩;have an:=hid (a5.o.grow J.o bd);clear bd a5 a;go_wp2;obtain ⟨cr,cc⟩:=Q' wr;subst cc;go_loopg [17] T (λkx bz wx=>∃(k:Nat),bz = .int .i64 (k:Int)/\T-k<=kx/\k<=T/\Hid (∃K,ShI P U wx t (O.dels k) K))
      case atStart=>exact ⟨0,rfl,Qa,Qa,hid ⟨K1,by rw [Sh.dels_zero HW.o];exact an.o⟩⟩
      case round=>
       clear an;obtain ⟨k,rfl,q1,q2,HI⟩:=hrel;obtain ⟨K2,u⟩:=HI.o;have r:=hid u;clear u HI;by_cases hk:k<T
       ·have b4:=λW h=>J.o.del W K2 t (O.dels k) (shR k).k h (b7.o k Qa) (by rw [Sh.dels_succ];exact b7.o (k+1) Qa);rw [shK,Sh.dels_succ] at b4;have bm:=hid b4;have cu:¬(k:Int)<0:=Qa;have bn:=hid (b7.o (k+1) Qa);clear b4;go_wp2_with fail;refine (bm.o _ r.o.shd).mono ?_;rintro e bx ⟨rfl,ce,ar,aq,au⟩;have bl:Hid (∃K,ShI P U bx t (O.dels (k+1)) K):=hid ⟨ce,r.o.turned ar bn.o aq au⟩;clear ar aq au r bn bm;go_wp2;go_roundg (T-(k+1))
        case measure=>omega
        case rel=>exact ⟨k+1,Qj,Qa,Qa,bl⟩
       ·obtain rfl:k=T:=Qa;obtain ⟨cq,cb⟩:=Q' wr;subst cb;by_cases hT:k=0
        ·have bb:¬0<(k:Int):=Qa;have a:=hid (λW h=>J.o.done W K2 t (O.dels k) h r.o.ok ((O.dels_nil k).2 hT));go_wp2_with fail;refine (a.o _ r.o.shd).mono ?_;rintro e bw ⟨cz,d5,rfl,-,-,Y⟩;have a6:=hid (r.o.grow J.o Y);clear Y r a;go_wp2;go_loopg [18] 40 (λkx ay wx=>∃(j:Nat),ay = .int .i64 (j:Int)/\40-j<=kx/\j<=10/\Hid (∃S K,ShI P U wx t S K/\S.fin.R=(Ah i).drop k/\S.W.length<=10-j))
         case atStart=>exact ⟨0,rfl,Qa,Qa,hid ⟨_,_,a6.o,HF.o,by show (dlL k).length<=_;rw [Fh];omega⟩⟩
         case round=>
          clear a6;obtain ⟨j,rfl,l1,l2,HI⟩:=hrel;obtain ⟨y,K2,u,hf,hm⟩:=HI.o;have hj:(j:Int)<40:=Qa;have L:=ap.trans (u.below.mono ap.size);by_cases z:y.W=[]
          ·have al:=λW h=>J.o.done W K2 t y h u.ok z;have ag:=u.ok.eng;have hR:y.E.R=(Ah i).drop k:=by rw [<-Sh.fin_done z];exact hf
           have X:y.E.R.length=i-k:=by rw [hR,List.length_drop,B5]
           have a:=hid al;have HQ:=hid (And.intro ag X);have d:=hid u;clear HI u hf hm z al ag X hR;go_wp2_with fail;refine (a.o _ d.o.shd).mono ?_;rintro e ax ⟨ca,cd,rfl,-,-,l⟩;have b:=hid (d.o.grow J.o l);have f:=L.trans (l.mono L.size);clear l d L;by_cases c9:k<=i
           ·have h1:¬(i:Int)-(k:Int)<0:=Qa;have F:(y.E.R.length:Int)=(i:Int)-(k:Int):=by rw [HQ.o.2];omega
            have a8:y.E.R.length<=301:=by rw [HQ.o.2];omega
            have HM:=hid F;clear F;go_wp2_with fail;refine (a.o _ b.o.shd).mono ?_;rintro e A ⟨a9,I,rfl,q,-,o⟩;have n:=f.trans (o.mono f.size);have aa:=hid (av.o.routes A I a9 y.E q HQ.o.1 a8);clear o q f;go_wp2_with fail;refine aa.o.mono ?_;rintro e aw ⟨az,b5,rfl,-,C⟩;have B:=n.trans (C.mono n.size);go_wp2;go_ret;have b3:=HM.o;refine ⟨Au ?_,B⟩
            first
             | (rw [beq_iff_eq];omega)
             | (rw [beq_iff_eq])
           ·(try (exfalso;omega))
            all_goals
             have h1:(i:Int)-(k:Int)<0:=Qa;have F:(y.E.R.length:Int)=0:=by rw [HQ.o.2];omega
             have a8:y.E.R.length<=301:=Qa;have HM:=hid F;clear F;go_wp2_with fail;refine (a.o _ b.o.shd).mono ?_;rintro e A ⟨a9,I,rfl,q,-,o⟩;have n:=f.trans (o.mono f.size);have aa:=hid (av.o.routes A I a9 y.E q HQ.o.1 a8);clear o q f;go_wp2_with fail;refine aa.o.mono ?_;rintro e aw ⟨az,b5,rfl,-,C⟩;have B:=n.trans (C.mono n.size);go_wp2;go_ret;have b3:=HM.o;refine ⟨Au ?_,B⟩
             first
              | (rw [beq_iff_eq];omega)
              | (rw [beq_iff_eq])
          ·have a:=hid (λW h=>J.o.wait W K2 t y h u.ok z);have a3:=hid (λW h=>J.o.step W K2 t y h u.ok);have ah:y.W.length≠0:=λe=>z (List.length_eq_zero_iff.1 e);have a4:=hid (Sh.step_few (m:=10-(j+1)) u.ok Qa);have a7:=hid (y.step_fin.symm▸hf);have bc:j<10:=Qa;have d:=hid u;clear HI u hf hm z ah;go_wp2_with fail;refine (a.o _ d.o.shd).mono ?_;rintro e ax ⟨rfl,l⟩;have b:=hid (d.o.grow J.o l);clear l d L;go_wp2_with fail;refine (a3.o _ b.o.shd).mono ?_;rintro e A ⟨rfl,I,a1,Z,a2⟩;have am:Hid (∃S K,ShI P U A t S K/\S.fin.R=(Ah i).drop k/\S.W.length<=10-(j+1)):=hid ⟨y.step,I,b.o.turned a1 b.o.ok.step Z a2,a7.o,a4.o⟩;clear a1 Z a2 b a4 a7;go_wp2;go_roundg (40-(j+1))
           case measure=>omega
           case rel=>exact ⟨j+1,Qj,Qa,Qa,am⟩
        ·have bb:0<k:=Qa;have cl:decide (0<k)=true:=decide_eq_true bb;have a:=hid (λW h=>J.o.wait W K2 t (O.dels k) h r.o.ok (λe=>hT ((O.dels_nil k).1 e)));go_wp2_with fail;refine (a.o _ r.o.shd).mono ?_;rintro e bw ⟨rfl,Y⟩;have a6:=hid (r.o.grow J.o Y);clear Y r a;go_wp2;go_loopg [18] 40 (λkx ay wx=>∃(j:Nat),ay = .int .i64 (j:Int)/\40-j<=kx/\j<=10/\Hid (∃S K,ShI P U wx t S K/\S.fin.R=(Ah i).drop k/\S.W.length<=10-j))
         case atStart=>exact ⟨0,rfl,Qa,Qa,hid ⟨_,_,a6.o,HF.o,by show (dlL k).length<=_;rw [Fh];omega⟩⟩
         case round=>
          clear a6;obtain ⟨j,rfl,l1,l2,HI⟩:=hrel;obtain ⟨y,K2,u,hf,hm⟩:=HI.o;have hj:(j:Int)<40:=Qa;have L:=ap.trans (u.below.mono ap.size);by_cases z:y.W=[]
          ·have al:=λW h=>J.o.done W K2 t y h u.ok z;have ag:=u.ok.eng;have hR:y.E.R=(Ah i).drop k:=by rw [<-Sh.fin_done z];exact hf
           have X:y.E.R.length=i-k:=by rw [hR,List.length_drop,B5]
           have a:=hid al;have HQ:=hid (And.intro ag X);have d:=hid u;clear HI u hf hm z al ag X hR;go_wp2_with fail;refine (a.o _ d.o.shd).mono ?_;rintro e ax ⟨ca,cd,rfl,-,-,l⟩;have b:=hid (d.o.grow J.o l);have f:=L.trans (l.mono L.size);clear l d L;by_cases c9:k<=i
           ·have h1:¬(i:Int)-(k:Int)<0:=Qa;have F:(y.E.R.length:Int)=(i:Int)-(k:Int):=by rw [HQ.o.2];omega
            have a8:y.E.R.length<=301:=by rw [HQ.o.2];omega
            have HM:=hid F;clear F;go_wp2_with fail;refine (a.o _ b.o.shd).mono ?_;rintro e A ⟨a9,I,rfl,q,-,o⟩;have n:=f.trans (o.mono f.size);have aa:=hid (av.o.routes A I a9 y.E q HQ.o.1 a8);clear o q f;go_wp2_with fail;refine aa.o.mono ?_;rintro e aw ⟨az,b5,rfl,-,C⟩;have B:=n.trans (C.mono n.size);go_wp2;go_ret;have b3:=HM.o;refine ⟨Au ?_,B⟩
            first
             | (rw [beq_iff_eq];omega)
             | (rw [beq_iff_eq])
           ·(try (exfalso;omega))
            all_goals
             have h1:(i:Int)-(k:Int)<0:=Qa;have F:(y.E.R.length:Int)=0:=by rw [HQ.o.2];omega
             have a8:y.E.R.length<=301:=Qa;have HM:=hid F;clear F;go_wp2_with fail;refine (a.o _ b.o.shd).mono ?_;rintro e A ⟨a9,I,rfl,q,-,o⟩;have n:=f.trans (o.mono f.size);have aa:=hid (av.o.routes A I a9 y.E q HQ.o.1 a8);clear o q f;go_wp2_with fail;refine aa.o.mono ?_;rintro e aw ⟨az,b5,rfl,-,C⟩;have B:=n.trans (C.mono n.size);go_wp2;go_ret;have b3:=HM.o;refine ⟨Au ?_,B⟩
             first
              | (rw [beq_iff_eq];omega)
              | (rw [beq_iff_eq])
          ·have a:=hid (λW h=>J.o.wait W K2 t y h u.ok z);have a3:=hid (λW h=>J.o.step W K2 t y h u.ok);have ah:y.W.length≠0:=λe=>z (List.length_eq_zero_iff.1 e);have a4:=hid (Sh.step_few (m:=10-(j+1)) u.ok Qa);have a7:=hid (y.step_fin.symm▸hf);have bc:j<10:=Qa;have d:=hid u;clear HI u hf hm z ah;go_wp2_with fail;refine (a.o _ d.o.shd).mono ?_;rintro e ax ⟨rfl,l⟩;have b:=hid (d.o.grow J.o l);clear l d L;go_wp2_with fail;refine (a3.o _ b.o.shd).mono ?_;rintro e A ⟨rfl,I,a1,Z,a2⟩;have am:Hid (∃S K,ShI P U A t S K/\S.fin.R=(Ah i).drop k/\S.W.length<=10-(j+1)):=hid ⟨y.step,I,b.o.turned a1 b.o.ok.step Z a2,a7.o,a4.o⟩;clear a1 Z a2 b a4 a7;go_wp2;go_roundg (40-(j+1))
           case measure=>omega
           case rel=>exact ⟨j+1,Qj,Qa,Qa,am⟩
     ·have a:=hid (λW h=>J.o.wait W K1 t O h u.ok z);have a3:=hid (λW h=>J.o.step W K1 t O h u.ok);have ah:O.W.length≠0:=λe=>z (List.length_eq_zero_iff.1 e);have a4:=hid (Sh.step_few (m:=30-(j+1)) u.ok Qa);have a7:=hid (O.step_fin.symm▸hf);have bc:j<30:=Qa;have ab:=hid u;clear HI u hf hm z ah;go_wp2_with fail;refine (a.o _ ab.o.shd).mono ?_;rintro e w8 ⟨rfl,ak⟩;have a5:=hid (ab.o.grow J.o ak);clear ak ab;go_wp2_with fail;refine (a3.o _ a5.o.shd).mono ?_;rintro e w9 ⟨rfl,K9,bg,bf,bi⟩;have an:Hid (∃S K,ShI P U w9 t S K/\S.fin.R=Ah i/\S.W.length<=30-(j+1)):=hid ⟨O.step,K9,a5.o.turned bg a5.o.ok.step bf bi,a7.o,a4.o⟩;clear bg bf bi a5 a4 a7;go_wp2;go_roundg (40-(j+1))
      case measure=>omega
      case rel=>exact ⟨j+1,Qj,Qa,Qa,an⟩
end Go.Proofs.YtpdphfgpdgadpaaGreat

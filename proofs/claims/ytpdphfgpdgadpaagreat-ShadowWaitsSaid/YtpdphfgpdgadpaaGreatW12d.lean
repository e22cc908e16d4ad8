import Derived.Test.YtpdphfgpdgadpaaGreatRT1
import Derived.Test.YtpdphfgpdgadpaaGreatL16
set_option linter.unusedSimpArgs false
set_option linter.unusedVariables false
set_option maxHeartbeats 4000000
set_option maxRecDepth 100000
open Go.Proofs.Tryz
namespace Go.Proofs.YtpdphfgpdgadpaaGreat
open Lib(hid)
open Go.RowKit Go.Sort M
theorem Vt (t g:Nat) (v:Value) (T:Tab) (m:Int) (k:Ky) (w:World) (H:CT w t g v T m) (p:Sorted T.st) (E:T.st.length<1048576) :
 Calls prog 115 #[.pointer (some ⟨t,0,none⟩),kyV k] w λe w'=>e = .returned (.bool (Al T.st k).isSome)/\Ai w w' t g v { T with st:=outS T.st k } m:=by
 cases h:Al T.st k with
 | none=>
  rw [R9 h];have A:=hid (λw H=>Fb t g v T m k w H p E);rw [G3 h] at A;have r:=hid H;have Z:=H.tb.tlt;have K:(-1:Int)<0:=Qa;clear H p h;unfold kyV at *
  go_enter func115,ntmps115;go_wp2_with fail;refine (A.o _ (r.o.below Qg)).mono ?_;rintro e w1 ⟨rfl,d⟩;have b:Below w.heap.size w w1:=Below.trans Qg (d.mono Qh);have j:=hid (r.o.below b);clear d;go_wp2;go_ret;exact ⟨rfl,Ai.quiet r.o b⟩
 | some i=>
  obtain ⟨-,hi,I⟩:=(D6 T.st k p).1 i h;rw [I5 T.st k i p h,List.eraseIdx_eq_take_drop_succ];have A:=hid (λw H=>Fb t g v T m k w H p E);rw [I6 h] at A;have r:=hid H;have Z:=H.tb.tlt;obtain ⟨z,c,Q,s,-,J,D,O,U,S,N⟩:=Dm H.tb.own Qa;obtain ⟨q,F⟩:∃q,T.st.length=q+1:=⟨T.st.length-1,Qa⟩;have u:t≠z:=by have:=H.tb.tv;rw [s] at this;intro e;exact this (by simp [Value.ownBlock,e])
  have x:v.ownBlock=some z:=by rw [s];rfl
  have K:¬(i:Int)<0:=Qa;have X:IntKind.i64.wrap ((i:Int)+1)=(i:Int)+1:=by rw [IntKind.wrap_i64];omega
  rw [F] at O N s hi E;have HD:=hid (λw1 D=>U3 z c q i Q T.st w1 F D O U S N hi Qa);have HG:=hid D;have HV:=hid s;have B:=hid x;have C:=hid (show (T.st.take i++T.st.drop (i+1)).length=q by rw [Qo,Qs,List.length_drop];omega);clear H p h I D O U S N s x F E hi;generalize T.st.take i++T.st.drop (i+1)=L at *
  unfold kyV at *
  go_enter func115,ntmps115;go_wp2_with fail;refine (A.o _ (r.o.below Qg)).mono ?_;rintro e w1 ⟨rfl,d⟩;have b:Below w.heap.size w w1:=Below.trans Qg (d.mono Qh);have j:=hid (r.o.below b);clear d;have c2:=j.o.tb.c2;rw [HV.o] at c2;have f2:=j.o.tb.f 2;have y:=j.o.tb.tlt;go_wp2_with fail;refine (HD.o w1 ((b.block z J).trans HG.o)).mono ?_;rintro e w2 ⟨rfl,n,l⟩;have R:=j.o.newStash (st':=L) (v' := .slice (some ⟨z,0,none⟩) q c) (by rw [B.o];exact l) (by rw [C.o];exact n) (.inl B.o.symm);have o:=l.block t y (by intro e;injection e with e;exact u e);have c2:=(World.cell?_of_block (a:=⟨t,2,none⟩) o).trans c2;have f2:=(World.frozen?_of_block (a:=⟨t,2,none⟩) o).trans f2;have Y:=Qm y l.size;have HF:=hid R;clear R o l n;go_wp2;go_ret;exact ⟨rfl,Ai.trans (Touch.quiet b) (λ_ h _=>h) ⟨_,_,HF.o⟩⟩
theorem Hs (t g:Nat) (v:Value) (T:Tab) (m:Int) (r:Rt) (w:World) (H:CT w t g v T m) (h:Num T) (hk:r.k.good) (hs:Sorted T.st) (hf:T.st.length<1048576) :
 Calls prog 122 #[.pointer (some ⟨t,0,none⟩),kyV r.k,.int .i64 r.v] w λe w'=>e = .returned (.bool (A3 T r).isSome)/\CT w' t g v ((A3 T r).getD T) m/\Touch (Blk t g v) w w':=by
 have HT:=hid (λw H=>Ci t g v T m r.k w H h hk);have HS:=hid (λw H=>Fb t g v T m r.k w H hs hf);have HG:=hid (λx (O:x<T.B.length) w (H:CT w t g v T m)=>Hl g (x*20) (T.bk x) r.k w (H.tb.bk x O));have HP:=hid (λx (O:x<T.B.length) w (H:CT w t g v T m)=>Dr g (x*20) (T.bk x) r.k r.v w (H.tb.bk x O));have HH:=hid H;have ac:=h.x1_lt r.k;have ab:=h.x2_lt r.k;have hl:=H.tb.tlt;have HR:Hid (A3 T r=if (getC (T.bk (T.x1 r.k)) r.k).isSome then some (T.set (T.x1 r.k) ((putC (T.bk (T.x1 r.k)) r.k r.v).getD (T.bk (T.x1 r.k)))) else if (getC (T.bk (T.x2 r.k)) r.k).isSome then some (T.set (T.x2 r.k) ((putC (T.bk (T.x2 r.k)) r.k r.v).getD (T.bk (T.x2 r.k)))) else if (Al T.st r.k).isSome then some { T with st:=Ak T.st r } else none):=rfl;generalize ak:T.x1 r.k=x1 at *
 generalize aj:T.x2 r.k=x2 at *
 clear ak aj H h;unfold kyV at *
 go_enter func122,ntmps122;go_wp2_with fail;refine (HT.o _ (HH.o.below Qg)).mono ?_;rintro e w1 ⟨rfl,s⟩;have ae:Below w.heap.size w w1:=Below.trans Qg (s.mono Qh);have N:w1.cell? ⟨w.heap.size,0,none⟩=some (.int .u64 (r.k.h:Int)):=by rw [s.cell Qc];exact Ql
 have d1:w1.cell? ⟨w.heap.size,1,none⟩=some (.int .u64 (r.k.l:Int)):=by rw [s.cell Qc];exact Ql
 have d2:w1.cell? ⟨w.heap.size,2,none⟩=some (.int .i64 r.k.n):=by rw [s.cell Qc];exact Ql
 have F:w.heap.size<w1.heap.size:=by
  have hs:=s.size;try simp only [World.size_alloc,World.size_setCell] at hs
  omega
 clear s;go_wp2;obtain ⟨L0,D⟩:=Q' w1.heap.size;rw [<-D];have ao:w.heap.size<L0:=Qa;go_loopw [10,11,12,24] (λau ar aq i wr=>∃(j:Nat),j<=2/\i = .int .i64 (j:Int)/\(1<=j->(getC (T.bk x1) r.k).isSome=false)/\(2<=j->(getC (T.bk x2) r.k).isSome=false)/\wr.cell? ⟨w.heap.size,0,none⟩=some (.int .u64 (r.k.h:Int))/\wr.cell? ⟨w.heap.size,1,none⟩=some (.int .u64 (r.k.l:Int))/\wr.cell? ⟨w.heap.size,2,none⟩=some (.int .i64 r.k.n) /\
  wr.cell? ⟨L0,0,none⟩=some (.int .i64 (x1:Int))/\wr.cell? ⟨L0,1,none⟩=some (.int .i64 (x2:Int))/\L0<wr.heap.size/\Below w.heap.size w wr) (λ_ _ _ i _=>2-(intOf i).toNat)
 case atStart=>exact ⟨0,Qa,rfl,λh=>absurd h Qa,λh=>absurd h Qa,(World.cell?_alloc_lt w1 _ ⟨w.heap.size,0,none⟩ F).trans N,(World.cell?_alloc_lt w1 _ ⟨w.heap.size,1,none⟩ F).trans d1,(World.cell?_alloc_lt w1 _ ⟨w.heap.size,2,none⟩ F).trans d2,by rw [D];simp [go_sem],by rw [D];simp [go_sem],by rw [D];simp,Qg⟩
 case round=>
  clear N d1 d2 F D ae;obtain ⟨j,hj,rfl,a2,a1,N,d1,d2,e0,e1,hz,C⟩:=hrel;have U:=hid a2;have an:=hid a1;clear a2 a1;by_cases ay:j<2
  ·obtain ⟨x,O,he⟩:∃x,x<T.B.length/\((j=0/\x=x1)\/(j=1/\x=x2)):=by
    rcases (show j=0\/j=1 by omega) with e | e
    ·exact ⟨x1,ac,.inl ⟨e,rfl⟩⟩
    ·exact ⟨x2,ab,.inr ⟨e,rfl⟩⟩
   have ej:wr.cell? ⟨L0,j,none⟩=some (.int .i64 (x:Int)):=by
    rcases he with ⟨rfl,rfl⟩ | ⟨rfl,rfl⟩
    ·exact e0
    ·exact e1
   have HE:=hid he;have d:=hid (HH.o.below C);have c1:=d.o.tb.c1;have I:=d.o.tb.tlt;have i1:(0:Int)<=(x:Int):=Qa;have i2:(x:Int)<(T.B.length:Int):=Qa;have ax:=C.size;have av:w.heap.size<wr.heap.size:=Qa;have z:=hid (HG.o x O);clear he;cases q:(getC (T.bk x) r.k).isSome with
   | true=>
    rw [q] at z;have y:=hid q;clear q;go_wp2_with fail;have X:=Ad;refine Am Qb Qb ?_;repeat (any_goals (first|go_big_quiet_step ((exact Calls.regrown_of (z.o _ (d.o.below (below_regrown _ _ _)))))|quiet_step ((exact Calls.regrown_of (z.o _ (d.o.below (below_regrown _ _ _)))))))
    refine wpQuiet_nil ?_;clear X;intro w2 a;obtain ⟨b,R⟩:=Ac a;have u:=hid (d.o.below a);have c1:=(b _ _ I).trans c1;have N:=(b _ _ Qa).trans N;have d1:=(b _ _ Qa).trans d1;have d2:=(b _ _ Qa).trans d2;have ap:=Qm I a.size;have c:=C.trans (a.mono C.size);have Y:=c.size;have aw:w.heap.size<w2.heap.size:=by have:=a.size;omega
    clear b R a e0 e1 ej d I;go_wp2_with fail;have X:=Ad;refine A1 8 Qb Qb ?_;simp only [List.take_succ_cons,List.take_zero,List.drop_succ_cons,List.drop_zero];repeat (any_goals (first|go_big_quiet_step (fail)|quiet_step (fail)))
    refine wpQuiet_nil ?_;clear X;intro w3 J;obtain ⟨ai,ah⟩:=Ac J;have aa:=hid (u.o.below J);have ad:=c.trans (J.mono c.size);clear ai ah J;go_wp2_with fail;refine (HP.o x O _ aa.o).mono ?_;rintro e w4 ⟨rfl,a7,a5⟩;obtain ⟨a6,Z⟩:=aa.o.turn O a5 a7;have K:A3 T r=some (T.set x ((putC (T.bk x) r.k r.v).getD (T.bk x))):=by
     rw [HR.o];rcases HE.o with ⟨-,rfl⟩ | ⟨af,rfl⟩
     ·rw [if_pos y.o]
     ·rw [if_neg (by rw [U.o Qa];decide),if_pos y.o]
    rw [Zu9 y.o];have HF:=hid (And.intro a6 ((Touch.quiet ad (S:=Blk t g v)).trans Z));have E:=hid K;clear a6 Z a7 a5 K;go_wp2;go_ret;rw [E.o];exact ⟨rfl,HF.o.1,HF.o.2⟩
   | false=>
    rw [q] at z;have y:=hid q;clear q;go_wp2_with fail;have X:=Ad;refine Am Qb Qb ?_;repeat (any_goals (first|go_big_quiet_step ((exact Calls.regrown_of (z.o _ (d.o.below (below_regrown _ _ _)))))|quiet_step ((exact Calls.regrown_of (z.o _ (d.o.below (below_regrown _ _ _)))))))
    refine wpQuiet_nil ?_;clear X;intro w2 a;obtain ⟨b,R⟩:=Ac a;have N:=(b _ _ Qa).trans N;have d1:=(b _ _ Qa).trans d1;have d2:=(b _ _ Qa).trans d2;have e0:=(b _ _ Qa).trans e0;have e1:=(b _ _ Qa).trans e1;have c:=C.trans (a.mono C.size);have Y:=Qm hz a.size;clear b R a d I;go_wp2;go_roundw
    case rel=>
     refine ⟨j+1,Qa,Qj,λ_ => ?_,λh2 => ?_,N,d1,d2,e0,e1,Y,c⟩
     ·rcases HE.o with ⟨-,rfl⟩ | ⟨af,rfl⟩
      ·exact y.o
      ·exact U.o Qa
     ·rcases HE.o with ⟨b3,-⟩ | ⟨-,rfl⟩
      ·omega
      ·exact y.o
    case measure=>simp [intOf];omega
  ·have b0:j=2:=Qa;have K:A3 T r=if (Al T.st r.k).isSome then some { T with st:=Ak T.st r } else none:=by rw [HR.o,if_neg (by rw [U.o Qa];decide),if_neg (by rw [an.o Qa];decide)]
   have d:=hid (HH.o.below C);have L:=hid (HS.o wr d.o);cases p:Al T.st r.k with
   | none=>rw [p] at K;have E:=hid K;rw [G3 p] at L;clear K p;go_wp2_with fail;refine L.o.mono ?_;rintro e w2 ⟨rfl,a⟩;have c:=C.trans (a.mono C.size);clear a;go_wp2;go_ret;rw [E.o];exact ⟨rfl,HH.o.below c,Touch.quiet c⟩
   | some i=>
    obtain ⟨-,hi,ag⟩:=(D6 T.st r.k hs).1 i p;have a4:=Md T.st r i hs p;have A:=Up T.st i hi r.v;rw [ag] at A;rw [p] at K;have E:=hid K;rw [I6 p] at L;have a8:=hid a4;have a9:=hid A;clear K p a4 A;go_wp2_with fail;refine L.o.mono ?_;rintro e w2 ⟨rfl,a⟩;have c:=C.trans (a.mono C.size);have u:=hid (HH.o.below c);have f:=u.o.tb.own;obtain ⟨gs,cap,b7,hv,-,b5,-⟩:=Dm f Qa;subst hv;have c2:=u.o.tb.c2;have az:=u.o.tb.tlt;obtain ⟨gr,o,e,b4,r0,r1,r2,r3⟩:=(Row.of_own f).rt hi;injection e with e;injection e with am al;subst am al;rw [Nat.zero_add] at r3;have b6:=f.frozenAt (i*4+3);have i1:(0:Int)<=(i:Int):=Qa;have i2:(i:Int)<(T.st.length:Int):=Qa;have HO:=hid f;clear a r0 r1 r2 f;go_wp2;go_ret;have Q:=HO.o.stored (i*4+3) (.int .i64 r.v);rw [a9.o,<-a8.o] at Q;have a3:(Ak T.st r).length=T.st.length:=by rw [a8.o];simp
    have hC:=u.o.inStash (st':=Ak T.st r) Q.2 (by rw [a3];exact Q.1);rw [E.o];exact ⟨rfl,hC.1,(Touch.quiet c (S:=Blk t g _)).trans hC.2⟩
def rtV (r:Rt):Value := .agg #[.int .u64 (r.k.h:Int),.int .u64 (r.k.l:Int),.int .i64 r.k.n,.int .i64 r.v]
def rt0:Rt:=⟨⟨0,0,0⟩,0⟩
theorem Touch.up {a b:World} {t g lim B:Nat} {v:Value} (h:Touch (Blk t g v) a b) (d:∀k,Blk t g v k->k<lim) (e:lim<=B) (c:B<a.heap.size):b.heap[B]? = a.heap[B]?:=
 h.block B c (λx=>by have:=d B x;omega)
theorem Touch.upc {a b:World} {t g lim B:Nat} {v:Value} (h:Touch (Blk t g v) a b) (d:∀k,Blk t g v k->k<lim) (e:lim<=B) (c:B<a.heap.size) (j:Nat):b.cell? ⟨B,j,none⟩=a.cell? ⟨B,j,none⟩:=
 World.cell?_of_block (a:=⟨B,j,none⟩) (h.up d e c)
theorem Touch.upf {a b:World} {t g lim B:Nat} {v:Value} (h:Touch (Blk t g v) a b) (d:∀k,Blk t g v k->k<lim) (e:lim<=B) (c:B<a.heap.size) (j:Nat):b.frozen? ⟨B,j,none⟩=a.frozen? ⟨B,j,none⟩:=
 World.frozen?_of_block (a:=⟨B,j,none⟩) (h.up d e c)
theorem CT.low {a b:World} {t g lim:Nat} {v:Value} {T:Tab} {m:Int} (H:CT a t g v T m) (d:∀k,Blk t g v k->k<lim) (c:Below lim a b):CT b t g v T m:=H.blocks c.size λk e=>c.block k (d k e)
theorem Touch.low {a b c:World} {t g lim:Nat} {v:Value} (h:Touch (Blk t g v) a b) (e:a.heap.size=lim) (d:Below lim b c):Touch (Blk t g v) a c:=
 ⟨d.os.trans h.os,d.tape.trans h.tape,d.output.trans h.output,Qw h.size d.size,λk i f=>(d.block k Qa).trans (h.block k i f)⟩
theorem Bv (T:Tab) (i:Nat) (h:i<T.B.length):T.set i (T.bk i)=T:=by unfold Tab.set;rw [E3 T i h,List.set_getElem_self]
theorem Vu (t g:Nat) (v:Value) (T:Tab) (m:Int) (b:Nat) (r:Rt) (w:World) (H:CT w t g v T m) (h:Num T) (bs:Cc T) (bu:b<T.B.length) (hr:r.k.good) :
 Calls prog 124 #[.pointer (some ⟨t,0,none⟩),.int .i64 (b:Int),rtV r] w λe w'=>e = .returned (.tuple #[rtV ((Ba 16 0 T b r).2.getD rt0),.bool (Ba 16 0 T b r).2.isSome]) /\
  CT w' t g v (Ba 16 0 T b r).1 m/\Touch (Blk t g v) w w':=by
 have b0:=H.tb.blk;have HH:=hid H;have HN:=hid h;obtain ⟨R,hR⟩:=Q' (Ba 16 0 T b r);rw [<-hR];obtain ⟨lim,bq⟩:=Q' w.heap.size;have a:Hid (∀k,Blk t g v k->k<lim):=by rw [bq];exact b0
 have HR:=hid hR;clear H h b0 hR;unfold rtV;go_enter func124,ntmps124;go_wp2;go_loopw [1,8,9,10,11,12] (λs1 s8 s9 c9 c8 i wr=>∃(j:Nat) (U:Tab) (Q:Nat) (y:Rt),j<=16/\i = .int .i64 (j:Int)/\s1 = .int .i64 (Q:Int)/\Q<U.B.length/\Hid (Num U)/\Hid (Cc U)/\Hid y.k.good/\Hid (CT wr t g v U m)/\Hid (Ba (16-j) j U Q y=R) /\
  wr.cell? ⟨w.heap.size,0,none⟩=some (.int .u64 (y.k.h:Int))/\wr.cell? ⟨w.heap.size,1,none⟩=some (.int .u64 (y.k.l:Int))/\wr.cell? ⟨w.heap.size,2,none⟩=some (.int .i64 y.k.n)/\wr.cell? ⟨w.heap.size,3,none⟩=some (.int .i64 y.v) /\
  wr.cell? ⟨w.heap.size+1,0,none⟩=some (.int .u64 0)/\wr.cell? ⟨w.heap.size+1,1,none⟩=some (.int .u64 0)/\wr.cell? ⟨w.heap.size+1,2,none⟩=some (.int .i64 0)/\wr.cell? ⟨w.heap.size+1,3,none⟩=some (.int .i64 0) /\
  (∀j,wr.frozen? ⟨w.heap.size,j,none⟩=false)/\(∀j,wr.frozen? ⟨w.heap.size+1,j,none⟩=false)/\w.heap.size+1<wr.heap.size/\Hid (Touch (Blk t g v) w wr)) (λ_ _ _ _ _ i _=>16-(intOf i).toNat)
 case atStart=>exact ⟨0,T,b,r,Qa,rfl,rfl,bu,HN,bs,hr,HH.o.below Qg,HR.o.symm,Qi,Qi,Qi,Qi,Qi,Qi,Qi,Qi,λj=>Qi,λj=>Qi,Qf,Touch.quiet Qg⟩
 case round=>
  obtain ⟨j,U,Q,y,hj,rfl,rfl,b5,c5,c6,c7,HC,HK,d0,d1,d2,d3,z0,z1,Z,Y,N,D,hz,HT⟩:=hrel;by_cases cf:j<16
  ·have c1:=HC.o.tb.c1;have br:=HC.o.tb.tlt;have i1:(0:Int)<=(Q:Int):=Qa;have i2:(Q:Int)<(U.B.length:Int):=Qa;have s:w.heap.size<wr.heap.size:=Qa;have ci:=HC.o.tb.blt;have bp:=HC.o.tb.tg;have cg:g<lim:=a.o g (.inr (.inl rfl));have az:w.heap.size≠g:=Qa;obtain ⟨q,hq⟩:=Q' (kOut U Q j y);obtain ⟨so,bd⟩:=Q' ((Bo (U.bk Q) ((j%4:Nat):Int) y.k y.v).isSome);have aj:wr.heap.size≠g:=Qa;have be:t<wr.heap.size:=br;have bg:∀W,Below wr.heap.size wr W->Calls prog 145 #[.pointer (some ⟨g,Q*20,none⟩),.int .i64 ((j:Int)%4),kyV y.k,.int .i64 y.v] W λe w'=>e = .returned (.tuple #[kyV q.k,.int .i64 q.v,.bool so])/\Hid (CT w' t g v (kTab U Q j y) m/\Touch (Blk t g v) wr w') /\
    W.heap.size<=w'.heap.size/\Hid (∀B j,B<W.heap.size->B≠g->w'.cell? ⟨B,j,none⟩=W.cell? ⟨B,j,none⟩/\w'.frozen? ⟨B,j,none⟩=W.frozen? ⟨B,j,none⟩)/\w'.cell? ⟨t,1,none⟩=some (.slice (some ⟨g,0,none⟩) U.B.length U.B.length)/\w'.cell? ⟨w.heap.size,0,none⟩=some (.int .u64 (y.k.h:Int))/\w'.cell? ⟨w.heap.size,1,none⟩=some (.int .u64 (y.k.l:Int))/\w'.cell? ⟨w.heap.size,2,none⟩=some (.int .i64 y.k.n)/\w'.cell? ⟨w.heap.size,3,none⟩=some (.int .i64 y.v):=by
    intro W hW;have HW:=HC.o.below hW;have:=Zuq g (Q*20) (U.bk Q) ((j%4:Nat):Int) y.k y.v W (HW.tb.bk Q b5);rw [show ((j%4:Nat):Int)=(j:Int)%4 by omega] at this;refine this.mono ?_;rintro e w' ⟨rfl,h1,h2⟩;have L:∀B j,B<W.heap.size->B≠g->w'.cell? ⟨B,j,none⟩=W.cell? ⟨B,j,none⟩/\w'.frozen? ⟨B,j,none⟩=W.frozen? ⟨B,j,none⟩:=λB j hB b3=>h2.far hB b3 j;have a6:∀B j u,B<wr.heap.size->B≠g->wr.cell? ⟨B,j,none⟩=some u->w'.cell? ⟨B,j,none⟩=some u:=λB j u hB b3 hc=>((L B j (Qm hB hW.size) b3).1.trans (hW.cell (p:=⟨B,j,none⟩) hB)).trans hc;refine ⟨?_,⟨?_,(Touch.quiet hW (S:=Blk t g v)).trans (h2.touch (.inr (.inl rfl)))⟩,h2.grown.size,L,a6 _ _ _ be bp c1,a6 _ _ _ s az d0,a6 _ _ _ s az d1,a6 _ _ _ s az d2,a6 _ _ _ s az d3⟩
    ·rw [hq,bd,show ((j%4:Nat):Int)=(j:Int)%4 by omega];unfold kOut;rw [show ((j%4:Nat):Int)=(j:Int)%4 by omega];rfl
    ·unfold kTab;rw [show ((j%4:Nat):Int)=(j:Int)%4 by omega];exact (HW.turn b5 h2 h1).1
   have bb:=hid bg;have HQ:=hid hq;clear bg bd;obtain ⟨al,ba⟩:=c6.o.kick b5 j c7.o;rw [<-hq] at al;have aa:Num (kTab U Q j y):=c5.o.set _ _;have am:(kTab U Q j y).other q.k Q=kNew U Q j y:=by unfold kNew;rw [hq]
   have z:kNew U Q j y<(kTab U Q j y).B.length:=by
    rw [<-am];rcases Ln (kTab U Q j y) q.k Q with e | e
    ·rw [e];exact aa.x1_lt _
    ·rw [e];exact aa.x2_lt _
   clear hq;obtain ⟨T3,ao⟩:=Q' (kTab U Q j y);obtain ⟨nb,b8⟩:=Q' (kNew U Q j y);rw [<-ao] at ba aa am z bb;rw [<-b8] at am z;have O:=hid ao;have a7:=hid b8;have bc:lim<=wr.heap.size:=Qa;clear ao b8;unfold kyV at bb;have ce:=World.new_ne wr _ c1;have cd:=World.new_ne wr _ d0;have cc:=World.new_ne wr _ d1;have cb:=World.new_ne wr _ d2;have ca:=World.new_ne wr _ d3;go_wp2_with fail;go_region_held3 (λw'=>w'.cell? ⟨t,1,none⟩=some (.slice (some ⟨g,0,none⟩) U.B.length U.B.length)/\w'.cell? ⟨w.heap.size,0,none⟩=some (.int .u64 (y.k.h:Int))/\w'.cell? ⟨w.heap.size,1,none⟩=some (.int .u64 (y.k.l:Int))/\w'.cell? ⟨w.heap.size,2,none⟩=some (.int .i64 y.k.n)/\w'.cell? ⟨w.heap.size,3,none⟩=some (.int .i64 y.v))
    (go_keep)
    ((go_at_call 145;refine (bb.o _ Qg).mono ?_;rintro e w2 ⟨rfl,a5,ag,L,k0,k1,k2,k3,k4⟩;
      have s0:=L.o wr.heap.size 0;have s1:=L.o wr.heap.size 1;have s2:=L.o wr.heap.size 2;
      try (simp [go_sem,aj] at s0);try (simp [go_sem,aj] at s1);try (simp [go_sem,aj] at s2)))
   ·generalize E:w2.alloc _=w3;have ak:=a5.o.2.size;try simp only [World.size_alloc,World.size_drew] at ag
    have ac:Below wr.heap.size w2 w3:=by rw [<-E];go_grown
    have aq:=a5.o.1.low (λk hk=>Qm (a.o k hk) bc) ac;have d:=a5.o.2.low rfl ac;have e0:w3.cell? ⟨w2.heap.size,0,none⟩=some (.int .u64 (q.k.h:Int)):=by rw [<-E];first|(simp [go_sem];done)|(simp [go_sem,s0,s1,s2];done)
    have e1:w3.cell? ⟨w2.heap.size,1,none⟩=some (.int .u64 (q.k.l:Int)):=by rw [<-E];first|(simp [go_sem];done)|(simp [go_sem,s0,s1,s2];done)
    have e2:w3.cell? ⟨w2.heap.size,2,none⟩=some (.int .i64 q.k.n):=by rw [<-E];first|(simp [go_sem];done)|(simp [go_sem,s0,s1,s2];done)
    have K:w2.heap.size<w3.heap.size:=by rw [<-E];simp;try omega
    have b7:w.heap.size+1<w2.heap.size:=Qa;obtain ⟨P9,a4⟩:=Q' w2.heap.size;rw [<-a4] at e0 e1 e2 K b7 ⊢;have d0:=(d.upc a.o Qa s 0).trans d0;have d1:=(d.upc a.o Qa s 1).trans d1;have d2:=(d.upc a.o Qa s 2).trans d2;have d3:=(d.upc a.o Qa s 3).trans d3;have z0:=(d.upc a.o Qa hz 0).trans z0;have z1:=(d.upc a.o Qa hz 1).trans z1;have Z:=(d.upc a.o Qa hz 2).trans Z;have Y:=(d.upc a.o Qa hz 3).trans Y;have N:∀j,w3.frozen? ⟨w.heap.size,j,none⟩=false:=λj=>(d.upf a.o Qa s j).trans (N j);have D:∀j,w3.frozen? ⟨w.heap.size+1,j,none⟩=false:=λj=>(d.upf a.o Qa hz j).trans (D j);have ai:w.heap.size+1<w3.heap.size:=Qa;have ax:=hid (HT.o.trans d);have af:=hid aq;have ay:=hid (λW H=>Vj t g v T3 m q.k Q W H aa al);clear E a4 ag a5 aq d ac L s0 s1 s2 k0 k1 k2 k3 k4 c1 hz s ak HC HT;go_wp2_with fail;refine (ay.o _ af.o).mono ?_;rintro e w4 ⟨rfl,J⟩;rw [am];obtain ⟨o,a9⟩:=Ac J;have e0:=(o _ _ K).trans e0;have e1:=(o _ _ K).trans e1;have e2:=(o _ _ K).trans e2;have d0:=(o _ _ Qa).trans d0;have d1:=(o _ _ Qa).trans d1;have d2:=(o _ _ Qa).trans d2;have d3:=(o _ _ Qa).trans d3;have z0:=(o _ _ Qa).trans z0;have z1:=(o _ _ Qa).trans z1;have Z:=(o _ _ Qa).trans Z;have Y:=(o _ _ Qa).trans Y;have N:∀j,w4.frozen? ⟨w.heap.size,j,none⟩=false:=λj=>(a9 _ _ Qa).trans (N j);have D:∀j,w4.frozen? ⟨w.heap.size+1,j,none⟩=false:=λj=>(a9 _ _ Qa).trans (D j);have ah:w.heap.size+1<w4.heap.size:=Qm ai J.size;have X:P9<w4.heap.size:=Qm K J.size;have a3:=hid (af.o.below J);have aw:=hid (ax.o.trans (Touch.quiet J));have c1:=a3.o.tb.c1;have b4:=a3.o.tb.tlt;have i1:(0:Int)<=(nb:Int):=Qa;have i2:(nb:Int)<(T3.B.length:Int):=Qa;clear o a9 J K ai af ax ay;go_wp2_with fail;have kg:=Ad;refine A1 8 Qb Qb ?_;simp only [List.take_succ_cons,List.take_zero,List.drop_succ_cons,List.drop_zero];repeat (any_goals (first|go_big_quiet_step (fail)|quiet_step (fail)))
    refine wpQuiet_nil ?_;clear kg;intro w5 I;obtain ⟨f,a8⟩:=Ac I;have e0:=(f _ _ X).trans e0;have e1:=(f _ _ X).trans e1;have e2:=(f _ _ X).trans e2;have d0:=(f _ _ Qa).trans d0;have d1:=(f _ _ Qa).trans d1;have d2:=(f _ _ Qa).trans d2;have d3:=(f _ _ Qa).trans d3;have z0:=(f _ _ Qa).trans z0;have z1:=(f _ _ Qa).trans z1;have Z:=(f _ _ Qa).trans Z;have Y:=(f _ _ Qa).trans Y;have N:∀j,w5.frozen? ⟨w.heap.size,j,none⟩=false:=λj=>(a8 _ _ Qa).trans (N j);have D:∀j,w5.frozen? ⟨w.heap.size+1,j,none⟩=false:=λj=>(a8 _ _ Qa).trans (D j);have A:w.heap.size+1<w5.heap.size:=Qm ah I.size;have a1:P9<w5.heap.size:=Qm X I.size;have ae:=hid (a3.o.below I);have av:=hid (aw.o.trans (Touch.quiet I));clear f a8 I X ah a3 aw c1 b4;go_wp2_with fail;refine (Dr g (nb*20) (T3.bk nb) q.k q.v _ (ae.o.tb.bk nb z)).mono ?_;rintro e w6 ⟨rfl,ar,an⟩;obtain ⟨ap,c⟩:=ae.o.turn z an ar;have e0:=(c.upc a.o Qa a1 0).trans e0;have e1:=(c.upc a.o Qa a1 1).trans e1;have e2:=(c.upc a.o Qa a1 2).trans e2;have d0:=(c.upc a.o Qa Qa 0).trans d0;have d1:=(c.upc a.o Qa Qa 1).trans d1;have d2:=(c.upc a.o Qa Qa 2).trans d2;have d3:=(c.upc a.o Qa Qa 3).trans d3;have z0:=(c.upc a.o Qa A 0).trans z0;have z1:=(c.upc a.o Qa A 1).trans z1;have Z:=(c.upc a.o Qa A 2).trans Z;have Y:=(c.upc a.o Qa A 3).trans Y;have N:∀j,w6.frozen? ⟨w.heap.size,j,none⟩=false:=λj=>(c.upf a.o Qa Qa j).trans (N j);have D:∀j,w6.frozen? ⟨w.heap.size+1,j,none⟩=false:=λj=>(c.upf a.o Qa A j).trans (D j);have bo:w.heap.size+1<w6.heap.size:=Qm A c.size;have au:=hid (av.o.trans c);have a2:=hid ap;clear ap c ar an A a1 ae av;have bz:=N 0;have bx:=N 1;have bw:=N 2;have bv:=N 3;have bn:=D 0;have bm:=D 1;have bl:=D 2;have bj:=D 3;cases F:putC (T3.bk nb) q.k q.v with
    | some C=>
     rw [F] at a2;have ad:=hid F;clear F;go_wp2;refine bodyPost_ret (by simp [results,Tryz.results124,go_sem,z0,z1,Z,Y];try rfl) rfl ?_;have b6:R=(T3.set nb C,none):=by have:=HK.o;rw [show 16-j=(15-j)+1 by omega,Sa (C:=C) (by rw [<-O.o,<-HQ.o,<-a7.o];exact ad.o)] at this;rw [<-this,O.o,a7.o]
     rw [b6];exact ⟨rfl,a2.o.low (lim:=w.heap.size) (λk hk=>by have:=a.o k hk;omega) Qg,au.o.low rfl Qg⟩
    | none=>
     rw [F] at a2;have ad:=hid F;clear F;go_wp2;go_roundw
     case rel=>
      have b9:Ba (16-(j+1)) (j+1) T3 nb q=R:=by have:=HK.o;rw [show 16-j=(15-j)+1 by omega,Sb (by rw [<-O.o,<-HQ.o,<-a7.o];exact ad.o)] at this;rw [<-this,O.o,a7.o,HQ.o];congr 1<;>omega
      have ab:=a2.o;simp only [Option.getD_none] at ab;rw [Bv T3 nb z] at ab;refine ⟨j+1,T3,nb,q,Qa,Qj,rfl,z,aa,ba,al,ab.low (lim:=w.heap.size) (λk hk=>by have:=a.o k hk;omega) Qg,b9,?_,?_,?_,?_,?_,?_,?_,?_,?_,?_,Qe,au.o.low rfl Qg⟩;all_goals first|(simp [go_sem,d0,d1,d2,d3,z0,z1,Z,Y];done)|(intro j;simp [go_sem,N,D];done)
     case measure=>simp [intOf];omega
   ·generalize E:World.setCell _ _ _=w3;have ak:=a5.o.2.size;try simp only [World.size_alloc,World.size_drew] at ag
    have ac:Below wr.heap.size w2 w3:=by rw [<-E];go_grown
    have aq:=a5.o.1.low (λk hk=>Qm (a.o k hk) bc) ac;have d:=a5.o.2.low rfl ac;have e0:w3.cell? ⟨wr.heap.size,0,none⟩=some (.int .u64 (q.k.h:Int)):=by rw [<-E];first|(simp [go_sem];done)|(simp [go_sem,s0,s1,s2];done)
    have e1:w3.cell? ⟨wr.heap.size,1,none⟩=some (.int .u64 (q.k.l:Int)):=by rw [<-E];first|(simp [go_sem];done)|(simp [go_sem,s0,s1,s2];done)
    have e2:w3.cell? ⟨wr.heap.size,2,none⟩=some (.int .i64 q.k.n):=by rw [<-E];first|(simp [go_sem];done)|(simp [go_sem,s0,s1,s2];done)
    have K:wr.heap.size<w3.heap.size:=by rw [<-E];simp;try omega
    have b7:w.heap.size+1<wr.heap.size:=Qa;obtain ⟨P9,a4⟩:=Q' wr.heap.size;rw [<-a4] at e0 e1 e2 K b7 ⊢;have d0:=(d.upc a.o Qa s 0).trans d0;have d1:=(d.upc a.o Qa s 1).trans d1;have d2:=(d.upc a.o Qa s 2).trans d2;have d3:=(d.upc a.o Qa s 3).trans d3;have z0:=(d.upc a.o Qa hz 0).trans z0;have z1:=(d.upc a.o Qa hz 1).trans z1;have Z:=(d.upc a.o Qa hz 2).trans Z;have Y:=(d.upc a.o Qa hz 3).trans Y;have N:∀j,w3.frozen? ⟨w.heap.size,j,none⟩=false:=λj=>(d.upf a.o Qa s j).trans (N j);have D:∀j,w3.frozen? ⟨w.heap.size+1,j,none⟩=false:=λj=>(d.upf a.o Qa hz j).trans (D j);have ai:w.heap.size+1<w3.heap.size:=Qa;have ax:=hid (HT.o.trans d);have af:=hid aq;have ay:=hid (λW H=>Vj t g v T3 m q.k Q W H aa al);clear E a4 ag a5 aq d ac L s0 s1 s2 k0 k1 k2 k3 k4 c1 hz s ak HC HT;go_wp2_with fail;refine (ay.o _ af.o).mono ?_;rintro e w4 ⟨rfl,J⟩;rw [am];obtain ⟨o,a9⟩:=Ac J;have e0:=(o _ _ K).trans e0;have e1:=(o _ _ K).trans e1;have e2:=(o _ _ K).trans e2;have d0:=(o _ _ Qa).trans d0;have d1:=(o _ _ Qa).trans d1;have d2:=(o _ _ Qa).trans d2;have d3:=(o _ _ Qa).trans d3;have z0:=(o _ _ Qa).trans z0;have z1:=(o _ _ Qa).trans z1;have Z:=(o _ _ Qa).trans Z;have Y:=(o _ _ Qa).trans Y;have N:∀j,w4.frozen? ⟨w.heap.size,j,none⟩=false:=λj=>(a9 _ _ Qa).trans (N j);have D:∀j,w4.frozen? ⟨w.heap.size+1,j,none⟩=false:=λj=>(a9 _ _ Qa).trans (D j);have ah:w.heap.size+1<w4.heap.size:=Qm ai J.size;have X:P9<w4.heap.size:=Qm K J.size;have a3:=hid (af.o.below J);have aw:=hid (ax.o.trans (Touch.quiet J));have c1:=a3.o.tb.c1;have b4:=a3.o.tb.tlt;have i1:(0:Int)<=(nb:Int):=Qa;have i2:(nb:Int)<(T3.B.length:Int):=Qa;clear o a9 J K ai af ax ay;go_wp2_with fail;have kg:=Ad;refine A1 8 Qb Qb ?_;simp only [List.take_succ_cons,List.take_zero,List.drop_succ_cons,List.drop_zero];repeat (any_goals (first|go_big_quiet_step (fail)|quiet_step (fail)))
    refine wpQuiet_nil ?_;clear kg;intro w5 I;obtain ⟨f,a8⟩:=Ac I;have e0:=(f _ _ X).trans e0;have e1:=(f _ _ X).trans e1;have e2:=(f _ _ X).trans e2;have d0:=(f _ _ Qa).trans d0;have d1:=(f _ _ Qa).trans d1;have d2:=(f _ _ Qa).trans d2;have d3:=(f _ _ Qa).trans d3;have z0:=(f _ _ Qa).trans z0;have z1:=(f _ _ Qa).trans z1;have Z:=(f _ _ Qa).trans Z;have Y:=(f _ _ Qa).trans Y;have N:∀j,w5.frozen? ⟨w.heap.size,j,none⟩=false:=λj=>(a8 _ _ Qa).trans (N j);have D:∀j,w5.frozen? ⟨w.heap.size+1,j,none⟩=false:=λj=>(a8 _ _ Qa).trans (D j);have A:w.heap.size+1<w5.heap.size:=Qm ah I.size;have a1:P9<w5.heap.size:=Qm X I.size;have ae:=hid (a3.o.below I);have av:=hid (aw.o.trans (Touch.quiet I));clear f a8 I X ah a3 aw c1 b4;go_wp2_with fail;refine (Dr g (nb*20) (T3.bk nb) q.k q.v _ (ae.o.tb.bk nb z)).mono ?_;rintro e w6 ⟨rfl,ar,an⟩;obtain ⟨ap,c⟩:=ae.o.turn z an ar;have e0:=(c.upc a.o Qa a1 0).trans e0;have e1:=(c.upc a.o Qa a1 1).trans e1;have e2:=(c.upc a.o Qa a1 2).trans e2;have d0:=(c.upc a.o Qa Qa 0).trans d0;have d1:=(c.upc a.o Qa Qa 1).trans d1;have d2:=(c.upc a.o Qa Qa 2).trans d2;have d3:=(c.upc a.o Qa Qa 3).trans d3;have z0:=(c.upc a.o Qa A 0).trans z0;have z1:=(c.upc a.o Qa A 1).trans z1;have Z:=(c.upc a.o Qa A 2).trans Z;have Y:=(c.upc a.o Qa A 3).trans Y;have N:∀j,w6.frozen? ⟨w.heap.size,j,none⟩=false:=λj=>(c.upf a.o Qa Qa j).trans (N j);have D:∀j,w6.frozen? ⟨w.heap.size+1,j,none⟩=false:=λj=>(c.upf a.o Qa A j).trans (D j);have bo:w.heap.size+1<w6.heap.size:=Qm A c.size;have au:=hid (av.o.trans c);have a2:=hid ap;clear ap c ar an A a1 ae av;have bz:=N 0;have bx:=N 1;have bw:=N 2;have bv:=N 3;have bn:=D 0;have bm:=D 1;have bl:=D 2;have bj:=D 3;cases F:putC (T3.bk nb) q.k q.v with
    | some C=>
     rw [F] at a2;have ad:=hid F;clear F;go_wp2;refine bodyPost_ret (by simp [results,Tryz.results124,go_sem,z0,z1,Z,Y];try rfl) rfl ?_;have b6:R=(T3.set nb C,none):=by have:=HK.o;rw [show 16-j=(15-j)+1 by omega,Sa (C:=C) (by rw [<-O.o,<-HQ.o,<-a7.o];exact ad.o)] at this;rw [<-this,O.o,a7.o]
     rw [b6];exact ⟨rfl,a2.o.low (lim:=w.heap.size) (λk hk=>by have:=a.o k hk;omega) Qg,au.o.low rfl Qg⟩
    | none=>
     rw [F] at a2;have ad:=hid F;clear F;go_wp2;go_roundw
     case rel=>
      have b9:Ba (16-(j+1)) (j+1) T3 nb q=R:=by have:=HK.o;rw [show 16-j=(15-j)+1 by omega,Sb (by rw [<-O.o,<-HQ.o,<-a7.o];exact ad.o)] at this;rw [<-this,O.o,a7.o,HQ.o];congr 1<;>omega
      have ab:=a2.o;simp only [Option.getD_none] at ab;rw [Bv T3 nb z] at ab;refine ⟨j+1,T3,nb,q,Qa,Qj,rfl,z,aa,ba,al,ab.low (lim:=w.heap.size) (λk hk=>by have:=a.o k hk;omega) Qg,b9,?_,?_,?_,?_,?_,?_,?_,?_,?_,?_,Qe,au.o.low rfl Qg⟩;all_goals first|(simp [go_sem,d0,d1,d2,d3,z0,z1,Z,Y];done)|(intro j;simp [go_sem,N,D];done)
     case measure=>simp [intOf];omega
  ·have bf:j=16:=Qa;have bi:R=(U,some y):=by have:=HK.o;rw [bf] at this;exact this.symm
   have c0:=hid bi;have bn:=D 0;have bm:=D 1;have bl:=D 2;have bj:=D 3;clear bi;go_wp2;refine bodyPost_ret (by simp [results,Tryz.results124,go_sem,z0,z1,Z,Y];try rfl) rfl ?_;rw [c0.o];exact ⟨rfl,HC.o.low (lim:=w.heap.size) (λk hk=>by have:=a.o k hk;omega) Qg,HT.o.low rfl Qg⟩
end Go.Proofs.YtpdphfgpdgadpaaGreat

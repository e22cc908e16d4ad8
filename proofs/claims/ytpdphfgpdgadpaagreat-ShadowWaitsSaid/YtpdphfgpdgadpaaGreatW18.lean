import Derived.Test.YtpdphfgpdgadpaaGreatStb3
import Derived.Test.YtpdphfgpdgadpaaGreatW15b
set_option linter.unusedSimpArgs false
set_option linter.unusedVariables false
set_option maxHeartbeats 8000000
set_option maxRecDepth 100000
open Go.Proofs.Tryz
namespace Go.Proofs.YtpdphfgpdgadpaaGreat
open Lib(hid)
open Go Go.RowKit Go.Sort M
theorem Zrb (bk j:Nat) (p p2:Option Addr) (c c2:Nat) (K:List Rt) (V:List Pf) (u:Ky) (i:Nat) (w:World) (t:Row w p (rcs K)) (s:Row w p2 (pcs V)) (r:Sorted K) (hi:i<K.length) (J:0<V.length) (B:u=kyP V[0])
 (U:bk<w.heap.size) (S:j<w.heap.size) (X:w.cell? ⟨bk,0,none⟩=some (.slice p K.length c)) (Q:w.cell? ⟨j,0,none⟩=some (.slice p2 V.length c2)) :
 Calls prog 132 #[.int .i64 (i:Int),.pointer (some ⟨bk,0,none⟩),.pointer (some ⟨j,0,none⟩)] w λe w'=>e = .returned (.bool (decide (bh K u<=i)))/\Below w.heap.size w w':=by
 obtain ⟨gr,o,rfl,D,r0,N,L,-⟩:=t.rt hi;obtain ⟨gv,ov,rfl,C,z,y,x⟩:=s.at J;have I:=Mb K u r i hi;have d:=Hq K[i].k.h K[i].k.l K[i].k.n (hiW V[0].a) (loW V[0].a) V[0].n;rw [show A5 K[i].k.h K[i].k.l K[i].k.n (hiW V[0].a) (loW V[0].a) V[0].n=An K[i].k u by rw [B];rfl] at d;have d:=hid d;have i1:(0:Int)<=(i:Int):=Qa;have Z:(i:Int)<(K.length:Int):=Qa;have Y:(0:Int)<(V.length:Int):=Qa;simp only [Nat.zero_mul,Nat.add_zero] at z y x;generalize An K[i].k u=R at *
 generalize decide (bh K u<=i)=ds at *
 subst I;generalize K[i].k=q at *
 generalize V[0]=O at *
 generalize K.length=n at *
 generalize V.length=m at *
 clear t s r;go_enter func132,ntmps132;go_wp2_with fail;have A:=Ad;refine Am Qb Qb ?_;repeat (any_goals (first|go_big_quiet_step ((exact d.o.at _ _ _))|quiet_step ((exact d.o.at _ _ _))))
 refine wpQuiet_nil ?_;clear A;intro w1 b;obtain ⟨F,E⟩:=Ac b;have f:Below w.heap.size w w1:=by
  refine Below.trans ?_ (b.mono ?_)
  ·go_grown
  ·first|omega|go_size
 go_wp2;go_ret;exact ⟨rfl,f⟩
def curL (P M S:List Rt) (U:List Ky) (v:Int) (i:Nat):List Rt:=P++((U.take i).map (λq=>⟨q,v⟩)++(M.drop i++S))
theorem Z0g (P M S:List Rt) (U:List Ky) (v:Int):curL P M S U v 0=P++(M++S):=by simp [curL]
theorem Z3s (P M S:List Rt) (U:List Ky) (v:Int) (h:M.length<=U.length):curL P M S U v U.length=P++(U.map (λq=>⟨q,v⟩)++S):=by unfold curL;rw [List.take_of_length_le (Qn _),List.drop_eq_nil_of_le h,List.nil_append]
theorem Z6y {P M S:List Rt} {U:List Ky} {v:Int} {i:Nat} (b:M.length=U.length) (hi:i<U.length):curL P M S U v (i+1)=(curL P M S U v i).set (P.length+i) ⟨U[i],v⟩:=by unfold curL;rw [List.set_append_right _ _ Qa,List.set_append_right _ _ (by rw [List.length_map,Qs];omega),List.length_map,Qs,List.take_succ_eq_append_getElem hi,List.map_append,List.map_singleton,Qu];congr 2;have a:i<M.length:=Qa;rw [show P.length+i-P.length-min i U.length=0 by omega,List.drop_eq_getElem_cons a];rfl
theorem Z60 {P:List Rt} {U:List Ky} {v:Int} {i:Nat} (hi:i<U.length):curL P [] [] U v (i+1)=curL P [] [] U v i++[⟨U[i],v⟩]:=by unfold curL;rw [List.take_succ_eq_append_getElem hi,List.map_append,List.map_singleton];simp
theorem Z6z (P M S:List Rt) (U:List Ky) (v:Int) (i:Nat) (hi:i<=U.length):(curL P M S U v i).length=P.length+i+(M.length-i)+S.length:=by simp [curL];omega
theorem Z8p {P M S:List Rt} {U:List Ky} {v:Int} {i:Nat} (a:M.map Rt.k=U) (hi:i<U.length) (h:P.length+i<(curL P M S U v i).length):(curL P M S U v i)[P.length+i].k=U[i]:=by
 have b:M.length=U.length:=by rw [<-a,List.length_map]
 have e:(curL P M S U v i)[P.length+i]? = some (M[i]'(Qa)):=by unfold curL;rw [List.getElem?_append_right Qa,List.getElem?_append_right (by rw [List.length_map,Qs];omega),List.length_map,Qs,List.getElem?_append_left (by rw [List.length_drop];omega),List.getElem?_drop,show i+(P.length+i-P.length-min i U.length)=i by omega,Qr]
 rw [Qr h] at e;injection e with e;rw [e];subst a;simp
theorem Yx (L:List Rt) (j:Nat) (v:Int) (h:j<L.length):(rcs L).set (j*4+3) (.int .i64 v)=rcs (L.set j ⟨L[j].k,v⟩):=by
 have:=J3 L j ⟨L[j].k,v⟩ h;rw [<-this];apply List.ext_getElem?;intro i;simp only [List.getElem?_set,List.length_set,Bd];have c:=Da L j 0 h Qa;have b:=Da L j 1 h Qa;have c2:=Da L j 2 h Qa;unfold Ae at c b c2;simp only [Nat.add_zero,List.getElem?_cons_zero,List.getElem?_cons_succ] at c b c2;by_cases a:j*4+3=i
 ·simp [a]
 ·rw [if_neg a,if_neg a];by_cases d:j*4+2=i
  ·subst d;simp [c2];omega
  ·rw [if_neg d];by_cases e:j*4+1=i
   ·subst e;simp [b];omega
   ·rw [if_neg e];by_cases f:j*4=i
    ·subst f;simp [c];omega
    ·rw [if_neg f]
def LayR (B:Nat) (w w':World) (e:Ending) (L:List Rt):Prop:=∃p c,e = .returned (.slice p L.length c)/\w'.ownsRow B 34 4 (.slice p L.length c) L.length (rcs L)/\Below B w w'
theorem Z2w (B:Nat) (q:Option Addr) (h:Nat) (K:List Rt) (d b:Nat) (f v high:Int) (w:World) (n:w.ownsRow B 34 4 (.slice q K.length h) K.length (rcs K)) (r:B<=w.heap.size)
 (t:W64 d) (s:W64 b) (k:sprK ⟨d,b,f⟩ high=[]) :
 Calls prog 108 #[.slice q K.length h,.agg #[.int .u64 (d:Int),.int .u64 (b:Int),.int .i64 f,.int .i64 v],.int .i64 high] w λe w'=>LayR B w w' e K:=by
 have m:Bm d b f high=[]:=by unfold sprK at k;exact List.map_eq_nil_iff.1 k
 have j:=Ve d b f high t s;rw [m] at j;have x:Hid (∀W,Calls prog 131 #[.agg #[.int .u64 (d:Int),.int .u64 (b:Int),.int .i64 f],.int .i64 high] W λe w'=>∃p c,e = .returned (.slice p 0 c)/\w'.ownsRow W.heap.size 32 3 (.slice p 0 c) 0 []/\Below W.heap.size W w'):=hid j;have u:=hid n;clear j m k n;go_enter func108,ntmps108;go_wp2_with fail;refine (x.o _).mono ?_;rintro e w1 ⟨y,C,rfl,i,a⟩;have o:Below w.heap.size w w1:=Below.trans Qg (a.mono Qe);obtain ⟨l,-⟩:=Ac a;have z:=(l w.heap.size 0 Qe).trans (show _=some (Value.slice q K.length h) by simp [go_sem]);have A:w.heap.size<w1.heap.size:=by have:=a.size;simp at this;omega
 clear l i a;go_wp2;go_ret;exact ⟨q,h,rfl,own_below u.o Qg,Below.mono Qg r⟩
theorem Kr {w w':World} {a b g o:Nat} (h:∀k,a<k->k<b->w'.heap[k]? = w.heap[k]?) (d:a<g) (c:g<b):w'.cell? ⟨g,o,none⟩=w.cell? ⟨g,o,none⟩:=World.cell?_of_block (a:=⟨g,o,none⟩) (h g d c)
theorem Z7c (L:List Rt) (k:Ky) (v:Int) (j:Nat) (a:j=L.length) (h:j<(L++[(⟨k,0⟩:Rt)]).length):(L++[(⟨k,0⟩:Rt)]).set j ⟨(L++[(⟨k,0⟩:Rt)])[j].k,v⟩=L++[⟨k,v⟩]:=by subst a;simp
theorem Z2v (B:Nat) (q:Option Addr) (E:Nat) (K P Z S:List Rt) (J I:Nat) (O v high:Int) (w:World) (hO:w.ownsRow B 34 4 (.slice q K.length E) K.length (rcs K)) (hB:B<=w.heap.size)
 (hs:Sorted K) (d6:K.length<=1040000) (g1:W64 J) (g2:W64 I) (h0:0<(sprK ⟨J,I,O⟩ high).length) (ak:K=P++(Z++S)) (hP:P.length=bh K (sprK ⟨J,I,O⟩ high)[0])
 (hM:Z.map Rt.k=sprK ⟨J,I,O⟩ high\/(Z=[]/\S=[])) :
 Calls prog 108 #[.slice q K.length E,.agg #[.int .u64 (J:Int),.int .u64 (I:Int),.int .i64 O,.int .i64 v],.int .i64 high] w λe w'=>LayR B w w' e (P++((sprK ⟨J,I,O⟩ high).map (λk=>(⟨k,v⟩:Rt))++S)):=by
 have c6:=Ya ⟨J,I,O⟩ g2 high;have hk:=Ve J I O high g1 g2;have ai:=Yc ⟨J,I,O⟩ high;have a2:(sprK ⟨J,I,O⟩ high).length=(Bm J I O high).length:=by simp [sprK]
 simp only at ai;obtain ⟨U,hU⟩:=Q' (sprK ⟨J,I,O⟩ high);obtain ⟨V,hV⟩:=Q' (Bm J I O high);have X:∀j (h1:j<U.length) (h2:j<V.length),U[j]=kyP V[j]:=by intro j h1 h2;subst hU;subst hV;exact ai j h2
 clear ai;have b3:∀h:0<U.length,P.length=bh K U[0]:=by intro h;subst hU;exact hP
 clear hP;rw [<-hU] at c6 h0 hM a2 ⊢;rw [<-hV] at hk a2;have b0:0<V.length:=Qa;have hP:=b3 h0;clear b3;have ap:=X 0 h0 b0;have az:P.length<=K.length:=by rw [hP];exact Eo K _
 obtain ⟨F,hF⟩:∃F:Nat->List Rt,F=curL P Z S U v:=⟨_,rfl⟩;have b9:F 0=K:=by rw [hF,Z0g,ak]
 have b4:Z.length=U.length\/(Z.length=0/\S.length=0):=by
  rcases hM with h | ⟨h1,h2⟩
  ·exact .inl (by rw [<-h,List.length_map])
  ·exact .inr ⟨by rw [h1];rfl,by rw [h2];rfl⟩
 have b7:F U.length=P++(U.map (λk=>(⟨k,v⟩:Rt))++S):=by rw [hF,Z3s _ _ _ _ _ Qa]
 have b8:∀i,i<=U.length->(F i).length=P.length+i+(Z.length-i)+S.length:=λi hi=>by rw [hF,Z6z _ _ _ _ _ _ hi]
 -- one key more
 have a8:∀i (hi:i<U.length) (h:P.length+i<(F i).length),Z.length=U.length->F (i+1)=(F i).set (P.length+i) ⟨(F i)[P.length+i].k,v⟩:=λi hi h hm=>by
  rcases hM with hM | ⟨hM,-⟩
  ·have h2:=Z8p (S:=S) (P:=P) (v:=v) hM hi (by rw [<-hF];exact h);have h3:=Z6y (P:=P) (S:=S) (v:=v) hm hi;subst hF;rw [h3,h2]
  ·rw [hM] at hm;simp at hm;omega
 have ab:∀i (hi:i<U.length),Z.length=0->S.length=0->F (i+1)=F i++[⟨U[i],v⟩]:=λi hi h1 h2=>by rw [hF,List.length_eq_zero_iff.1 h1,List.length_eq_zero_iff.1 h2];exact Z60 hi
 rw [<-b7];have b6:K.length<=P.length+Z.length+S.length/\P.length+Z.length+S.length<=K.length:=by have:=congrArg List.length ak;simp only [Qo] at this;omega
 obtain ⟨cr,cp⟩:=b6;have HK:=hid hk;have HO:=hid hO;have ck:=hid X;have bm:=hid b9;have bl:=hid b8;have bb:=hid a8;have bo:=hid ab;have ba:=hid a2;have cj:=hid b4;have HP:=hid (And.intro hP ap);have HS:=hid hs;have d5:V.length<=256:=Qa;have eg:=enters_of func132 Qb rfl;clear hk hO X b9 b8 a8 ab a2 b4 hP ap hs hU hV hF hM ak b7;go_enter func108,ntmps108;go_wp2_with fail;refine (HK.o _).mono ?_;rintro e w1 ⟨p1,c1,rfl,af,a7⟩;have L:Below w.heap.size w w1:=Below.trans Qg (a7.mono Qe);obtain ⟨nc,nf⟩:=Ac a7;have k0:=(nc w.heap.size 0 Qe).trans (show _=some (Value.slice q K.length E) by simp [go_sem]);have kf:∀j,w1.frozen? ⟨w.heap.size,j,none⟩=false:=λj=>(nf w.heap.size j Qe).trans Qi;have r3:=(nc (w.heap.size+1) 3 Qf).trans (show _=some (Value.int .i64 v) by simp [go_sem]);have hz:w.heap.size+1<w1.heap.size:=by have:=a7.size;simp at this;omega
 have ad:w.heap.size<w1.heap.size:=Qa;have HV:=hid (Row.of_own af);have Y:∀g o,p1=some ⟨g,o,none⟩->w.heap.size+2<=g:=λg o r=>by
  rcases af.2 with ⟨e,_⟩ | ⟨blk,cap,cb,e,h3,_⟩
  ·injection e with e;rw [e] at r;cases r
  ·injection e with e;rw [e] at r;injection r with r;injection r with r;simp at h3;omega
 have cc:=hid Y;have hS:∀W,Below w1.heap.size w1 W->w1.heap.size<W.heap.size->W.cell? ⟨w1.heap.size,0,none⟩=some (.slice p1 V.length c1) ->
  Calls prog 72 #[.int .i64 (K.length:Int),.func (.func 132) #[] #[.pointer (some ⟨w.heap.size,0,none⟩),.pointer (some ⟨w1.heap.size,0,none⟩)]] W λe w'=>e = .returned (.int .i64 (P.length:Int))/\Below W.heap.size W w':=by
  intro W hW bu e0;refine Np _ _ _ _ _ az Qa W eg λwx i hx hi => ?_;rw [HP.o.1];refine Zrb w.heap.size w1.heap.size q p1 E c1 K V U[0] i wx ?_ ?_ HS.o hi b0 HP.o.2 (by have:=hx.size;omega) (by have:=hx.size;omega) ?_ ?_
  ·exact (Row.of_own HO.o).below ((L.trans (hW.mono L.size)).trans (hx.mono (by have:=L.size;have:=hW.size;omega)))
  ·exact HV.o.below (hW.trans (hx.mono hW.size))
  ·exact (hx.cell (p:=⟨w.heap.size,0,none⟩) (by show w.heap.size<_;omega)).trans ((hW.cell (p:=⟨w.heap.size,0,none⟩) ad).trans k0)
  ·exact (hx.cell (p:=⟨w1.heap.size,0,none⟩) bu).trans e0
 have bc:=hid hS;clear hS eg nc nf Y af a7;go_wp2_with fail;refine (bc.o _ Qg Qf Qi).mono ?_;rintro e w2 ⟨rfl,a6⟩;have Q:Below w1.heap.size w1 w2:=Below.trans Qg (a6.mono Qf);have o0:w2.cell? ⟨w1.heap.size,0,none⟩=some (.slice p1 V.length c1):=(a6.cell (p:=⟨w1.heap.size,0,none⟩) Qf).trans Qi;have ko:=(Q.cell (p:=⟨w.heap.size,0,none⟩) ad).trans k0;have an:∀j,w2.frozen? ⟨w.heap.size,j,none⟩=false:=λj=>(Q.frozen (p:=⟨w.heap.size,j,none⟩) ad).trans (kf j);have r3:=(Q.cell (p:=⟨w.heap.size+1,3,none⟩) hz).trans r3;have cu:w1.heap.size<w2.heap.size:=Qm Qf a6.size;have cd:=hid (HV.o.below Q);have ao:Below w.heap.size w w2:=L.trans (Q.mono L.size);have bf:=hid (own_below HO.o ao);have a9:∀g,q=some ⟨g,0,none⟩->g<w.heap.size:=λg r=>by subst r;exact (HO.o.lt g rfl).2
 have HQ:=hid a9;clear k0 kf bc HV a6 a9;go_wp2;go_loopg [25] V.length (λkx bq wr=>∃(i n:Nat) (q:Option Addr) (E:Nat),bq = .int .i64 (i:Int)/\V.length-i<=kx/\i<=V.length/\Hid (n=(F i).length)/\n<=1041000 /\
  Hid (wr.ownsRow B 34 4 (.slice q n E) n (rcs (F i)))/\wr.cell? ⟨w.heap.size,0,none⟩=some (.slice q n E)/\(∀j,wr.frozen? ⟨w.heap.size,j,none⟩=false) /\
  Hid (∀k,w.heap.size<k->k<w2.heap.size->wr.heap[k]? = w2.heap[k]?)/\w2.heap.size<=wr.heap.size/\Hid (∀g,q=some ⟨g,0,none⟩->g<w.heap.size\/w2.heap.size<=g)/\Below B w wr)
 case atStart=>refine ⟨0,K.length,q,E,rfl,Qa,Qa,hid (by rw [bm.o]),Qa,hid (by rw [bm.o];exact bf.o),ko,an,hid (λ_ _ _=>rfl),Qn _,hid (λg r => .inl (HQ.o g r)),ao.mono hB⟩
 case round=>
  clear ko an bf HO HQ;obtain ⟨i,n,q,E,rfl,h1,h2,HN,hn,c,kb,kf,d,cv,am,hb⟩:=hrel;by_cases hi:i<V.length
  ·have z:i<U.length:=by have:=ba.o;omega
   obtain ⟨gv,ov,rfl,ag,v0,v1,v2⟩:=cd.o.at hi;have cn:=cc.o gv ov rfl;have v0:=(Kr d.o Qa ag).trans v0;have v1:=(Kr d.o Qa ag).trans v1;have v2:=(Kr d.o Qa ag).trans v2;have y3:=(Kr (o:=3) d.o (show w.heap.size<w.heap.size+1 by omega) Qa).trans r3;have co:gv<wr.heap.size:=Qa;have ac:w.heap.size<wr.heap.size:=Qa;have cl:w.heap.size+1<wr.heap.size:=Qa;have aj:=ck.o i z hi;have N:=bb.o i z;have t:=bo.o i z;rw [aj] at t;have ah:=bl.o i Qa;rw [<-HN.o] at ah;have i1:(0:Int)<=(i:Int):=Qa;have i2:(i:Int)<(V.length:Int):=Qa;generalize V[i]=pv at *
   obtain ⟨b,x⟩:=pv;simp only at v0 v1 v2;unfold kyP at t aj;simp only at t aj;have be:=hid (c.o.alloc (.cells #[.int .u64 (hiW b:Nat),.int .u64 (loW b:Nat),.int .i64 x] 32));rcases cj.o with hm | ⟨a4,ax⟩
   ·have bx:P.length+i<n:=Qa;have R:P.length+i<(F i).length:=by rw [<-HN.o];exact bx
    have N:=N R hm;obtain ⟨g,c5,ct,al,c8,d0,-,-,-,-,-⟩:=Dm c.o Qa;injection al with al _ ca;subst al ca;have au:=(Row.of_own c.o).rt R;obtain ⟨g',o',C,-,-,-,-,x3⟩:=au;injection C with C;injection C with eg eo;subst eg eo;simp only [Nat.zero_add] at x3;have f3:=c.o.frozenAt ((P.length+i)*4+3);have ar:=c.o.stored ((P.length+i)*4+3) (.int .i64 v);have y:=ar.1;rw [Yx (F i) (P.length+i) v R,<-N] at y;have cg:=hid (y.alloc (.cells #[.int .u64 (hiW b:Nat),.int .u64 (loW b:Nat),.int .i64 x] 32));have ce:=hid N;have cy:=am.o g rfl;have bw:((P.length:Int)+(i:Int) == (n:Int))=false:=by rw [beq_eq_false_iff_ne];omega
    have j1:(0:Int)<=(P.length:Int)+(i:Int):=Qa;have j2:(P.length:Int)+(i:Int)<(n:Int):=Qa;clear ar y N t ah hm;generalize (F i)[P.length+i]=xx at *
    go_wp2;go_roundg (V.length-(i+1))
    case measure=>omega
    case rel=>
     have A:g≠w.heap.size:=Qa;refine ⟨i+1,n,some ⟨g,0,none⟩,E,Qj,Qa,Qa,hid (by rw [ce.o,List.length_set];exact HN.o),hn,cg,?_,?_,hid (λk k1 k2 => ?_),Qe,am,?_⟩
     ·simp [go_sem,A,A.symm,ac,kb]
     ·intro j;simp [go_sem,A,A.symm,ac,kf]
     ·rw [Below.heap_alloc _ _ _ Qe,Below.heap_setCell _ _ _ _ (by show k≠g;omega)];exact d.o k k1 k2
     ·exact (hb.setCell c8 _).alloc (by simp;have:=L.size;omega) _
   ·have av:∀k,(Value.slice q n E).ownBlock=some k->(k<w.heap.size\/w2.heap.size<=k)/\B<=k:=by
     intro k hk;have h:=c.o.lt k hk;refine ⟨?_,h.1⟩;rcases c.o.2 with ⟨e,_⟩ | ⟨blk,cap,cb,e,_⟩
     ·rw [e] at hk;simp [Value.ownBlock] at hk
     ·injection e with e;rw [e] at hk;simp [Value.ownBlock] at hk;subst hk;exact am.o _ e
    have d7:=hb.size;have t:=t a4 ax;have bp:=hid t;have bw:((P.length:Int)+(i:Int) == (n:Int))=true:=by rw [beq_iff_eq];omega
    have bd:=hid (be.o.alloc (.cells #[.int .u64 (hiW b:Nat),.int .u64 (loW b:Nat),.int .i64 x,.int .i64 0] 34));have bi:Hid (P.length+i=(F i).length):=by have:=HN.o;exact hid Qa
    have ae:Hid (((wr.alloc (.cells #[.int .u64 (hiW b:Nat),.int .u64 (loW b:Nat),.int .i64 x] 32)).alloc (.cells #[.int .u64 (hiW b:Nat),.int .u64 (loW b:Nat),.int .i64 x,.int .i64 0] 34)).ownsRow B 34 4 (.slice q n E) (F i).length (rcs (F i))):=by have h:=bd.o;rw [HN.o] at h ⊢;exact hid h
    have aq:Hid (∀j u,(rcs [⟨⟨hiW b,loW b,x⟩,0⟩])[j]? = some u->((wr.alloc (.cells #[.int .u64 (hiW b:Nat),.int .u64 (loW b:Nat),.int .i64 x] 32)).alloc (.cells #[.int .u64 (hiW b:Nat),.int .u64 (loW b:Nat),.int .i64 x,.int .i64 0] 34)).cell? ((⟨wr.heap.size+1,0,none⟩:Addr).add j)=some u):=by rw [Fo];exact hid (Fp Qi Qi Qi Qi)
    have aw:(F i).length<=1041000:=by rw [<-HN.o];exact hn
    have ci:=hid aw;have cx:n<=P.length+i:=Qa;have cw:P.length+i<=n:=Qa;have a1:=hid av;clear av t N aw bd be a4 ax ah;go_wp2_with (at_builtin;go_loud (refine Ib rfl (.tmp 36) (.tmp 39) rfl B _ (F i) [⟨⟨hiW b,loW b,x⟩,0⟩] (F i++[⟨⟨hiW b,loW b,x⟩,0⟩]) rfl rfl ⟨wr.heap.size+1,0,none⟩ 1 rfl ae.o aq.o (by have:=ci.o;simp;omega) Qe ?_));intro v9 w9 l a5 aa;obtain ⟨gb,c9,cs,rfl,c7,cz,-,-,-,-,-⟩:=Dm l Qf;have bz:=a5.size;simp only [World.size_alloc] at bz;have s:∀k,w.heap.size<=k->k<w2.heap.size->w9.heap[k]? = wr.heap[k]? := λk k1 k2=>by
     have h:=a5.block k Qe (λe=>by
      rcases (a1.o k e.symm).1 with h | h<;>omega)
     rw [h,Below.heap_alloc _ _ _ Qe,Below.heap_alloc _ _ _ Qa]
    have ay:gb<w.heap.size\/w2.heap.size<=gb:=by
     rcases aa with h | h
     ·exact (a1.o gb (by rw [<-h];rfl)).1
     ·simp [Value.ownBlock] at h;omega
    have A:gb≠w.heap.size:=Qa;have cm:w.heap.size≠gb:=Qa;have bs:=(World.cell?_of_block (a:=⟨w.heap.size,0,none⟩) (s w.heap.size (Qn _) Qa)).trans kb;have br:=λj=>(World.frozen?_of_block (a:=⟨w.heap.size,j,none⟩) (s w.heap.size (Qn _) Qa)).trans (kf j);have y3:=(World.cell?_of_block (a:=⟨w.heap.size+1,3,none⟩) (s (w.heap.size+1) Qa Qa)).trans y3;have c0:Below B w w9:=Below.grown ((hb.alloc Qa _).alloc Qe _) a5 Qe (λk e=>(a1.o k e).2);have D:P.length+i<(F i++[(⟨⟨hiW b,loW b,x⟩,0⟩:Rt)]).length:=by have:=bi.o;simp;omega
    obtain ⟨g',o',C,-,-,-,-,x3⟩:=(Row.of_own l).rt D;injection C with C;injection C with eg eo;subst eg eo;simp only [Nat.zero_add] at x3;have f3:=l.frozenAt ((P.length+i)*4+3);have f:=((ownsRow_setCell_other l (a:=⟨w.heap.size,0,none⟩) (by simp [Value.ownBlock,A]) (.slice (some ⟨gb,0,none⟩) (F i++[(⟨⟨hiW b,loW b,x⟩,0⟩:Rt)]).length c9)).stored ((P.length+i)*4+3) (.int .i64 v)).1;rw [Yx _ _ v D,Z7c _ _ _ _ bi.o,<-bp.o] at f;have a3:(F i++[(⟨⟨hiW b,loW b,x⟩,0⟩:Rt)]).length=(F (i+1)).length:=by rw [bp.o];simp
    have b5:(F i++[(⟨⟨hiW b,loW b,x⟩,0⟩:Rt)]).length=(F i).length+1:=Qf;obtain ⟨m,hm⟩:=Q' ((F i).length+1);generalize bv:(F i++[(⟨⟨hiW b,loW b,x⟩,0⟩:Rt)])[P.length+i]=xx at *
    rw [b5,<-hm] at f a3 D;rw [<-hm];clear bv b5;have a4:m<=1041000:=by rw [a3,bl.o (i+1) Qa];omega
    have bg:=hid f;have HM:=hid a3;have bn:=hid s;have j1:(0:Int)<=(P.length:Int)+(i:Int):=Qa;have j2:(P.length:Int)+(i:Int)<(m:Int):=Qa;clear hm a3 f l a5 aa s D;go_wp2;go_roundg (V.length-(i+1))
    case measure=>omega
    case rel=>
     refine ⟨i+1,m,some ⟨gb,0,none⟩,c9,Qj,Qa,Qa,HM,a4,bg,?_,?_,hid (λk k1 k2 => ?_),Qe,hid (λg r => ?_),?_⟩
     ·rw [World.cell?_setCell_other _ _ _ _ (by rintro e;injection e with e1 e2;exact A e1)];exact World.cell?_setCell_same _ _ _ bs
     ·intro j;rw [World.frozen?_setCell,World.frozen?_setCell];exact br j
     ·rw [Below.heap_setCell _ _ _ _ (by show k≠gb;omega),Below.heap_setCell _ _ _ _ (by show k≠w.heap.size;omega),bn.o k Qa k2];exact d.o k k1 k2
     ·injection r with r;injection r with r;subst r;exact ay
     ·exact (c0.setCell (by show B<=w.heap.size;omega) _).setCell c7 _
  ·have z:i=U.length:=by have:=ba.o;omega
   have bj:Hid (n=(F U.length).length):=by rw [<-z];exact HN
   have cf:Hid (wr.ownsRow B 34 4 (.slice q n E) n (rcs (F U.length))):=by rw [<-z];exact c
   have ac:w.heap.size<wr.heap.size:=Qa;clear HN c z;go_wp2;go_ret;refine ⟨q,E,by rw [<-bj.o];rfl,?_,hb⟩;rw [<-bj.o];exact cf.o
theorem Om:SetC:=by
 intro p c L low high w hR hg A B hl;have hS:=Yw p c L w hR A Qa;have z:=Gh L;have s:=(Cj L).1;obtain ⟨N,hN⟩:=Q' (Af L);have a1:∀x∈N,x.k.good:=λx hx=>hg x (Gi (by rw [<-hN];exact hx));rw [<-hN] at hS z s ⊢;have HS:=hid hS;have HG:=hid a1;have D:=hid s;have ai:N.length<=4000:=Qa;have af:=hid Zr4;clear hS a1 s hR hg hN z A;go_enter func90,ntmps90;go_wp2_with fail;refine HS.o.mono ?_;rintro e w1 ⟨p1,c1,rfl,Y,a6⟩;have a8:=hid (Row.of_own Y);have U:=a6.size;clear Y HS;go_wp2;go_loopg [7,13] N.length (λkx s7 a9 wr=>∃(i n:Nat) (K:List Rt) (q:Option Addr) (m:Nat),a9 = .int .i64 (i:Int)/\N.length-i<=kx/\i<=N.length/\s7 = .slice q n m/\Hid (n=K.length)/\Hid (InvS N low high i K) /\
  Hid (wr.ownsRow w1.heap.size 34 4 (.slice q n m) n (rcs K))/\Below w1.heap.size w1 wr)
 case atStart=>exact ⟨0,0,[],none,0,rfl,Qa,Qa,rfl,hid rfl,hid (InvS.start _ _ _),hid (World.ownsRow_nil _ _ _ _),Below.refl _ _⟩
 case round=>
  obtain ⟨i,n,K,q,m,rfl,k1,k2,rfl,HN,Q,HO,O⟩:=hrel;by_cases hi:i<N.length
  ·obtain ⟨g,o,rfl,ah,x0,x1,x2,x3⟩:=(a8.o.below O).rt hi;have aa:=HG.o _ (Qp hi);have b:=Q.o.o HG.o hi;have a:=Q.o.none D.o HG.o hi;have d:=Q.o.lay D.o HG.o hi;have ad:=Q.o.len HG.o k2;have F:=Q.o.sorted;generalize N[i]=r at *
   obtain ⟨⟨y,u,t⟩,v⟩:=r;simp only at x0 x1 x2 x3 b a d;obtain ⟨a3,a2⟩:W64 y/\W64 u:=aa;have l:=af.o y u t v low high;have i1:(0:Int)<=(i:Int):=Qa;have i2:(i:Int)<(N.length:Int):=Qa;unfold insB at b a d;simp only at b a d;cases B:(decide (low<t)&&decide (t<=high)) with
   | false=>
    rw [B] at l;have HB:=hid l;have J:=hid (b B);clear b a d l B F;go_wp2_with fail;refine (HB.o _).mono ?_;rintro e w2 ⟨rfl,j⟩;have ac:=O.trans ((Below.trans Qg (j.mono Qf):Below wr.heap.size wr w2).mono O.size);have I:=hid (own_below HO.o (Below.trans Qg (j.mono Qf)));go_wp2;go_roundg (N.length-(i+1))
    case measure=>omega
    case rel=>exact ⟨i+1,n,K,q,m,Qj,Qa,Qa,rfl,HN,J,I,ac⟩
   | true=>
    rw [B] at l;have HB:=hid l;have hL:∃K',InvS N low high (i+1) K'/\∀W q m,w1.heap.size<=W.heap.size->W.ownsRow w1.heap.size 34 4 (.slice q K.length m) K.length (rcs K) ->
     Calls prog 108 #[.slice q K.length m,.agg #[.int .u64 (y:Int),.int .u64 (u:Int),.int .i64 t,.int .i64 v],.int .i64 high] W λe w'=>LayR w1.heap.size W w' e K':=by
     by_cases h0:0<(sprK ⟨y,u,t⟩ high).length
     ·obtain ⟨P,Mm,S,e1,e2,e3,e4⟩:=d B h0;exact ⟨_,e4,λW q m hz ho=>Z2v _ q m K P Mm S y u t v high W ho hz F Qa a3 a2 h0 e1 e2 e3⟩
     ·have h0:sprK ⟨y,u,t⟩ high=[]:=List.length_eq_zero_iff.1 Qa;exact ⟨K,a B h0,λW q m hz ho=>Z2w _ q m K y u t v high W ho hz a3 a2 h0⟩
    obtain ⟨K',a7,f⟩:=hL;rw [<-HN.o] at f;have J:=hid a7;have HC:=hid f;clear b a d l B F a7 f ad;go_wp2_with fail;refine (HB.o _).mono ?_;rintro e w2 ⟨rfl,j⟩;have E:Below wr.heap.size wr w2:=Below.trans Qg (j.mono Qf);obtain ⟨R,-⟩:=Ac j;have r0:=(R wr.heap.size 0 Qf).trans (show _=some (Value.int .u64 (y:Int)) by simp [go_sem]);have r1:=(R wr.heap.size 1 Qf).trans (show _=some (Value.int .u64 (u:Int)) by simp [go_sem]);have r2:=(R wr.heap.size 2 Qf).trans (show _=some (Value.int .i64 t) by simp [go_sem]);have r3:=(R wr.heap.size 3 Qf).trans (show _=some (Value.int .i64 v) by simp [go_sem]);have ag:wr.heap.size<w2.heap.size:=by have:=j.size;simp at this;omega
    have I:=hid (own_below HO.o E);have C:=O.trans (E.mono O.size);clear R j E x0 x1 x2 x3 HO;go_wp2_with fail;refine (HC.o w2 q m C.size I.o).mono ?_;rintro e w3 ⟨q3,c3,rfl,X,a5⟩;have a4:=C.trans a5;have ae:=hid X;clear X a5 HC;go_wp2;go_roundg (N.length-(i+1))
    case measure=>omega
    case rel=>exact ⟨i+1,K'.length,K',q3,c3,Qj,Qa,Qa,rfl,hid rfl,J,ae,a4⟩
  ·have Z:i=N.length:=Qa;have hd:K=setS N low high:=by have:=Q.o;rw [Z] at this;exact this.done
   have HD:=hid hd;have ab:=a6.trans (O.mono U);clear Z hd;go_wp2;go_ret;refine ⟨q,m,?_,?_,ab⟩
   ·rw [<-HD.o,HN.o];rfl
   ·have h:=A7 HO.o U;rw [HN.o,HD.o] at h;exact h
end Go.Proofs.YtpdphfgpdgadpaaGreat

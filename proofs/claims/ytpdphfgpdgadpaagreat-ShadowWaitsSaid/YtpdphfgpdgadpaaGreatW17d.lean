import Derived.Test.YtpdphfgpdgadpaaGreatW10b
import Derived.Test.YtpdphfgpdgadpaaGreatM17c
set_option linter.unusedSimpArgs false
set_option linter.unusedVariables false
set_option maxHeartbeats 4000000
set_option maxRecDepth 100000
open Go.Proofs.Tryz
namespace Go.Proofs.YtpdphfgpdgadpaaGreat
open Lib(hid)
open Go Go.RowKit Go.Sort M
abbrev wyV (x:Wc):Value := .agg #[.int .i64 (x.c:Int),.int .i64 (x.f:Int),.bool x.t]
theorem T6 (x y:Wc):Aj prog 31 #[wyV x,wyV y] (.bool (chW x y)):=by
 intro w;obtain ⟨b,i,d⟩:=x;obtain ⟨a,f,c⟩:=y;unfold wyV chW;cases d with
 | false=>go_enter func31,ntmps31;go_wp2;go_ret;exact ⟨rfl,Qg⟩
 | true=>
  cases c with
  | false=>go_enter func31,ntmps31;go_wp2;go_ret;exact ⟨rfl,Qg⟩
  | true=>
   by_cases h:b<a
   ·have e:(b:Int)<(a:Int):=Qa;go_enter func31,ntmps31;go_wp2;go_ret;exact ⟨Au (by simp [h]),Qg⟩
   ·have e:¬(b:Int)<(a:Int):=Qa;go_enter func31,ntmps31;go_wp2;go_ret;exact ⟨Au (by simp [h]),Qg⟩
def WRow (w:World) (q:Option Addr) (lo wd:Nat) (F:Nat->Wc):Prop:=∃g,q=some ⟨g,0,none⟩/\g<w.heap.size/\∀j,lo<=j->j<=wd ->
 w.cell? ⟨g,j*3,none⟩=some (.int .i64 ((F j).c:Int))/\w.cell? ⟨g,j*3+1,none⟩=some (.int .i64 ((F j).f:Int))/\w.cell? ⟨g,j*3+2,none⟩=some (.bool (F j).t)
theorem WRow.below {w w':World} {q:Option Addr} {lo wd:Nat} {F:Nat->Wc} (h:WRow w q lo wd F) (b:Below w.heap.size w w'):WRow w' q lo wd F:=by obtain ⟨g,e,a,c⟩:=h;exact ⟨g,e,Qm a b.size,λj f d=>⟨(b.cell (p:=⟨g,j*3,none⟩) a).trans (c j f d).1,(b.cell (p:=⟨g,j*3+1,none⟩) a).trans (c j f d).2.1,(b.cell (p:=⟨g,j*3+2,none⟩) a).trans (c j f d).2.2⟩⟩
def pcL (a:Nat->Nat) (K:Nat):List Int:=(List.range K).map λj=>((a j:Nat):Int)
theorem He (a:Nat->Nat) (K:Nat):(pcL a K).length=K:=by simp [pcL]
theorem Z72 (a:Nat->Nat) (K i:Nat) (h:i<(pcL a K).length):(pcL a K)[i]=((a i:Nat):Int):=by simp [pcL]
theorem Jg (a:Nat->Nat) (K:Nat):pcL a (K+1)=pcL a K++[((a K:Nat):Int)]:=by simp [pcL,List.range_succ]
theorem T7 (p q:Option Addr) (c d a wd K:Nat) (Q:Nat->Nat) (F E:Nat->Wc) (w:World) (hP:IRow w p (pcL Q K)) (hQ:WRow w q (a+1) wd F) (hK:a+K<=wd) (a9:wd<=128)
 (s:∀i,i<K->Q i<=141836999983104) (hF:∀j,(F j).c<=141836999983104) (Z:E 0=⟨0,0,false⟩)
 (I:∀i,i<K->E (i+1)=if chW (canW (Q i) (a+1+i) (F (a+1+i))) (E i) then canW (Q i) (a+1+i) (F (a+1+i)) else E i) :
 Calls prog 44 #[.int .i64 (a:Int),.slice p K c,.slice q (wd+1) d] w λe w'=>e = .returned (wyV (E K))/\Below w.heap.size w w':=by
 obtain ⟨h,rfl,hh,hc⟩:=hQ;have HP:=hid hP;have HC:=hid hc;have a6:=hid s;have HF:=hid hF;have a7:=hid Z;have HE:=hid I;clear hP hc s hF Z I;go_enter func44,ntmps44;go_wp2;go_loopg [15] K (λkx a2 wr=>∃(i:Nat) (x:Wc),a2 = .int .i64 (i:Int)/\K-i<=kx/\i<=K/\Hid (x=E i) /\
  wr.cell? ⟨w.heap.size,0,none⟩=some (.int .i64 0)/\wr.cell? ⟨w.heap.size,1,none⟩=some (.int .i64 0)/\wr.cell? ⟨w.heap.size,2,none⟩=some (.bool false) /\
  wr.cell? ⟨w.heap.size+1,0,none⟩=some (.int .i64 (x.c:Int))/\wr.cell? ⟨w.heap.size+1,1,none⟩=some (.int .i64 (x.f:Int))/\wr.cell? ⟨w.heap.size+1,2,none⟩=some (.bool x.t) /\
  (∀j,wr.frozen? ⟨w.heap.size,j,none⟩=false)/\(∀j,wr.frozen? ⟨w.heap.size+1,j,none⟩=false)/\w.heap.size+1<wr.heap.size/\Below w.heap.size w wr)
 case atStart=>refine ⟨0,⟨0,0,false⟩,rfl,Qa,Qa,hid a7.o.symm,?_,?_,?_,?_,?_,?_,?_,?_,?_,Qg⟩;all_goals simp [go_sem]
 case round=>
  obtain ⟨i,x,rfl,h1,h2,HX,r0,U,S,b0,b1,b2,fr,fb,hz,D⟩:=hrel;by_cases hi:i<K
  ·have a3:=He Q K;obtain ⟨g,o,rfl,hg,x0⟩:=(HP.o.below D).at (k:=i) Qa;rw [Z72] at x0;have A:=HC.o (a+1+i) Qa Qa;have y0:=(D.cell (p:=⟨h,(a+1+i)*3,none⟩) hh).trans A.1;have y1:=(D.cell (p:=⟨h,(a+1+i)*3+1,none⟩) hh).trans A.2.1;have y2:=(D.cell (p:=⟨h,(a+1+i)*3+2,none⟩) hh).trans A.2.2;have s:=a6.o i hi;have hF:=HF.o (a+1+i);have I:=HE.o i hi;rw [<-HX.o] at I;obtain ⟨u,hu⟩:=Q' (Q i);obtain ⟨y,hy⟩:=Q' (F (a+1+i));rw [<-hu] at x0 s I;rw [<-hy] at y0 y1 y2 hF I;have r:=T6 (canW u (a+1+i) y) x;have i1:(0:Int)<=(i:Int):=Qa;have i2:(i:Int)<(K:Int):=Qa;obtain ⟨L,yf,R⟩:=y;obtain ⟨xc,xf,xt⟩:=x;have J:canW u (a+1+i) ⟨L,yf,R⟩=⟨u+L,a+1+i,R⟩:=rfl;rw [J] at I r;simp only at y0 y1 y2 hF b0 b1 b2;unfold wyV at r;simp only at r;have aa:=Qm hh D.size;clear hu hy A a3 J HX;have a1:=hid r;have m:=hid I;clear r I;have n:w.heap.size<wr.heap.size:=Qa;have s1:wrap64 ((u:Int)+(L:Int))=(u:Int)+(L:Int):=IntWalk.wrap64_in _ Qa;go_wp2_with fail;refine (a1.o _).mono ?_;rintro e w1 ⟨rfl,C⟩;obtain ⟨B,a4⟩:=Ac C;have t0:=(B (wr.heap.size+1) 0 Qf).trans (show _=some (Value.int .i64 ((u:Int)+(L:Int))) by simp [go_sem]);have t1:=(B (wr.heap.size+1) 1 Qf).trans (show _=some (Value.int .i64 ((a:Int)+1+(i:Int))) by simp [go_sem]);have t2:=(B (wr.heap.size+1) 2 Qf).trans (show _=some (Value.bool R) by simp [go_sem]);have O:Below wr.heap.size wr w1:=(((Below.refl _ _).alloc (Qn _) _).alloc Qf _).trans (C.mono Qe);have a8:wr.heap.size+1<w1.heap.size:=by have:=C.size;simp at this;omega
   obtain ⟨l,N⟩:=Ac O;have r0:=(l _ _ n).trans r0;have U:=(l _ _ n).trans U;have S:=(l _ _ n).trans S;have b0:=(l _ _ hz).trans b0;have b1:=(l _ _ hz).trans b1;have b2:=(l _ _ hz).trans b2;have fr:=λj=>(N _ j n).trans (fr j);have fb:=λj=>(N _ j hz).trans (fb j);have D:=D.trans (O.mono D.size);have X:w.heap.size+1<w1.heap.size:=Qa;clear B a4 l N C O a1 x0 y0 y1 y2;cases z:chW ⟨u+L,a+1+i,R⟩ ⟨xc,xf,xt⟩ with
   | true=>
    have b:=m.o;rw [z,if_pos rfl] at b;have m:=hid b;clear b z;go_wp2;go_roundg (K-(i+1))
    case measure=>omega
    case rel=>refine ⟨i+1,⟨u+L,a+1+i,R⟩,Qj,Qa,Qa,hid m.o.symm,?_,?_,?_,?_,?_,?_,?_,?_,by simpa [go_sem] using X,Qg⟩;all_goals simp [go_sem,r0,U,S,b0,b1,b2,fr,fb]
   | false=>
    have b:=m.o;rw [z,if_neg Qd] at b;have m:=hid b;clear b z;go_wp2;go_roundg (K-(i+1))
    case measure=>omega
    case rel=>exact ⟨i+1,⟨xc,xf,xt⟩,Qj,Qa,Qa,hid m.o.symm,r0,U,S,b0,b1,b2,fr,fb,X,D⟩
  ·have Y:i=K:=Qa;have hx:x=E K:=by rw [<-Y];exact HX.o
   have a5:=hid hx;have n:w.heap.size<wr.heap.size:=Qa;clear hx HX Y;go_wp2;refine bodyPost_ret (by simp [results,Tryz.results44,go_sem,r0,U,S];try rfl) rfl ?_;exact ⟨by rw [<-a5.o],Qg⟩
theorem Z0z (a:Addr):a.add 0=a:=by simp [Addr.add]
theorem Z2m (p:Option Addr):p.map (·.add 0)=p:=by cases p<;>simp [Z0z]
theorem IRow.take {w:World} {p:Option Addr} {L:List Int} (h:IRow w p L) (k:Nat):IRow w p (L.take k):=by
 rcases h with h | ⟨g,o,e,b,c⟩
 ·exact .inl (by rw [h];simp)
 ·refine .inr ⟨g,o,e,b,λj u a=>c j u ?_⟩;unfold ics at a ⊢;rw [List.map_take,List.getElem?_take] at a;split at a
  ·exact a
  ·cases a
theorem Jh (p:Option Addr) (n c m:Nat) (h:m<=c) (w:World):(Instr.slice 48 (.slice p n c) none (some (.int .i64 (m:Int))) none).run prog w = .ok (.slice p m c) w:=by rw [run_slice_h (P:=prog) (w:=w) 48 p n c Qb .i64 (m:Int) Qa Qa];obtain ⟨i,b,e,a,d⟩:=info_parts E2;have f:prog.elem 48=3:=Qb;rw [f];simp [go_sem,sliced,Z2m,b,a]
theorem Ji (C:List Int) (a b:Nat) (f:a<b) (e:b<=a+20) (d:b<=128):C3 (C.take (b+1)) [(b:Int)] (a:Int)=some (ptC C a b):=by
 have:=S8 C (C.take (b+1)) (st:=20) (wd:=b) (Qn _) d (λj c => ?_) (λj c => ?_) [b] a (Ce.2 ⟨f,e,Cs.2 rfl⟩)
 ·rw [show toI [b]=[(b:Int)] from rfl] at this;rw [this];rfl
 ·unfold atC;rw [List.getD_eq_getElem?_getD,List.getD_eq_getElem?_getD,List.getElem?_take,if_pos Qa]
 ·exact Sn _ _ (by rw [Qs];omega)
def F2 (w:World) (a S k:Nat) (L:List Int):Prop:=∃q c,w.cell? ⟨a,k,none⟩=some (.slice q L.length c)/\(L=[]\/∃g o,q=some ⟨g,o,none⟩/\a<g/\g<S/\∀j u,(ics L)[j]? = some u->w.cell? ⟨g,o+j,none⟩=some u)
theorem F2.keep {w w':World} {a S d k:Nat} {L:List Int} (h:F2 w a S k L) (s:S<=d) (p:w'.cell? ⟨a,k,none⟩=w.cell? ⟨a,k,none⟩) (n:∀g j,a<g->g<S->w'.cell? ⟨g,j,none⟩=w.cell? ⟨g,j,none⟩):F2 w' a d k L:=by obtain ⟨q,c,e,i⟩:=h;refine ⟨q,c,p.trans e,i.imp id ?_⟩;rintro ⟨g,o,r,b,m,l⟩;exact ⟨g,o,r,b,Qa,λj u f=>(n g _ b m).trans (l j u f)⟩
theorem F2.irow {w:World} {a S k:Nat} {L:List Int} (h:F2 w a S k L) (i:S<=w.heap.size):∃q c,w.cell? ⟨a,k,none⟩=some (.slice q L.length c)/\IRow w q L:=by obtain ⟨q,c,e,b⟩:=h;exact ⟨q,c,e,b.imp id λ⟨g,o,f,l,j,d⟩=>⟨g,o,f,Qa,d⟩⟩
structure Cst (w:World) (gO S lo n wd:Nat) (f:Nat->List Int):Prop where
 done:∀k,lo<=k->k<n->F2 w gO S k (f k)
 rest:∀k,n<k->k<wd->w.cell? ⟨gO,k,none⟩=some (.slice none 0 0)
 free:∀j,w.frozen? ⟨gO,j,none⟩=false
 lt:gO<S
 le:S<=w.heap.size
theorem Cst.keep {w w':World} {a S lo n wd:Nat} {f:Nat->List Int} (h:Cst w a S lo n wd f) (e:w.heap.size<=w'.heap.size) (b:∀g j,g<S->g≠a\/j≠n->w'.cell? ⟨g,j,none⟩=w.cell? ⟨g,j,none⟩)
 (i:∀j,w'.frozen? ⟨a,j,none⟩=w.frozen? ⟨a,j,none⟩):Cst w' a S lo n wd f:=
 ⟨λk d c=>(h.done k d c).keep (Qn _) (b a k h.lt (.inr Qa)) (λg j m l=>b g j l (.inl Qa)),λk d c=>(b a k h.lt (.inr Qa)).trans (h.rest k d c),λj=>(i j).trans (h.free j),h.lt,Qw h.le e⟩
theorem T8 {w:World} {b S lo n wd m c:Nat} {e:TypeId} {p:Option Addr} {f:Nat->List Int} (h:Cst w b S lo n wd f) (q:(f n).length=m) (l:w.cell? ⟨b,n,none⟩=some (.slice p m c)) (d:w.ownsRow S e 1 (.slice p m c) m (ics (f n))) :
 Cst w b w.heap.size lo (n+1) wd f:=by
 have r:=h.lt;refine ⟨λk j i => ?_,λk j i=>h.rest k Qa i,h.free,Qm h.lt h.le,Qn _⟩;by_cases s:k=n
 ·subst s;refine ⟨p,c,by rw [q];exact l,?_⟩;rcases IRow.of_own d with a | ⟨g,o,u,a,t⟩
  ·exact .inl a
  ·subst u;exact .inr ⟨g,o,rfl,by have:=(d.lt g rfl).1;omega,a,t⟩
 ·exact (h.done k j Qa).keep h.le rfl (λ_ _ _ _=>rfl)
def Cts (w:World) (p:Option Addr) (lo wd:Nat) (f:Nat->List Int):Prop:=∃g,p=some ⟨g,0,none⟩/\g<w.heap.size/\∀k,lo<=k->k<wd->∃q c,w.cell? ⟨g,k,none⟩=some (.slice q (f k).length c)/\IRow w q (f k)
theorem Cts.below {w w':World} {p:Option Addr} {lo wd:Nat} {f:Nat->List Int} (h:Cts w p lo wd f) (a:Below w.heap.size w w'):Cts w' p lo wd f:=by obtain ⟨g,e,b,d⟩:=h;refine ⟨g,e,Qm b a.size,λk l j => ?_⟩;obtain ⟨q,c,m,i⟩:=d k l j;exact ⟨q,c,(a.cell (p:=⟨g,k,none⟩) b).trans m,i.below a⟩
theorem Bj {w w':World} {row:Option Nat} (h:w.grownBy w' row) {g:Nat} (c:g<w.heap.size) (b:some g≠row) (j:Nat):w'.cell? ⟨g,j,none⟩=w.cell? ⟨g,j,none⟩/\w'.frozen? ⟨g,j,none⟩=w.frozen? ⟨g,j,none⟩:=
 ⟨World.cell?_of_block (a:=⟨g,j,none⟩) (h.block g c b),World.frozen?_of_block (a:=⟨g,j,none⟩) (h.block g c b)⟩
theorem Hf (w:World) (x:Int) (t:TypeId):IRow (w.alloc (.cells #[.int .i64 x] t)) (some ⟨w.heap.size,0,none⟩) [x]:=by
 refine .inr ⟨_,0,rfl,Qf,λj u a => ?_⟩
 match j,a with
 | 0,a=>simp [ics] at a;subst a;simp [go_sem]
theorem T9 {w:World} {B n m d k:Nat} {e:TypeId} {q:Option Addr} {xs:List Value} (h:w.ownsRow B e k (.slice q n d) m xs):n<=d:=by
 rcases h.2 with ⟨a,_⟩ | ⟨g,cap,f,a,_,_,i,_⟩
 ·injection a with _ c b;omega
 ·injection a with _ c b;omega
theorem Cg {B b o:Nat} {w w':World} {v:Value} (h:Below B w w') (a:B<=b):Below B w (w'.setCell ⟨b,o,none⟩ v):=
 h.setCell a v
theorem Z6d:(prog.info? 48).map (λi=>(i.zero,i.size,i.bytes))=some (some (.slice none 0 0),1,24):=Qb
theorem Zp8 (p:Option Addr) (c wd lo st:Nat) (C:List Int) (w:World) (hC:IRow w p C) (h1:C.length<=1000000) (h2:C.length<=c) (h3:1<=wd) (h4:wd<=128) (h5:lo<=wd) (h6:1<=st) (h7:st<=20) :
 Calls prog 43 #[.int .i64 (wd:Int),.int .i64 (lo:Int),.int .i64 (st:Int),.slice p C.length c] w λe w'=>∃q,e = .returned (.slice q wd wd) /\
  Cts w' q lo wd (λa=>pcL (λj=>ptC C a (a+1+j)) (min (a+st) wd-a))/\Below w.heap.size w w':=by
 have af:=B9 (P:=prog) (t:=96) Qb Z6d wd Qa Qk;have HC:=hid hC;obtain ⟨i0,aa,a9,a8,a7⟩:=info_parts E2;have ab:Hid (Cst (w.alloc (.cells (madeCells #[.slice none 0 0] (wd*1)) 48)) w.heap.size (w.heap.size+1) lo lo wd (λa=>pcL (λj=>ptC C a (a+1+j)) (min (a+st) wd-a)) /\
  (lo<wd->(w.alloc (.cells (madeCells #[.slice none 0 0] (wd*1)) 48)).cell? ⟨w.heap.size,lo,none⟩=some (.slice none 0 0))):=by
  have a6:∀k,k<wd->(w.alloc (.cells (madeCells #[.slice none 0 0] (wd*1)) 48)).cell? ⟨w.heap.size,k,none⟩=some (.slice none 0 0):=λk hk=>by
   have:=Ee w (madeCells #[.slice none 0 0] (wd*1)) 48 k (.slice none 0 0) (by rw [Nat.mul_one,toList_madeCells_one];simp [hk])
   rwa [show (⟨w.heap.size,0,none⟩:Addr).add k=⟨w.heap.size,k,none⟩ by unfold Addr.add;split<;>simp_all] at this
  exact hid ⟨⟨λk _ h=>Qa,λk _ h=>a6 k h,λj=>Qi,Qa,Qf⟩,a6 lo⟩
 clear hC;go_enter func43,ntmps43;go_wp2;go_loopg [10] wd (λkx ae wr=>∃a:Nat,ae = .int .i64 (a:Int)/\wd-a<=kx/\lo<=a/\a<=wd /\
  Hid (Cst wr w.heap.size wr.heap.size lo a wd (λa=>pcL (λj=>ptC C a (a+1+j)) (min (a+st) wd-a))/\(a<wd->wr.cell? ⟨w.heap.size,a,none⟩=some (.slice none 0 0)))/\Below w.heap.size w wr)
 case atStart=>exact ⟨lo,rfl,Qa,Qa,Qa,(by simpa using ab),Qg⟩
 case round=>
  clear ab;obtain ⟨a,rfl,h8,h9,aj,HS,n⟩:=hrel;by_cases ha:a<wd
  ·obtain ⟨S,hS⟩:=Q' wr.heap.size;have ag:=n.size;have z:Hid (Cst wr w.heap.size S lo a wd (λa=>pcL (λj=>ptC C a (a+1+j)) (min (a+st) wd-a))):=by rw [hS];exact hid HS.o.1
   have F:=HS.o.2 ha;have U:w.heap.size<S:=by rw [hS];exact HS.o.1.lt
   have O:S<=wr.heap.size:=Qa;have a5:Hid (wr.ownsRow S 3 1 (.slice none 0 0) 0 (ics (pcL (λj=>ptC C a (a+1+j)) 0))):=hid (World.ownsRow_nil _ _ _ _);clear HS hS;go_wp2
   rename World=>wo
   go_loopg [11] (min (a+st) wd-a) (λkx ad wr=>∃(i:Nat) (v:Value),ad = .int .i64 ((a:Int)+1+(i:Int))/\min (a+st) wd-a-i<=kx/\i<=min (a+st) wd-a/\Hid (Cst wr w.heap.size S lo a wd (λa=>pcL (λj=>ptC C a (a+1+j)) (min (a+st) wd-a))) /\
    wr.cell? ⟨w.heap.size,a,none⟩=some v/\Hid (wr.ownsRow S 3 1 v i (ics (pcL (λj=>ptC C a (a+1+j)) i)))/\S<=wr.heap.size/\Below w.heap.size w wr)
   case atStart=>exact ⟨0,_,Qj,Qa,Qa,z,F,a5,O,n⟩
   case round=>
    clear z a5 F n ag O;obtain ⟨i,v,rfl,ai,ah,z,F,R,O,n⟩:=hrel;by_cases hm:(a:Int)+(st:Int)<(wd:Int)
    ·by_cases hi:(a:Int)+1+(i:Int)<=(a:Int)+(st:Int)
     ·by_cases hl:(a:Int)+1+(i:Int)+1<(C.length:Int)
      ·skip;have x:=Ji C a (a+1+i) Qa Qa Qa;have s:=λW (hW:Below w.heap.size w W) (y:Nat)=>((HC.o.below hW).take (a+1+i+1));have f:(C.take (a+1+i+1)).length=a+1+i+1:=by rw [Qs];omega
       have m:=λW (hW:Below w.heap.size w W) y (hy:IRow W y [((a+1+i:Nat):Int)])=>G7 p y c 1 (C.take (a+1+i+1)) [((a+1+i:Nat):Int)] (a:Int) W (s W hW 0) hy (Qn _) (by rw [f];omega) Qf;rw [x,f] at m;simp only [show (((a+1+i:Nat)):Int)=(a:Int)+1+(i:Int) by omega] at m;have J:∀w,(Instr.slice 48 (.slice p C.length c) none (some (.int .i64 ((a:Int)+1+(i:Int)+1))) none).run prog w = .ok (.slice p (a+1+i+1) c) w:=λw=>by
        have:=Jh p C.length c (a+1+i+1) Qa w
        rwa [show (((a+1+i+1:Nat)):Int)=((a:Int)+1+(i:Int)+1) by omega] at this
       obtain ⟨r,Z⟩:=Q' (ptC C a (a+1+i));rw [<-Z] at m;have Q:Hid (∀W,Below w.heap.size w W->∀y,IRow W y [(a:Int)+1+(i:Int)]->Calls prog 67 #[.slice p (a+1+i+1) c,.slice y 1 1,.int .i64 (a:Int)] W λe w'=>e = .returned (.tuple #[.int .i64 (r:Int),.bool true])/\Below W.heap.size W w'):=hid m;have HR:=hid Z;clear x s f m Z;obtain ⟨pv,cv,rfl⟩:=Aq R.o;go_wp2_with fail;refine (Q.o _ (n.alloc n.size _) _ (Hf _ _ _)).mono ?_;rintro e w1 ⟨rfl,K⟩;have b:Below wr.heap.size wr w1:=((Below.refl _ _).alloc (Qn _) _).trans (K.mono Qf);have n:=n.trans (b.mono n.size);have N:=Qw O b.size;have E:=hid (z.o.keep b.size (λg j u _=>b.cell (p:=⟨g,j,none⟩) (by show g<_;omega)) (λj=>b.frozen (p:=⟨w.heap.size,j,none⟩) (by show w.heap.size<_;omega)));have F:=(b.cell (p:=⟨w.heap.size,a,none⟩) (by show w.heap.size<_;omega)).trans F;have o:=hid (own_below R.o b);have X:w.heap.size<w1.heap.size:=Qa;have I:w.heap.size<w1.heap.size+1:=Qa;clear Q z R K J b O;go_wp2_with (at_builtin;go_loud (refine wpList_append_own_at _ rfl (.tmp 52) (.tmp 54) 48 rfl S 3 i0 _ 1 8 underlying48 aa a9 a8 a7 rfl Qd _ _ _ rfl (o.o.alloc _) ⟨w1.heap.size,0,none⟩ 1 1 [.int .i64 (r:Int)] rfl rfl (Ft Qi) (by simp [Value.oneCell']) Qk Qa Qe ?_));intro v2 w2 d l _ _;obtain ⟨p2,c2,rfl⟩:=Aq d;have A:∀g,g<S->some g≠(Value.slice pv i cv).ownBlock:=λg u e=>by have:=(o.o.lt g e.symm).1;omega
       have D:=λg j (u:g<S)=>(Bj l (show g<_ by simp;omega) (A g u) j).1.trans (Bj (World.grownBy_alloc w1 _ none) (show g<_ by omega) Qf j).1;have B:=λg j (u:g<S)=>(Bj l (show g<_ by simp;omega) (A g u) j).2.trans (Bj (World.grownBy_alloc w1 _ none) (show g<_ by omega) Qf j).2;have x1:=(D w.heap.size a Qa).trans F;have f1:=(B w.heap.size a Qa).trans (E.o.free a);have Y:w1.heap.size<=w2.heap.size:=by have:=l.size;simp at this;omega
       have a2:=hid (E.o.keep Y (λg j u _=>D g j u) (λj=>B w.heap.size j U));have a1:Below w.heap.size w w2:=(n.alloc n.size _).grown l Qe (λj hj=>by have:=(o.o.lt j hj).1;omega);have a3:Hid (w2.ownsRow S 3 1 (.slice p2 (i+1) c2) (i+1) (ics (pcL (λj=>ptC C a (a+1+j)) (i+1)))):=by rw [Jg,Fs,Ip];have h:=d;rw [HR.o] at h;exact hid h
       have L:S<=w2.heap.size:=Qa;have a4:w.heap.size<w2.heap.size:=Qa;clear d l A D B o E F n N X I HR;go_wp2;go_roundg (min (a+st) wd-a-(i+1))
       case measure=>omega
       case rel=>refine ⟨i+1,.slice p2 (i+1) c2,Qj,Qa,Qa,hid (a2.o.keep Qf (λg j u ac=>World.cell?_setCell_other _ _ _ _ (by rintro e;injection e with e1 e2;omega)) (λj=>World.frozen?_setCell _ _ _ _)),World.cell?_setCell_same _ _ _ x1,hid (ownsRow_setCell_below a3.o U _),by simpa using L,Cg a1 (Qn _)⟩
      ·skip;have x:=Ji C a (a+1+i) Qa Qa Qa;have s:=λW (hW:Below w.heap.size w W) (y:Nat)=>((HC.o.below hW).take (a+1+i+1));have f:(C.take (a+1+i+1)).length=C.length:=by rw [Qs];omega
       have m:=λW (hW:Below w.heap.size w W) y (hy:IRow W y [((a+1+i:Nat):Int)])=>G7 p y c 1 (C.take (a+1+i+1)) [((a+1+i:Nat):Int)] (a:Int) W (s W hW 0) hy (Qn _) (by rw [f];omega) Qf;rw [x,f] at m;simp only [show (((a+1+i:Nat)):Int)=(a:Int)+1+(i:Int) by omega] at m;have J:∀w,(Instr.slice 48 (.slice p C.length c) none (some (.int .i64 (C.length:Int))) none).run prog w = .ok (.slice p (C.length) c) w:=λw=>by
        have:=Jh p C.length c (C.length) Qa w
        rwa [show (((C.length:Nat)):Int)=(C.length:Int) by omega] at this
       obtain ⟨r,Z⟩:=Q' (ptC C a (a+1+i));rw [<-Z] at m;have Q:Hid (∀W,Below w.heap.size w W->∀y,IRow W y [(a:Int)+1+(i:Int)]->Calls prog 67 #[.slice p (C.length) c,.slice y 1 1,.int .i64 (a:Int)] W λe w'=>e = .returned (.tuple #[.int .i64 (r:Int),.bool true])/\Below W.heap.size W w'):=hid m;have HR:=hid Z;clear x s f m Z;obtain ⟨pv,cv,rfl⟩:=Aq R.o;go_wp2_with fail;refine (Q.o _ (n.alloc n.size _) _ (Hf _ _ _)).mono ?_;rintro e w1 ⟨rfl,K⟩;have b:Below wr.heap.size wr w1:=((Below.refl _ _).alloc (Qn _) _).trans (K.mono Qf);have n:=n.trans (b.mono n.size);have N:=Qw O b.size;have E:=hid (z.o.keep b.size (λg j u _=>b.cell (p:=⟨g,j,none⟩) (by show g<_;omega)) (λj=>b.frozen (p:=⟨w.heap.size,j,none⟩) (by show w.heap.size<_;omega)));have F:=(b.cell (p:=⟨w.heap.size,a,none⟩) (by show w.heap.size<_;omega)).trans F;have o:=hid (own_below R.o b);have X:w.heap.size<w1.heap.size:=Qa;have I:w.heap.size<w1.heap.size+1:=Qa;clear Q z R K J b O;go_wp2_with (at_builtin;go_loud (refine wpList_append_own_at _ rfl (.tmp 52) (.tmp 54) 48 rfl S 3 i0 _ 1 8 underlying48 aa a9 a8 a7 rfl Qd _ _ _ rfl (o.o.alloc _) ⟨w1.heap.size,0,none⟩ 1 1 [.int .i64 (r:Int)] rfl rfl (Ft Qi) (by simp [Value.oneCell']) Qk Qa Qe ?_));intro v2 w2 d l _ _;obtain ⟨p2,c2,rfl⟩:=Aq d;have A:∀g,g<S->some g≠(Value.slice pv i cv).ownBlock:=λg u e=>by have:=(o.o.lt g e.symm).1;omega
       have D:=λg j (u:g<S)=>(Bj l (show g<_ by simp;omega) (A g u) j).1.trans (Bj (World.grownBy_alloc w1 _ none) (show g<_ by omega) Qf j).1;have B:=λg j (u:g<S)=>(Bj l (show g<_ by simp;omega) (A g u) j).2.trans (Bj (World.grownBy_alloc w1 _ none) (show g<_ by omega) Qf j).2;have x1:=(D w.heap.size a Qa).trans F;have f1:=(B w.heap.size a Qa).trans (E.o.free a);have Y:w1.heap.size<=w2.heap.size:=by have:=l.size;simp at this;omega
       have a2:=hid (E.o.keep Y (λg j u _=>D g j u) (λj=>B w.heap.size j U));have a1:Below w.heap.size w w2:=(n.alloc n.size _).grown l Qe (λj hj=>by have:=(o.o.lt j hj).1;omega);have a3:Hid (w2.ownsRow S 3 1 (.slice p2 (i+1) c2) (i+1) (ics (pcL (λj=>ptC C a (a+1+j)) (i+1)))):=by rw [Jg,Fs,Ip];have h:=d;rw [HR.o] at h;exact hid h
       have L:S<=w2.heap.size:=Qa;have a4:w.heap.size<w2.heap.size:=Qa;clear d l A D B o E F n N X I HR;go_wp2;go_roundg (min (a+st) wd-a-(i+1))
       case measure=>omega
       case rel=>refine ⟨i+1,.slice p2 (i+1) c2,Qj,Qa,Qa,hid (a2.o.keep Qf (λg j u ac=>World.cell?_setCell_other _ _ _ _ (by rintro e;injection e with e1 e2;omega)) (λj=>World.frozen?_setCell _ _ _ _)),World.cell?_setCell_same _ _ _ x1,hid (ownsRow_setCell_below a3.o U _),by simpa using L,Cg a1 (Qn _)⟩
     ·skip;obtain rfl:i=min (a+st) wd-a:=Qa;obtain ⟨pv,cv,rfl⟩:=Aq R.o;have HN:Hid (Cst wr w.heap.size wr.heap.size lo (a+1) wd (λa=>pcL (λj=>ptC C a (a+1+j)) (min (a+st) wd-a))/\(a+1<wd->wr.cell? ⟨w.heap.size,a+1,none⟩=some (.slice none 0 0))):=
       hid ⟨T8 z.o (He _ _) F R.o,λh=>z.o.rest (a+1) Qa h⟩
      clear z R F;go_wp2;go_roundg (wd-(a+1))
      case measure=>omega
      case rel=>exact ⟨a+1,Qj,Qa,Qa,Qa,HN,n⟩
    ·by_cases hi:(a:Int)+1+(i:Int)<=(wd:Int)
     ·by_cases hl:(a:Int)+1+(i:Int)+1<(C.length:Int)
      ·skip;have x:=Ji C a (a+1+i) Qa Qa Qa;have s:=λW (hW:Below w.heap.size w W) (y:Nat)=>((HC.o.below hW).take (a+1+i+1));have f:(C.take (a+1+i+1)).length=a+1+i+1:=by rw [Qs];omega
       have m:=λW (hW:Below w.heap.size w W) y (hy:IRow W y [((a+1+i:Nat):Int)])=>G7 p y c 1 (C.take (a+1+i+1)) [((a+1+i:Nat):Int)] (a:Int) W (s W hW 0) hy (Qn _) (by rw [f];omega) Qf;rw [x,f] at m;simp only [show (((a+1+i:Nat)):Int)=(a:Int)+1+(i:Int) by omega] at m;have J:∀w,(Instr.slice 48 (.slice p C.length c) none (some (.int .i64 ((a:Int)+1+(i:Int)+1))) none).run prog w = .ok (.slice p (a+1+i+1) c) w:=λw=>by
        have:=Jh p C.length c (a+1+i+1) Qa w
        rwa [show (((a+1+i+1:Nat)):Int)=((a:Int)+1+(i:Int)+1) by omega] at this
       obtain ⟨r,Z⟩:=Q' (ptC C a (a+1+i));rw [<-Z] at m;have Q:Hid (∀W,Below w.heap.size w W->∀y,IRow W y [(a:Int)+1+(i:Int)]->Calls prog 67 #[.slice p (a+1+i+1) c,.slice y 1 1,.int .i64 (a:Int)] W λe w'=>e = .returned (.tuple #[.int .i64 (r:Int),.bool true])/\Below W.heap.size W w'):=hid m;have HR:=hid Z;clear x s f m Z;obtain ⟨pv,cv,rfl⟩:=Aq R.o;go_wp2_with fail;refine (Q.o _ (n.alloc n.size _) _ (Hf _ _ _)).mono ?_;rintro e w1 ⟨rfl,K⟩;have b:Below wr.heap.size wr w1:=((Below.refl _ _).alloc (Qn _) _).trans (K.mono Qf);have n:=n.trans (b.mono n.size);have N:=Qw O b.size;have E:=hid (z.o.keep b.size (λg j u _=>b.cell (p:=⟨g,j,none⟩) (by show g<_;omega)) (λj=>b.frozen (p:=⟨w.heap.size,j,none⟩) (by show w.heap.size<_;omega)));have F:=(b.cell (p:=⟨w.heap.size,a,none⟩) (by show w.heap.size<_;omega)).trans F;have o:=hid (own_below R.o b);have X:w.heap.size<w1.heap.size:=Qa;have I:w.heap.size<w1.heap.size+1:=Qa;clear Q z R K J b O;go_wp2_with (at_builtin;go_loud (refine wpList_append_own_at _ rfl (.tmp 52) (.tmp 54) 48 rfl S 3 i0 _ 1 8 underlying48 aa a9 a8 a7 rfl Qd _ _ _ rfl (o.o.alloc _) ⟨w1.heap.size,0,none⟩ 1 1 [.int .i64 (r:Int)] rfl rfl (Ft Qi) (by simp [Value.oneCell']) Qk Qa Qe ?_));intro v2 w2 d l _ _;obtain ⟨p2,c2,rfl⟩:=Aq d;have A:∀g,g<S->some g≠(Value.slice pv i cv).ownBlock:=λg u e=>by have:=(o.o.lt g e.symm).1;omega
       have D:=λg j (u:g<S)=>(Bj l (show g<_ by simp;omega) (A g u) j).1.trans (Bj (World.grownBy_alloc w1 _ none) (show g<_ by omega) Qf j).1;have B:=λg j (u:g<S)=>(Bj l (show g<_ by simp;omega) (A g u) j).2.trans (Bj (World.grownBy_alloc w1 _ none) (show g<_ by omega) Qf j).2;have x1:=(D w.heap.size a Qa).trans F;have f1:=(B w.heap.size a Qa).trans (E.o.free a);have Y:w1.heap.size<=w2.heap.size:=by have:=l.size;simp at this;omega
       have a2:=hid (E.o.keep Y (λg j u _=>D g j u) (λj=>B w.heap.size j U));have a1:Below w.heap.size w w2:=(n.alloc n.size _).grown l Qe (λj hj=>by have:=(o.o.lt j hj).1;omega);have a3:Hid (w2.ownsRow S 3 1 (.slice p2 (i+1) c2) (i+1) (ics (pcL (λj=>ptC C a (a+1+j)) (i+1)))):=by rw [Jg,Fs,Ip];have h:=d;rw [HR.o] at h;exact hid h
       have L:S<=w2.heap.size:=Qa;have a4:w.heap.size<w2.heap.size:=Qa;clear d l A D B o E F n N X I HR;go_wp2;go_roundg (min (a+st) wd-a-(i+1))
       case measure=>omega
       case rel=>refine ⟨i+1,.slice p2 (i+1) c2,Qj,Qa,Qa,hid (a2.o.keep Qf (λg j u ac=>World.cell?_setCell_other _ _ _ _ (by rintro e;injection e with e1 e2;omega)) (λj=>World.frozen?_setCell _ _ _ _)),World.cell?_setCell_same _ _ _ x1,hid (ownsRow_setCell_below a3.o U _),by simpa using L,Cg a1 (Qn _)⟩
      ·skip;have x:=Ji C a (a+1+i) Qa Qa Qa;have s:=λW (hW:Below w.heap.size w W) (y:Nat)=>((HC.o.below hW).take (a+1+i+1));have f:(C.take (a+1+i+1)).length=C.length:=by rw [Qs];omega
       have m:=λW (hW:Below w.heap.size w W) y (hy:IRow W y [((a+1+i:Nat):Int)])=>G7 p y c 1 (C.take (a+1+i+1)) [((a+1+i:Nat):Int)] (a:Int) W (s W hW 0) hy (Qn _) (by rw [f];omega) Qf;rw [x,f] at m;simp only [show (((a+1+i:Nat)):Int)=(a:Int)+1+(i:Int) by omega] at m;have J:∀w,(Instr.slice 48 (.slice p C.length c) none (some (.int .i64 (C.length:Int))) none).run prog w = .ok (.slice p (C.length) c) w:=λw=>by
        have:=Jh p C.length c (C.length) Qa w
        rwa [show (((C.length:Nat)):Int)=(C.length:Int) by omega] at this
       obtain ⟨r,Z⟩:=Q' (ptC C a (a+1+i));rw [<-Z] at m;have Q:Hid (∀W,Below w.heap.size w W->∀y,IRow W y [(a:Int)+1+(i:Int)]->Calls prog 67 #[.slice p (C.length) c,.slice y 1 1,.int .i64 (a:Int)] W λe w'=>e = .returned (.tuple #[.int .i64 (r:Int),.bool true])/\Below W.heap.size W w'):=hid m;have HR:=hid Z;clear x s f m Z;obtain ⟨pv,cv,rfl⟩:=Aq R.o;go_wp2_with fail;refine (Q.o _ (n.alloc n.size _) _ (Hf _ _ _)).mono ?_;rintro e w1 ⟨rfl,K⟩;have b:Below wr.heap.size wr w1:=((Below.refl _ _).alloc (Qn _) _).trans (K.mono Qf);have n:=n.trans (b.mono n.size);have N:=Qw O b.size;have E:=hid (z.o.keep b.size (λg j u _=>b.cell (p:=⟨g,j,none⟩) (by show g<_;omega)) (λj=>b.frozen (p:=⟨w.heap.size,j,none⟩) (by show w.heap.size<_;omega)));have F:=(b.cell (p:=⟨w.heap.size,a,none⟩) (by show w.heap.size<_;omega)).trans F;have o:=hid (own_below R.o b);have X:w.heap.size<w1.heap.size:=Qa;have I:w.heap.size<w1.heap.size+1:=Qa;clear Q z R K J b O;go_wp2_with (at_builtin;go_loud (refine wpList_append_own_at _ rfl (.tmp 52) (.tmp 54) 48 rfl S 3 i0 _ 1 8 underlying48 aa a9 a8 a7 rfl Qd _ _ _ rfl (o.o.alloc _) ⟨w1.heap.size,0,none⟩ 1 1 [.int .i64 (r:Int)] rfl rfl (Ft Qi) (by simp [Value.oneCell']) Qk Qa Qe ?_));intro v2 w2 d l _ _;obtain ⟨p2,c2,rfl⟩:=Aq d;have A:∀g,g<S->some g≠(Value.slice pv i cv).ownBlock:=λg u e=>by have:=(o.o.lt g e.symm).1;omega
       have D:=λg j (u:g<S)=>(Bj l (show g<_ by simp;omega) (A g u) j).1.trans (Bj (World.grownBy_alloc w1 _ none) (show g<_ by omega) Qf j).1;have B:=λg j (u:g<S)=>(Bj l (show g<_ by simp;omega) (A g u) j).2.trans (Bj (World.grownBy_alloc w1 _ none) (show g<_ by omega) Qf j).2;have x1:=(D w.heap.size a Qa).trans F;have f1:=(B w.heap.size a Qa).trans (E.o.free a);have Y:w1.heap.size<=w2.heap.size:=by have:=l.size;simp at this;omega
       have a2:=hid (E.o.keep Y (λg j u _=>D g j u) (λj=>B w.heap.size j U));have a1:Below w.heap.size w w2:=(n.alloc n.size _).grown l Qe (λj hj=>by have:=(o.o.lt j hj).1;omega);have a3:Hid (w2.ownsRow S 3 1 (.slice p2 (i+1) c2) (i+1) (ics (pcL (λj=>ptC C a (a+1+j)) (i+1)))):=by rw [Jg,Fs,Ip];have h:=d;rw [HR.o] at h;exact hid h
       have L:S<=w2.heap.size:=Qa;have a4:w.heap.size<w2.heap.size:=Qa;clear d l A D B o E F n N X I HR;go_wp2;go_roundg (min (a+st) wd-a-(i+1))
       case measure=>omega
       case rel=>refine ⟨i+1,.slice p2 (i+1) c2,Qj,Qa,Qa,hid (a2.o.keep Qf (λg j u ac=>World.cell?_setCell_other _ _ _ _ (by rintro e;injection e with e1 e2;omega)) (λj=>World.frozen?_setCell _ _ _ _)),World.cell?_setCell_same _ _ _ x1,hid (ownsRow_setCell_below a3.o U _),by simpa using L,Cg a1 (Qn _)⟩
     ·skip;obtain rfl:i=min (a+st) wd-a:=Qa;obtain ⟨pv,cv,rfl⟩:=Aq R.o;have HN:Hid (Cst wr w.heap.size wr.heap.size lo (a+1) wd (λa=>pcL (λj=>ptC C a (a+1+j)) (min (a+st) wd-a))/\(a+1<wd->wr.cell? ⟨w.heap.size,a+1,none⟩=some (.slice none 0 0))):=
       hid ⟨T8 z.o (He _ _) F R.o,λh=>z.o.rest (a+1) Qa h⟩
      clear z R F;go_wp2;go_roundg (wd-(a+1))
      case measure=>omega
      case rel=>exact ⟨a+1,Qj,Qa,Qa,Qa,HN,n⟩
  ·clear af;go_wp2;go_ret;exact ⟨_,rfl,⟨_,rfl,Qm HS.o.1.lt HS.o.1.le,λk h1 h2=>(HS.o.1.done k h1 Qa).irow (Qn _)⟩,n⟩
end Go.Proofs.YtpdphfgpdgadpaaGreat

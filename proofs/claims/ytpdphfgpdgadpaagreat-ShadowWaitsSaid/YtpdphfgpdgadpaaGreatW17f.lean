import Derived.Test.YtpdphfgpdgadpaaGreatW17d
set_option linter.unusedSimpArgs false
set_option linter.unusedVariables false
set_option maxHeartbeats 4000000
set_option maxRecDepth 100000
open Go.Proofs.Tryz
namespace Go.Proofs.YtpdphfgpdgadpaaGreat
open Lib(hid)
open Go Go.RowKit Go.Sort M
theorem infoY:(prog.info? 74).map (λi=>(i.zero,i.size,i.bytes))=some (some (.slice none 0 0),1,24):=Qb
theorem infoW:(prog.info? 73).map (λi=>(i.zero,i.size,i.bytes))=some (some (.agg #[.int .i64 0,.int .i64 0,.bool false]),3,24):=Qb
def WcAt (w:World) (b j:Nat) (x:Wc):Prop:=w.cell? ⟨b,j*3,none⟩=some (.int .i64 (x.c:Int))/\w.cell? ⟨b,j*3+1,none⟩=some (.int .i64 (x.f:Int))/\w.cell? ⟨b,j*3+2,none⟩=some (.bool x.t)
theorem WcAt.below {w w':World} {b j:Nat} {x:Wc} (h:WcAt w b j x) (c:Below w.heap.size w w') (a:b<w.heap.size):WcAt w' b j x:=
 ⟨(c.cell (p:=⟨b,j*3,none⟩) a).trans h.1,(c.cell (p:=⟨b,j*3+1,none⟩) a).trans h.2.1,(c.cell (p:=⟨b,j*3+2,none⟩) a).trans h.2.2⟩
structure Wys (w:World) (g r M wd:Nat) (F:Nat->Nat->Wc):Prop where
 le:r<=M
 lt:g+r<w.heap.size
 hd:∀k,k<r->w.cell? ⟨g,k,none⟩=some (.slice (some ⟨g+1+k,0,none⟩) (wd+1) (wd+1))
 un:∀k,r<=k->k<M->w.cell? ⟨g,k,none⟩=some (.slice none 0 0)
 c:∀k j,k<r->j<=wd->WcAt w (g+1+k) j (F k j)
 free:∀k j,k<=r->w.frozen? ⟨g+k,j,none⟩=false
theorem Wys.below {w w':World} {g r M wd:Nat} {F:Nat->Nat->Wc} (h:Wys w g r M wd F) (b:Below w.heap.size w w'):Wys w' g r M wd F:=by
 have i:=h.lt;exact ⟨h.le,Qm h.lt b.size,λk a=>(b.cell (p:=⟨g,k,none⟩) (by show g<_;omega)).trans (h.hd k a),λk f e=>(b.cell (p:=⟨g,k,none⟩) (by show g<_;omega)).trans (h.un k f e),
  λk j a d=>(h.c k j a d).below b Qa,λk j a=>(b.frozen (p:=⟨g+k,j,none⟩) (by show g+k<_;omega)).trans (h.free k j a)⟩
theorem Wys.row {w:World} {g r M wd:Nat} {F:Nat->Nat->Wc} (h:Wys w g r M wd F) {k:Nat} (a:k<r) (lo:Nat):WRow w (some ⟨g+1+k,0,none⟩) lo wd (F k):=by have:=h.lt;exact ⟨g+1+k,rfl,Qa,λj _ b=>h.c k j a b⟩
theorem Wys.row_eq {w:World} {g r M wd:Nat} {F:Nat->Nat->Wc} (h:Wys w g r M wd F) {k:Nat} (b:k<r) (lo:Nat) {X:Nat->Wc} (d:∀j,lo<=j->j<=wd->F k j=X j):WRow w (some ⟨g+1+k,0,none⟩) lo wd X:=by have:=h.lt;exact ⟨g+1+k,rfl,Qa,λj e a=>by rw [<-d j e a];exact h.c k j b a⟩
def setW (w:World) (b o:Nat) (x:Wc):World:=((w.setCell ⟨b,o,none⟩ (.int .i64 (x.c:Int))).setCell ⟨b,o+1,none⟩ (.int .i64 (x.f:Int))).setCell ⟨b,o+2,none⟩ (.bool x.t)
theorem Hg (w:World) (b o:Nat) (x:Wc) (g j:Nat) (h:g≠b\/j<o\/o+2<j):(setW w b o x).cell? ⟨g,j,none⟩=w.cell? ⟨g,j,none⟩:=by unfold setW;rw [World.cell?_setCell_other _ _ _ _ (by rintro e;injection e with c a;omega),World.cell?_setCell_other _ _ _ _ (by rintro e;injection e with c a;omega),World.cell?_setCell_other _ _ _ _ (by rintro e;injection e with c a;omega)]
theorem Zxf (w:World) (b o:Nat) (x:Wc):(setW w b o x).heap.size=w.heap.size:=by simp [setW]
theorem Zxg (w:World) (b o:Nat) (x:Wc) (a:Addr):(setW w b o x).frozen? a=w.frozen? a:=by simp [setW]
theorem Z5j {w:World} {b j:Nat} {y:Wc} (h:WcAt w b j y) (x:Wc):WcAt (setW w b (j*3) x) b j x:=by
 have a:∀(w:World) (o c:Nat) (v:Value),o≠c->(w.setCell ⟨b,o,none⟩ v).cell? ⟨b,c,none⟩=w.cell? ⟨b,c,none⟩:=λw o c v h=>World.cell?_setCell_other _ _ _ _ (by rintro e;injection e with f d;omega);unfold setW;refine ⟨?_,?_,?_⟩
 ·rw [a _ _ _ _ Qa,a _ _ _ _ Qa];exact World.cell?_setCell_same _ _ _ h.1
 ·rw [a _ _ _ _ Qa];exact World.cell?_setCell_same _ _ _ ((a _ _ _ _ Qa).trans h.2.1)
 ·exact World.cell?_setCell_same _ _ _ ((a _ _ _ _ Qa).trans ((a _ _ _ _ Qa).trans h.2.2))
def updW (F:Nat->Nat->Wc) (k j:Nat) (x:Wc):Nat->Nat->Wc:=λa b=>if a=k/\b=j then x else F a b
theorem Jj (F:Nat->Nat->Wc) (k j:Nat) (x:Wc):updW F k j x k j=x:=if_pos ⟨rfl,rfl⟩
theorem E7 (F:Nat->Nat->Wc) (k j:Nat) (x:Wc) (a b:Nat) (h:a≠k\/b≠j):updW F k j x a b=F a b:=if_neg Qa
theorem Wys.store {w:World} {g r M wd:Nat} {F:Nat->Nat->Wc} (h:Wys w g r M wd F) {k j:Nat} (m:k<r) (n:j<=wd) (x:Wc):Wys (setW w (g+1+k) (j*3) x) g r M wd (updW F k j x):=by
 refine ⟨h.le,by rw [Zxf];exact h.lt,λa b=>(Hg _ _ _ _ _ _ (.inl Qa)).trans (h.hd a b),λa b f=>(Hg _ _ _ _ _ _ (.inl Qa)).trans (h.un a b f),λa d b f => ?_,λa d b=>(Zxg _ _ _ _ _).trans (h.free a d b)⟩;by_cases e:a=k/\d=j
 ·obtain ⟨rfl,rfl⟩:=e;rw [Jj];exact Z5j (h.c a d b f) x
 ·have l:a≠k\/d≠j:=Qa;rw [E7 _ _ _ _ _ _ l];have i:=h.c a d b f;exact ⟨(Hg _ _ _ _ _ _ Qa).trans i.1,(Hg _ _ _ _ _ _ Qa).trans i.2.1,(Hg _ _ _ _ _ _ Qa).trans i.2.2⟩
theorem Wys.store1 {w:World} {g r M wd:Nat} {F:Nat->Nat->Wc} (h:Wys w g r M wd F) {k j:Nat} (q:k<r) (s:j<=wd) (t:Bool):Wys (w.setCell ⟨g+1+k,j*3+2,none⟩ (.bool t)) g r M wd (updW F k j ⟨(F k j).c,(F k j).f,t⟩):=by
 have d:∀b o,b≠g+1+k\/o≠j*3+2->(w.setCell ⟨g+1+k,j*3+2,none⟩ (.bool t)).cell? ⟨b,o,none⟩=w.cell? ⟨b,o,none⟩:=λb o u=>World.cell?_setCell_other _ _ _ _ (by rintro e;injection e with x p;omega);refine ⟨h.le,by rw [World.size_setCell];exact h.lt,λa i=>(d _ _ (.inl Qa)).trans (h.hd a i),λa i n=>(d _ _ (.inl Qa)).trans (h.un a i n),λa m i n => ?_,λa m i=>(World.frozen?_setCell _ _ _ _).trans (h.free a m i)⟩;have l:=h.c a m i n;by_cases e:a=k/\m=j
 ·obtain ⟨rfl,rfl⟩:=e;rw [Jj];exact ⟨(d _ _ (.inr Qa)).trans l.1,(d _ _ (.inr Qa)).trans l.2.1,World.cell?_setCell_same _ _ _ l.2.2⟩
 ·have p:a≠k\/m≠j:=Qa;rw [E7 _ _ _ _ _ _ p];exact ⟨(d _ _ Qa).trans l.1,(d _ _ Qa).trans l.2.1,(d _ _ Qa).trans l.2.2⟩
theorem Zyu (w:World) (n:Nat) (t:TypeId) (j:Nat) (c:j<n):WcAt (w.alloc (.cells (madeCells #[.int .i64 0,.int .i64 0,.bool false] (n*3)) t)) w.heap.size j ⟨0,0,false⟩:=by
 have a:=Ee w (madeCells #[.int .i64 0,.int .i64 0,.bool false] (n*3)) t;have ha:∀i,(⟨w.heap.size,0,none⟩:Addr).add i=⟨w.heap.size,i,none⟩:=λi=>by unfold Addr.add;split<;>simp_all
 have b:∀i,i<n*3->(madeCells #[.int .i64 0,.int .i64 0,.bool false] (n*3)).toList[i]? = (#[.int .i64 0,.int .i64 0,.bool false]:Array Value)[i%3]? := λi hi=>by unfold madeCells;simp [hi];rcases (show i%3=0\/i%3=1\/i%3=2 by omega) with e | e | e<;>rw [e]<;>rfl
 refine ⟨?_,?_,?_⟩
 ·have:=a (j*3) (.int .i64 0) (by rw [b _ Qa,show j*3%3=0 by omega];rfl)
  rwa [ha] at this
 ·have:=a (j*3+1) (.int .i64 0) (by rw [b _ Qa,show (j*3+1)%3=1 by omega];rfl)
  rwa [ha] at this
 ·have:=a (j*3+2) (.bool false) (by rw [b _ Qa,show (j*3+2)%3=2 by omega];rfl)
  rwa [ha] at this
theorem Wys.laid {w:World} {g r M wd:Nat} {F:Nat->Nat->Wc} (h:Wys w g r M wd F) (i:r<M) (f:w.heap.size=g+1+r) (hF:∀j,F r j=⟨0,0,false⟩) (t:TypeId) :
 Wys ((w.alloc (.cells (madeCells #[.int .i64 0,.int .i64 0,.bool false] ((wd+1)*3)) t)).setCell ⟨g,r,none⟩ (.slice (some ⟨w.heap.size,0,none⟩) (wd+1) (wd+1))) g (r+1) M wd F:=by
 have d:∀b j,b<w.heap.size->(w.alloc (.cells (madeCells #[.int .i64 0,.int .i64 0,.bool false] ((wd+1)*3)) t)).cell? ⟨b,j,none⟩=w.cell? ⟨b,j,none⟩:=λb j m=>World.cell?_alloc_lt _ _ _ m;have a:∀(W:World) b j v,b≠g\/j≠r->(W.setCell ⟨g,r,none⟩ v).cell? ⟨b,j,none⟩=W.cell? ⟨b,j,none⟩:=λW b j v m=>World.cell?_setCell_other _ _ _ _ (by rintro e;injection e with s q;omega);refine ⟨i,Qe,λk l => ?_,λk p o => ?_,λk j l n => ?_,λk j l => ?_⟩
 ·by_cases e:k=r
  ·subst e;rw [<-f];exact World.cell?_setCell_same _ _ _ ((d g k Qa).trans (h.un k (Qn _) i))
  ·rw [a _ _ _ _ (.inr e),d g k Qa];exact h.hd k Qa
 ·rw [a _ _ _ _ (.inr Qa),d g k Qa];exact h.un k Qa o
 ·by_cases e:k=r
  ·subst e;rw [hF,<-f];have:=Zyu w (wd+1) t j Qa;exact ⟨(a _ _ _ _ (.inl Qa)).trans this.1,(a _ _ _ _ (.inl Qa)).trans this.2.1,(a _ _ _ _ (.inl Qa)).trans this.2.2⟩
  ·have:=h.c k j Qa n;exact ⟨((a _ _ _ _ (.inl Qa)).trans (d _ _ Qa)).trans this.1,((a _ _ _ _ (.inl Qa)).trans (d _ _ Qa)).trans this.2.1,((a _ _ _ _ (.inl Qa)).trans (d _ _ Qa)).trans this.2.2⟩
 ·rw [World.frozen?_setCell];by_cases e:k=r+1
  ·subst e;rw [show g+(r+1)=w.heap.size by omega];simp [go_sem]
  ·exact (Bj (World.grownBy_alloc w _ none) (show g+k<_ by omega) Qf j).2.trans (h.free k j Qa)
theorem Wys.start (w:World) (M wd:Nat) (F:Nat->Nat->Wc) (t:TypeId):Wys (w.alloc (.cells (madeCells #[.slice none 0 0] M) t)) w.heap.size 0 M wd F:=by
 refine ⟨Nat.zero_le _,Qf,λk a=>Qa,λk _ a => ?_,λk j a=>Qa,λk j a => ?_⟩
 ·have:=Ee w (madeCells #[.slice none 0 0] M) t k (.slice none 0 0) (by rw [toList_madeCells_one];simp [a])
  rwa [show (⟨w.heap.size,0,none⟩:Addr).add k=⟨w.heap.size,k,none⟩ by unfold Addr.add;split<;>simp_all] at this
 ·obtain rfl:k=0:=Qa;simp [go_sem]
def Wyz (w:World) (q:Option Addr) (M lo wd:Nat) (X:Nat->Nat->Wc):Prop:=∃g,q=some ⟨g,0,none⟩/\g<w.heap.size/\∀k,k<M->∃p,w.cell? ⟨g,k,none⟩=some (.slice p (wd+1) (wd+1))/\WRow w p lo wd (X k)
theorem Wyz.below {w w':World} {q:Option Addr} {M lo wd:Nat} {X:Nat->Nat->Wc} (h:Wyz w q M lo wd X) (a:Below w.heap.size w w'):Wyz w' q M lo wd X:=by obtain ⟨g,e,b,d⟩:=h;refine ⟨g,e,Qm b a.size,λk c => ?_⟩;obtain ⟨p,i,f⟩:=d k c;exact ⟨p,(a.cell (p:=⟨g,k,none⟩) b).trans i,f.below a⟩
structure Fld (X:Nat->Nat->Wc) (F:Nat->Nat->Wc) (lo wd k n:Nat):Prop where
 full:∀i j,i<k->lo<=j->j<=wd->F i j=X i j
 part:∀j,lo<=j->j<n->F k j=X k j
 last:∀i,k<=i->F i wd=⟨0,0,false⟩
theorem Fld.step {X F:Nat->Nat->Wc} {lo wd k n:Nat} (h:Fld X F lo wd k n) (d:n<wd):Fld X (updW F k n (X k n)) lo wd k (n+1):=by
 refine ⟨λi j a b c => ?_,λj a b => ?_,λi a => ?_⟩
 ·rw [E7 _ _ _ _ _ _ (.inl Qa)];exact h.full i j a b c
 ·by_cases e:j=n
  ·subst e;exact Jj _ _ _ _
  ·rw [E7 _ _ _ _ _ _ (.inr e)];exact h.part j a Qa
 ·rw [E7 _ _ _ _ _ _ (.inr Qa)];exact h.last i a
theorem Fld.next {X F:Nat->Nat->Wc} {lo wd k:Nat} (h:Fld X F lo wd k wd) (c:X k wd=⟨0,0,false⟩):Fld X F lo wd (k+1) lo:=by
 refine ⟨λi j b a d => ?_,λj b a=>Qa,λi b=>h.last i Qa⟩;by_cases e:i=k
 ·subst e;by_cases f:j=wd
  ·subst f;rw [h.last i (Qn _),c]
  ·exact h.part j a Qa
 ·exact h.full i j Qa a d
theorem Ua (C:List Int) (st wd n:Nat):wyE (exO C st wd (n+1) wd)=⟨0,0,false⟩:=by rw [exO,show min (wd+st) wd-wd=0 by omega];rfl
theorem Ub (C:List Int) (st wd lo:Nat):Fld (λk j=>wyE (exO C st wd k j)) (updW (λ_ _=>⟨0,0,false⟩) 0 wd ⟨0,0,true⟩) lo wd 1 lo:=by
 refine ⟨λi j a b c => ?_,λj a b=>Qa,λi a=>E7 _ _ _ _ _ _ (.inl Qa)⟩;obtain rfl:i=0:=Qa;by_cases e:j=wd
 ·subst e;rw [Jj];show _=wyE (exO C st j 0 j);rw [exO,if_pos rfl];rfl
 ·rw [E7 _ _ _ _ _ _ (.inr e)];show _=wyE (exO C st wd 0 j);rw [exO,if_neg e];rfl
theorem Zr5 (p:Option Addr) (c wd lo mo st:Nat) (C:List Int) (w:World) (hC:IRow w p C) (h1:C.length<=1000000) (h2:C.length<=c) (h3:1<=wd) (h4:wd<=128) (h5:lo<=wd) (h6:1<=st) (h7:st<=20) (h8:mo<=128) (M:Nat) (hM:M=min mo (wd-lo)+1) :
 Calls prog 30 #[.int .i64 (wd:Int),.int .i64 (lo:Int),.int .i64 (mo:Int),.int .i64 (st:Int),.slice p C.length c] w λe w'=>∃q,e = .returned (.slice q M M) /\
  Wyz w' q M lo wd (λk j=>wyE (exO C st wd k j))/\Below w.heap.size w w':=by
 have ac:=Zp8 p c wd lo st C w hC h1 h2 h3 h4 h5 h6 h7;have a2:=B9 (P:=prog) (t:=70) Qb infoY M Qa Qk;have ae:=B9 (P:=prog) (t:=74) Qb infoW (wd+1) Qa Qk;simp only [show ((wd+1:Nat):Int)=(wd:Int)+1 by omega] at ae;have a3:=hid ac;clear ac hC;by_cases aj:(wd:Int)-(lo:Int)<(mo:Int)
 ·simp only [show (M:Int)=(wd:Int)-(lo:Int)+1 by omega] at a2;have ai:1<=M:=Qa;have ah:M<=129:=Qa;have HM:=hid hM;clear hM;go_enter func30,ntmps30;go_wp2_with fail;refine a3.o.mono ?_;rintro e w1 ⟨q1,rfl,⟨gc,rfl,J,N⟩,U⟩;have ab:=hid N;have a1:=hid (Wys.start w1 M wd (λ_ _=>⟨0,0,false⟩) 74);have Z:Hid ((w1.alloc (.cells (madeCells #[.slice none 0 0] M) 74)).heap.size=w1.heap.size+1+0):=hid Qf;have S:Below w1.heap.size w1 (w1.alloc (.cells (madeCells #[.slice none 0 0] M) 74)):=(Below.refl _ _).alloc (Qn _) _;clear N a3;go_wp2;go_loopg [30] M (λA a4 wr=>∃r:Nat,a4 = .int .i64 (r:Int)/\M-r<=A/\r<=M/\Hid (Wys wr w1.heap.size r M wd (λ_ _=>⟨0,0,false⟩))/\Hid (wr.heap.size=w1.heap.size+1+r)/\Below w1.heap.size w1 wr)
  case atStart=>exact ⟨0,rfl,Qa,Qa,a1,Z,S⟩
  case round=>
   clear a1 Z S a2;obtain ⟨r,rfl,k1,k2,b,HZ,l⟩:=hrel;by_cases hr:r<M
   ·have z:=b.o.un r (Qn _) hr;have f0:=b.o.free 0 r (Nat.zero_le _);rw [Nat.add_zero] at f0;have hz:=HZ.o;have hg:w1.heap.size<wr.heap.size:=Qa;have ag:w1.heap.size<wr.heap.size+1:=Qa;have a9:Hid (wr.heap.size+1=w1.heap.size+1+(r+1)):=hid Qa;clear hz;go_wp2;go_roundg (M-(r+1))
    case measure=>omega
    case rel=>
    rw [<-World.setCell_alloc_past _ _ _ _ hg];exact ⟨r+1,Qj,Qa,Qa,hid (b.o.laid hr HZ.o (λ_=>rfl) _),hid (by simpa using a9.o),Cg (l.alloc l.size _) (Qn _)⟩
   ·obtain rfl:r=M:=Qa;have u:=hid (b.o.store1 (k:=0) (j:=wd) Qa (Qn _) true);have z:=b.o.hd 0 Qa;have x1:=(b.o.c 0 wd Qa (Qn _)).2.2;have f1:=b.o.free (0+1) (wd*3+2) Qa;rw [Nat.add_zero] at z x1 u;have a7:w1.heap.size+1<wr.heap.size:=by have:=b.o.lt;omega
    have hg:w1.heap.size<wr.heap.size:=Qa;have d:=hid (Ub C st wd lo);have R:=Cg (o:=wd*3+2) (v := .bool true) l (Nat.le_succ w1.heap.size);clear b HZ;go_wp2;go_loopg [14] r (λA a6 wr=>∃(k:Nat) (F:Nat->Nat->Wc),a6 = .int .i64 ((k:Int)+1)/\r-k<=A/\k+1<=r/\Hid (Wys wr w1.heap.size r r wd F)/\Hid (Fld (λk j=>wyE (exO C st wd k j)) F lo wd (k+1) lo)/\Below w1.heap.size w1 wr)
    case atStart=>exact ⟨0,_,Qj,Qa,Qa,u,d,R⟩
    case round=>
     clear u d R z x1 f1 a7 hg l;obtain ⟨k,F,rfl,k3,k4,b,d,l⟩:=hrel;by_cases hk:k+1<r
     ·go_wp2
      rename World=>wo
      go_loopg [15] wd (λA a5 wr=>∃(a:Nat) (F:Nat->Nat->Wc),a5 = .int .i64 (a:Int)/\wd-a<=A/\lo<=a/\a<=wd/\Hid (Wys wr w1.heap.size r r wd F)/\Hid (Fld (λk j=>wyE (exO C st wd k j)) F lo wd (k+1) a)/\Below w1.heap.size w1 wr)
      case atStart=>exact ⟨lo,F,rfl,Qa,Qa,Qa,b,d,l⟩
      case round=>
       clear b d l;obtain ⟨a,F,rfl,k5,k6,k7,b,d,l⟩:=hrel;by_cases ha:a<wd
       ·have z:=b.o.hd (k+1) Qa;have x1:=b.o.hd k Qa;obtain ⟨qc,cc,Y,E⟩:=ab.o a k6 ha;have Y:=(l.cell (p:=⟨gc,a,none⟩) J).trans Y;have I:=Qm J l.size;rw [He] at Y;have D:=b.o.lt;have B:=b.o.row_eq (k:=k) Qa (a+1) (X:=λj=>wyE (exO C st wd k j)) (λj h1 h2=>d.o.full k j Qa Qa h2);have O:=λW (hW:Below wr.heap.size wr W)=>T7 qc (some ⟨w1.heap.size+1+k,0,none⟩) cc (wd+1) a wd (min (a+st) wd-a) (λj=>ptC C a (a+1+j)) (λj=>wyE (exO C st wd k j))
         (λi=>wyE (fdO (λk'=>cdO C a (a+1+k') (exO C st wd k (a+1+k'))) none i)) W ((E.below l).below hW) (B.below hW) Qa h4
         (λi hi=>G6 (M0 C a (a+1+i) Qa) Qa) (λj=>G6 (T5 C h7 k j) Qa) rfl (λi hi=>T2 C st wd k a i _ _ rfl rfl)
        obtain ⟨x,hx⟩:=Q' (wyE (exO C st wd (k+1) a));have HX:=hid hx;have f:∀W,Below wr.heap.size wr W->Calls prog 44 #[.int .i64 (a:Int),.slice qc (min (a+st) wd-a) cc,.slice (some ⟨w1.heap.size+1+k,0,none⟩) (wd+1) (wd+1)] W λe w'=>e = .returned (wyV x)/\Below W.heap.size W w':=by rw [hx];exact O
        obtain ⟨xc,xf,xt⟩:=x;unfold wyV at f;simp only at f;obtain ⟨K,hK⟩:=Q' (min (a+st) wd-a);rw [<-hK] at f Y;have y:=hid f;have i1:(0:Int)<=(k:Int)+1:=Qa;have i2:(k:Int)+1<(r:Int):=Qa;have i3:(k:Int)<(r:Int):=Qa;have i4:(a:Int)<(wd:Int):=Qa;have hg:w1.heap.size<wr.heap.size:=Qa;clear E B O f hx hK;go_wp2_with fail;have kg:=Ad;refine A1 17 Qb Qb ?_;simp only [List.take_succ_cons,List.take_zero,List.drop_succ_cons,List.drop_zero];repeat (any_goals (first|go_big_quiet_step ((exact Calls.regrown_of (y.o _ (below_regrown _ _ _))))|quiet_step ((exact Calls.regrown_of (y.o _ (below_regrown _ _ _))))))
        refine wpQuiet_nil ?_;clear kg;intro ad h;obtain ⟨Q,L⟩:=Ac h;have m:=b.o.below h;have a8:=m.c (k+1) a hk k7;obtain ⟨d0,d1,d2⟩:=a8;have ek:w1.heap.size+(k+2)=w1.heap.size+1+(k+1):=Qa;have e0:=m.free (k+2) (a*3) Qa;have e1:=m.free (k+2) (a*3+1) Qa;have e2:=m.free (k+2) (a*3+2) Qa;rw [ek] at e0 e1 e2;have aa:=hid (m.store (k:=k+1) (j:=a) hk k7 ⟨xc,xf,xt⟩);have n:=hid (d.o.step ha);rw [<-HX.o] at n;have l:=l.trans (h.mono l.size);have af:=Qm (show w1.heap.size+1+(k+1)<wr.heap.size by omega) h.size;have s:w1.heap.size<=w1.heap.size+1+(k+1):=Qa;clear b d HX y h Q L m ek z x1 Y D I;go_wp2;go_roundg (wd-(a+1))
        case measure=>omega
        case rel=>exact ⟨a+1,_,Qj,Qa,Qa,Qa,aa,n,Cg (Cg (Cg l s) s) s⟩
       ·obtain rfl:a=wd:=Qa;have n:=hid (d.o.next (Ua C st a k));go_wp2;go_roundg (r-(k+1))
        case measure=>omega
        case rel=>exact ⟨k+1,F,Qj,Qa,Qa,b,n,l⟩
     ·obtain rfl:r=k+1:=Qa;go_wp2;go_ret;have D:=b.o.lt;exact ⟨_,rfl,⟨_,rfl,Qa,λi hi=>⟨_,b.o.hd i hi,b.o.row_eq hi lo (λj h1 h2=>d.o.full i j hi h1 h2)⟩⟩,U.trans (l.mono U.size)⟩
 ·simp only [show (M:Int)=(mo:Int)+1 by omega] at a2;have ai:1<=M:=Qa;have ah:M<=129:=Qa;have HM:=hid hM;clear hM;go_enter func30,ntmps30;go_wp2_with fail;refine a3.o.mono ?_;rintro e w1 ⟨q1,rfl,⟨gc,rfl,J,N⟩,U⟩;have ab:=hid N;have a1:=hid (Wys.start w1 M wd (λ_ _=>⟨0,0,false⟩) 74);have Z:Hid ((w1.alloc (.cells (madeCells #[.slice none 0 0] M) 74)).heap.size=w1.heap.size+1+0):=hid Qf;have S:Below w1.heap.size w1 (w1.alloc (.cells (madeCells #[.slice none 0 0] M) 74)):=(Below.refl _ _).alloc (Qn _) _;clear N a3;go_wp2;go_loopg [30] M (λA a4 wr=>∃r:Nat,a4 = .int .i64 (r:Int)/\M-r<=A/\r<=M/\Hid (Wys wr w1.heap.size r M wd (λ_ _=>⟨0,0,false⟩))/\Hid (wr.heap.size=w1.heap.size+1+r)/\Below w1.heap.size w1 wr)
  case atStart=>exact ⟨0,rfl,Qa,Qa,a1,Z,S⟩
  case round=>
   clear a1 Z S a2;obtain ⟨r,rfl,k1,k2,b,HZ,l⟩:=hrel;by_cases hr:r<M
   ·have z:=b.o.un r (Qn _) hr;have f0:=b.o.free 0 r (Nat.zero_le _);rw [Nat.add_zero] at f0;have hz:=HZ.o;have hg:w1.heap.size<wr.heap.size:=Qa;have ag:w1.heap.size<wr.heap.size+1:=Qa;have a9:Hid (wr.heap.size+1=w1.heap.size+1+(r+1)):=hid Qa;clear hz;go_wp2;go_roundg (M-(r+1))
    case measure=>omega
    case rel=>
    rw [<-World.setCell_alloc_past _ _ _ _ hg];exact ⟨r+1,Qj,Qa,Qa,hid (b.o.laid hr HZ.o (λ_=>rfl) _),hid (by simpa using a9.o),Cg (l.alloc l.size _) (Qn _)⟩
   ·obtain rfl:r=M:=Qa;have u:=hid (b.o.store1 (k:=0) (j:=wd) Qa (Qn _) true);have z:=b.o.hd 0 Qa;have x1:=(b.o.c 0 wd Qa (Qn _)).2.2;have f1:=b.o.free (0+1) (wd*3+2) Qa;rw [Nat.add_zero] at z x1 u;have a7:w1.heap.size+1<wr.heap.size:=by have:=b.o.lt;omega
    have hg:w1.heap.size<wr.heap.size:=Qa;have d:=hid (Ub C st wd lo);have R:=Cg (o:=wd*3+2) (v := .bool true) l (Nat.le_succ w1.heap.size);clear b HZ;go_wp2;go_loopg [14] r (λA a6 wr=>∃(k:Nat) (F:Nat->Nat->Wc),a6 = .int .i64 ((k:Int)+1)/\r-k<=A/\k+1<=r/\Hid (Wys wr w1.heap.size r r wd F)/\Hid (Fld (λk j=>wyE (exO C st wd k j)) F lo wd (k+1) lo)/\Below w1.heap.size w1 wr)
    case atStart=>exact ⟨0,_,Qj,Qa,Qa,u,d,R⟩
    case round=>
     clear u d R z x1 f1 a7 hg l;obtain ⟨k,F,rfl,k3,k4,b,d,l⟩:=hrel;by_cases hk:k+1<r
     ·go_wp2
      rename World=>wo
      go_loopg [15] wd (λA a5 wr=>∃(a:Nat) (F:Nat->Nat->Wc),a5 = .int .i64 (a:Int)/\wd-a<=A/\lo<=a/\a<=wd/\Hid (Wys wr w1.heap.size r r wd F)/\Hid (Fld (λk j=>wyE (exO C st wd k j)) F lo wd (k+1) a)/\Below w1.heap.size w1 wr)
      case atStart=>exact ⟨lo,F,rfl,Qa,Qa,Qa,b,d,l⟩
      case round=>
       clear b d l;obtain ⟨a,F,rfl,k5,k6,k7,b,d,l⟩:=hrel;by_cases ha:a<wd
       ·have z:=b.o.hd (k+1) Qa;have x1:=b.o.hd k Qa;obtain ⟨qc,cc,Y,E⟩:=ab.o a k6 ha;have Y:=(l.cell (p:=⟨gc,a,none⟩) J).trans Y;have I:=Qm J l.size;rw [He] at Y;have D:=b.o.lt;have B:=b.o.row_eq (k:=k) Qa (a+1) (X:=λj=>wyE (exO C st wd k j)) (λj h1 h2=>d.o.full k j Qa Qa h2);have O:=λW (hW:Below wr.heap.size wr W)=>T7 qc (some ⟨w1.heap.size+1+k,0,none⟩) cc (wd+1) a wd (min (a+st) wd-a) (λj=>ptC C a (a+1+j)) (λj=>wyE (exO C st wd k j))
         (λi=>wyE (fdO (λk'=>cdO C a (a+1+k') (exO C st wd k (a+1+k'))) none i)) W ((E.below l).below hW) (B.below hW) Qa h4
         (λi hi=>G6 (M0 C a (a+1+i) Qa) Qa) (λj=>G6 (T5 C h7 k j) Qa) rfl (λi hi=>T2 C st wd k a i _ _ rfl rfl)
        obtain ⟨x,hx⟩:=Q' (wyE (exO C st wd (k+1) a));have HX:=hid hx;have f:∀W,Below wr.heap.size wr W->Calls prog 44 #[.int .i64 (a:Int),.slice qc (min (a+st) wd-a) cc,.slice (some ⟨w1.heap.size+1+k,0,none⟩) (wd+1) (wd+1)] W λe w'=>e = .returned (wyV x)/\Below W.heap.size W w':=by rw [hx];exact O
        obtain ⟨xc,xf,xt⟩:=x;unfold wyV at f;simp only at f;obtain ⟨K,hK⟩:=Q' (min (a+st) wd-a);rw [<-hK] at f Y;have y:=hid f;have i1:(0:Int)<=(k:Int)+1:=Qa;have i2:(k:Int)+1<(r:Int):=Qa;have i3:(k:Int)<(r:Int):=Qa;have i4:(a:Int)<(wd:Int):=Qa;have hg:w1.heap.size<wr.heap.size:=Qa;clear E B O f hx hK;go_wp2_with fail;have kg:=Ad;refine A1 17 Qb Qb ?_;simp only [List.take_succ_cons,List.take_zero,List.drop_succ_cons,List.drop_zero];repeat (any_goals (first|go_big_quiet_step ((exact Calls.regrown_of (y.o _ (below_regrown _ _ _))))|quiet_step ((exact Calls.regrown_of (y.o _ (below_regrown _ _ _))))))
        refine wpQuiet_nil ?_;clear kg;intro ad h;obtain ⟨Q,L⟩:=Ac h;have m:=b.o.below h;have a8:=m.c (k+1) a hk k7;obtain ⟨d0,d1,d2⟩:=a8;have ek:w1.heap.size+(k+2)=w1.heap.size+1+(k+1):=Qa;have e0:=m.free (k+2) (a*3) Qa;have e1:=m.free (k+2) (a*3+1) Qa;have e2:=m.free (k+2) (a*3+2) Qa;rw [ek] at e0 e1 e2;have aa:=hid (m.store (k:=k+1) (j:=a) hk k7 ⟨xc,xf,xt⟩);have n:=hid (d.o.step ha);rw [<-HX.o] at n;have l:=l.trans (h.mono l.size);have af:=Qm (show w1.heap.size+1+(k+1)<wr.heap.size by omega) h.size;have s:w1.heap.size<=w1.heap.size+1+(k+1):=Qa;clear b d HX y h Q L m ek z x1 Y D I;go_wp2;go_roundg (wd-(a+1))
        case measure=>omega
        case rel=>exact ⟨a+1,_,Qj,Qa,Qa,Qa,aa,n,Cg (Cg (Cg l s) s) s⟩
       ·obtain rfl:a=wd:=Qa;have n:=hid (d.o.next (Ua C st a k));go_wp2;go_roundg (r-(k+1))
        case measure=>omega
        case rel=>exact ⟨k+1,F,Qj,Qa,Qa,b,n,l⟩
     ·obtain rfl:r=k+1:=Qa;go_wp2;go_ret;have D:=b.o.lt;exact ⟨_,rfl,⟨_,rfl,Qa,λi hi=>⟨_,b.o.hd i hi,b.o.row_eq hi lo (λj h1 h2=>d.o.full i j hi h1 h2)⟩⟩,U.trans (l.mono U.size)⟩
end Go.Proofs.YtpdphfgpdgadpaaGreat

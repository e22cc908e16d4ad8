import Derived.Test.YtpdphfgpdgadpaaGreatW18
set_option linter.unusedSimpArgs false
set_option linter.unusedVariables false
set_option maxHeartbeats 8000000
set_option maxRecDepth 100000
open Go.Proofs.Tryz
namespace Go.Proofs.YtpdphfgpdgadpaaGreat
open Lib(hid)
open Go Go.RowKit Go.Sort M
theorem Y2 (p q:Option Addr) (c d m n:Nat) (A B:List Rt) (w:World) (E:Row w p (rcs A)) (D:Row w q (rcs B)) (y:A.length=m) (z:B.length=n) :
 Calls prog 106 #[.slice p m c,.slice q n d] w λe w'=>e = .returned (.bool (De A B))/\Below w.heap.size w w':=by
 rcases A with _ | ⟨a,A⟩
 ·obtain rfl:m=0:=y.symm;rw [show De [] B=false from rfl];go_enter func106,ntmps106;go_wp2_with fail;have s:=Ad;refine Am Qb Qb ?_;repeat (any_goals (first|go_big_quiet_step (fail)|quiet_step (fail)))
  refine wpQuiet_nil ?_;clear s;intro w1 f;obtain ⟨x,t⟩:=Ac f;have i:Below w.heap.size w w1:=by
   refine Below.trans ?_ (f.mono ?_)
   ·go_grown
   ·first|omega|go_size
  go_wp2;go_ret;exact ⟨rfl,i⟩
 ·obtain ⟨g,o,rfl,hg,K,x1,x2,-⟩:=E.rt (k:=0) Qf;simp only [Nat.zero_mul,Nat.add_zero,List.getElem_cons_zero] at K x1 x2;have C:0<m:=by rw [<-y];simp
  have U:(0:Int)<(m:Int):=Qa;have S:decide (0<m)=true:=by simpa using C
  rcases B with _ | ⟨b,B⟩
  ·obtain rfl:n=0:=z.symm;rw [show De (a::A) []=true from rfl];clear E D y;go_enter func106,ntmps106;go_wp2_with fail;have s:=Ad;refine Am Qb Qb ?_;repeat (any_goals (first|go_big_quiet_step (fail)|quiet_step (fail)))
   refine wpQuiet_nil ?_;clear s;intro w1 f;obtain ⟨x,t⟩:=Ac f;have i:Below w.heap.size w w1:=by
    refine Below.trans ?_ (f.mono ?_)
    ·go_grown
    ·first|omega|go_size
   go_wp2;go_ret;exact ⟨rfl,i⟩
  ·obtain ⟨gb,O,rfl,N,J,I,F,-⟩:=D.rt (k:=0) Qf;simp only [Nat.zero_mul,Nat.add_zero,List.getElem_cons_zero] at J I F;have L:0<n:=by rw [<-z];simp
   have R:(0:Int)<(n:Int):=Qa;have Q:((n:Int) == 0)=false:=by rw [beq_eq_false_iff_ne];omega
   have j:=Hq a.k.h a.k.l a.k.n b.k.h b.k.l b.k.n;rw [show A5 a.k.h a.k.l a.k.n b.k.h b.k.l b.k.n=De (a::A) (b::B) from rfl] at j;have j:=hid j;generalize De (a::A) (b::B)=r at *
   obtain ⟨⟨Z,Y,X⟩,v⟩:=a;obtain ⟨⟨jh,jl,jn⟩,u⟩:=b;simp only at K x1 x2 J I F j;clear E D y z;go_enter func106,ntmps106;go_wp2_with fail;have s:=Ad;refine Am Qb Qb ?_;repeat (any_goals (first|go_big_quiet_step ((exact j.o.at _ _ _))|quiet_step ((exact j.o.at _ _ _))))
   refine wpQuiet_nil ?_;clear s;intro w1 f;obtain ⟨x,t⟩:=Ac f;have i:Below w.heap.size w w1:=by
    refine Below.trans ?_ (f.mono ?_)
    ·go_grown
    ·first|omega|go_size
   go_wp2;go_ret;exact ⟨rfl,i⟩
structure Rs (w:World) (q:Option Addr) (m d:Nat) (M:List Rt):Prop where
 len:M.length=m
 le:m<=d
 row:Row w q (rcs M)
theorem Rs.head {w:World} {q:Option Addr} {m d:Nat} {M:List Rt} (H:Rs w q m d M) (h:0<m) :
 ∃g o x N,q=some ⟨g,o,none⟩/\g<w.heap.size/\w.cell? ⟨g,o,none⟩=some (.int .u64 (x.k.h:Int))/\w.cell? ⟨g,o+1,none⟩=some (.int .u64 (x.k.l:Int))/\w.cell? ⟨g,o+2,none⟩=some (.int .i64 x.k.n)/\w.cell? ⟨g,o+3,none⟩=some (.int .i64 x.v) /\
  M=x::N/\Rs w (some ⟨g,o+4,none⟩) (m-1) (d-1) N/\(d=1->Rs w (some ⟨g,o,none⟩) (m-1) 0 N):=by
 obtain ⟨i,s,f⟩:=H;rcases M with _ | ⟨x,N⟩
 ·simp at i;omega
 have y:N.length=m-1:=by simp at i;omega
 obtain ⟨g,o,e,p,c,x1,x2,b⟩:=f.rt (k:=0) Qf;simp only [Nat.zero_mul,Nat.add_zero,List.getElem_cons_zero] at c x1 x2 b;refine ⟨g,o,x,N,e,p,c,x1,x2,b,rfl,⟨y,Qa,?_⟩,λhd=>⟨Qa,Qa,?_⟩⟩
 ·rcases f with z | ⟨D,C,a,-,t⟩
  ·cases z
  ·rw [e] at a;injection a with a;injection a with B A;subst B A;refine .inr ⟨g,o+4,rfl,p,λj u r => ?_⟩;rw [show o+4+j=o+(4+j) by omega];refine t (4+j) u ?_;rw [Eh,List.getElem?_append_right (by simp [Ae]),show 4+j-(Ae x).length=j by simp [Ae]];exact r
 ·have:N=[]:=List.length_eq_zero_iff.1 Qa;subst this;exact .inl rfl
theorem Z23:(prog.info? 158).map (λi=>(i.zero,i.size,i.bytes))=some (some (.agg #[.int .u64 0,.int .u64 0,.int .i64 0,.int .i64 0,.int .i64 0]),5,40):=Qb
def Gj (w:World) (q b:Option Addr) (m d m' c n:Nat) (R:List Ch) (M a:List Rt) (O:List Ch):Prop:=Rs w q m d M/\Rs w b m' c a/\Sorted M/\Sorted a/\O++ofS M a=R/\O.length=n
theorem Zws (p q:Option Addr) (c d:Nat) (A B:List Rt) (w:World) (hA:Row w p (rcs A)) (hB:Row w q (rcs B)) (sA:Sorted A) (sB:Sorted B) (hc:A.length<=c) (hd:B.length<=d) (la:A.length<=1100000) (lb:B.length<=1100000) :
 Calls prog 89 #[.slice p A.length c,.slice q B.length d] w λe w'=>Wl 158 w w' e (ofS A B):=by
 obtain ⟨R,hR⟩:=Q' (ofS A B);rw [<-hR];have HI:Hid (Gj w p q A.length c B.length d 0 R A B []):=hid ⟨⟨rfl,hc,hA⟩,⟨rfl,hd,hB⟩,sA,sB,hR.symm,rfl⟩;obtain ⟨j0,ak,aj,ai,ah⟩:=info_parts Z23;obtain ⟨a0,ay⟩:=Q' A.length;obtain ⟨b0,ax⟩:=Q' B.length;rw [<-ay] at HI la;rw [<-ax] at HI lb;rw [<-ay,<-ax];clear hA hB sA sB hc hd hR ay ax;go_enter func89,ntmps89;go_wp2;go_loopg [0,1,5] (a0+b0) (λkx s0 s1 s5 wr=>∃(m d m' X n c:Nat) (q q' p:Option Addr) (M M':List Rt) (O:List Ch),s0 = .slice q m d/\s1 = .slice q' m' X/\s5 = .slice p n c/\m+m'<=kx/\n+m+m'<=2200000 /\
  Hid (Gj w q q' m d m' X n R M M' O)/\Hid (wr.ownsRow w.heap.size 158 5 (.slice p n c) n (ccs O))/\Below w.heap.size w wr)
 case atStart=>exact ⟨a0,c,b0,d,0,0,p,q,none,A,B,[],rfl,rfl,rfl,Qa,Qa,HI,hid (World.ownsRow_nil _ _ _ _),Below.refl _ _⟩
 case round=>
  clear HI;obtain ⟨m,d,m',X,n,c,q,q',p,M,M',O,rfl,rfl,rfl,k1,k2,HT,L,a⟩:=hrel;obtain ⟨t1,t2,t3,t4,t5,t6⟩:=HT.o;clear HT;by_cases h0:m=0/\m'=0
  ·obtain ⟨rfl,rfl⟩:=h0;have e1:M=[]:=List.length_eq_zero_iff.1 t1.len;have e2:M'=[]:=List.length_eq_zero_iff.1 t2.len;subst e1 e2;rw [Wh,List.append_nil] at t5;subst t5 t6;clear t1 t2 t3 t4;go_wp2;go_ret;exact ⟨p,c,rfl,L.o,a⟩
  ·have hz:=a.size;have s:=λW (h:Below w.heap.size w W)=>Y2 q q' d X m m' M M' W (t1.row.below h) (t2.row.below h) t1.len t2.len;have U:=λW (h:Below w.heap.size w W)=>Y2 q' q X d m' m M' M W (t2.row.below h) (t1.row.below h) t2.len t1.len;cases e1:De M M' with
   | true=>
    have af:0<m:=by
     rcases M with _ | ⟨x,N⟩
     ·cases e1
     ·have:=t1.len;simp at this;omega
    obtain ⟨g,o,x,N,rfl,Z,x0,x1,x2,x3,rfl,a3,a2⟩:=t1.head af;rw [W6 t3 t4 e1] at t5;have hN:Sorted N:=(List.pairwise_cons.1 t3).2;rw [e1] at s;obtain ⟨⟨kh,kl,kn⟩,v⟩:=x;simp only at x0 x1 x2 x3 t5;have i:Hid (∀(q:Option Addr) dd,Rs w q (m-1) dd N->Gj w q q' (m-1) dd m' X (n+1) R N M' (O++[⟨⟨kh,kl,kn⟩,v,-1⟩])):=hid λq dd h=>⟨h,t2,hN,t4,by rw [<-t5,Qu];rfl,by rw [Qo,t6];rfl⟩;have b7:=hid s;have a8:=hid a3;have a7:=hid a2;have m0:(0:Int)<(m:Int):=Qa;have m1:(1:Int)<=(m:Int):=Qa;have b6:m<=d:=t1.le;have m2:(m:Int)<=(d:Int):=Qa;clear t1 t2 t3 t4 t5 t6 s U a3 a2 e1 hN;go_wp2_with fail;refine (b7.o _ a).mono ?_;rintro e w4 ⟨rfl,l⟩;have L:=hid (own_below L.o l);have a:=a.trans (l.mono hz);clear l hz b7;have z0:=(a.cell (p:=⟨g,o,none⟩) Z).trans x0;have z1:=(a.cell (p:=⟨g,o+1,none⟩) Z).trans x1;have z2:=(a.cell (p:=⟨g,o+2,none⟩) Z).trans x2;have z3:=(a.cell (p:=⟨g,o+3,none⟩) Z).trans x3;have ar:=Qm Z a.size;go_wp2_with fail;have Q:=Ad;refine wp_region_noPanic ?_;generalize E:NoPanic _=NQ;refine Jq [0,1,2,3,5,6,7] [4,8,9] [10,11,12] Qb (by rw [<-E];exact λ_ _ _ h=>h) Qb Qb ?_;simp only [Ag,List.filterMap_cons,List.filterMap_nil,List.getElem?_toArray,List.getElem?_cons_succ,List.getElem?_cons_zero];repeat (any_goals (quiet_step (fail)))
    refine wpQuiet_nil ?_;clear Q;intro w7 C;have F:=own_below L.o C;have t:=a.trans (C.mono a.size);have a9:=t.size;go_step;go_step;refine wpList_append_own_at _ rfl (.tmp 47) (.tmp 57) 143 rfl w.heap.size 158 j0 _ 5 40 underlying143 ak aj ai ah rfl Qd _ _ _ rfl (F.alloc _) ⟨w7.heap.size,0,none⟩ 1 1 (A4 ⟨⟨kh,kl,kn⟩,v,(-1)⟩) rfl rfl (Ke Qi Qi Qi Qi Qi) (by simp [A4,Value.oneCell']) Qk Qa Qe ?_;intro v8 w8 b Y _ _;obtain ⟨p8,c8,rfl⟩:=Aq b;have r:Below w.heap.size w w8:=(t.alloc a9 _).grown Y Qe (λj hj=>(F.lt j hj).1);have S:Hid (w8.ownsRow w.heap.size 158 5 (.slice p8 (n+1) c8) (n+1) (ccs (O++[⟨⟨kh,kl,kn⟩,v,(-1)⟩]))):=by rw [Kc,Kd];exact hid b
    clear b Y L F C a t;go_wp2_with fail;rw [<-E];refine NoPanic.normal ?_;clear E;by_cases a5:d=1
    ·subst a5;obtain rfl:m=1:=Qa;go_wp2;go_roundg m'
     case measure=>omega
     case rel=>exact ⟨0,0,m',X,n+1,c8,_,q',p8,N,M',_,rfl,rfl,rfl,Qa,Qa,hid (i.o _ _ (a7.o trivial)),S,r⟩
    ·go_wp2;go_roundg (m-1+m')
     case measure=>omega
     case rel=>exact ⟨m-1,d-1,m',X,n+1,c8,_,q',p8,N,M',_,rfl,rfl,rfl,Qa,Qa,hid (i.o _ _ a8.o),S,r⟩
   | false=>
    cases e2:De M' M with
    | true=>
     have af:0<m':=by
      rcases M' with _ | ⟨x,N⟩
      ·cases e2
      ·have:=t2.len;simp at this;omega
     obtain ⟨g,o,x,N,rfl,Z,x0,x1,x2,x3,rfl,a3,a2⟩:=t2.head af;rw [Zr6 t3 t4 e2] at t5;have hN:Sorted N:=(List.pairwise_cons.1 t4).2;rw [e1] at s;rw [e2] at U;obtain ⟨⟨kh,kl,kn⟩,v⟩:=x;simp only at x0 x1 x2 x3 t5;have i:Hid (∀(q':Option Addr) dd,Rs w q' (m'-1) dd N->Gj w q q' m d (m'-1) dd (n+1) R M N (O++[⟨⟨kh,kl,kn⟩,-1,v⟩])):=hid λq' dd h=>⟨t1,h,t3,hN,by rw [<-t5,Qu];rfl,by rw [Qo,t6];rfl⟩;have K:=hid s;have J:=hid U;have a8:=hid a3;have a7:=hid a2;have m0:(0:Int)<(m':Int):=Qa;have m1:(1:Int)<=(m':Int):=Qa;have b6:m'<=X:=t2.le;have m2:(m':Int)<=(X:Int):=Qa;clear t1 t2 t3 t4 t5 t6 s U a3 a2 e1 e2 hN;rcases Nat.eq_zero_or_pos m with b4 | b4
     ·subst b4;go_wp2_with fail;refine (K.o _ a).mono ?_;rintro e w4 ⟨rfl,l⟩;have L:=hid (own_below L.o l);have a:=a.trans (l.mono hz);have hz:=a.size;clear l K;go_wp2_with fail;refine (J.o _ a).mono ?_;rintro e w5 ⟨rfl,D⟩;have L:=hid (own_below L.o D);have a:=a.trans (D.mono hz);clear D hz J;have z0:=(a.cell (p:=⟨g,o,none⟩) Z).trans x0;have z1:=(a.cell (p:=⟨g,o+1,none⟩) Z).trans x1;have z2:=(a.cell (p:=⟨g,o+2,none⟩) Z).trans x2;have z3:=(a.cell (p:=⟨g,o+3,none⟩) Z).trans x3;have ar:=Qm Z a.size;go_wp2_with fail;have Q:=Ad;refine wp_region_noPanic ?_;generalize E:NoPanic _=NQ;refine Jq [0,1,2,3,5,6,7] [4,8,9] [10,11,12] Qb (by rw [<-E];exact λ_ _ _ h=>h) Qb Qb ?_;simp only [Ag,List.filterMap_cons,List.filterMap_nil,List.getElem?_toArray,List.getElem?_cons_succ,List.getElem?_cons_zero];repeat (any_goals (quiet_step (fail)))
      refine wpQuiet_nil ?_;clear Q;intro w7 C;have F:=own_below L.o C;have t:=a.trans (C.mono a.size);have a9:=t.size;go_step;go_step;refine wpList_append_own_at _ rfl (.tmp 65) (.tmp 75) 143 rfl w.heap.size 158 j0 _ 5 40 underlying143 ak aj ai ah rfl Qd _ _ _ rfl (F.alloc _) ⟨w7.heap.size,0,none⟩ 1 1 (A4 ⟨⟨kh,kl,kn⟩,(-1),v⟩) rfl rfl (Ke Qi Qi Qi Qi Qi) (by simp [A4,Value.oneCell']) Qk Qa Qe ?_;intro v8 w8 b Y _ _;obtain ⟨p8,c8,rfl⟩:=Aq b;have r:Below w.heap.size w w8:=(t.alloc a9 _).grown Y Qe (λj hj=>(F.lt j hj).1);have S:Hid (w8.ownsRow w.heap.size 158 5 (.slice p8 (n+1) c8) (n+1) (ccs (O++[⟨⟨kh,kl,kn⟩,(-1),v⟩]))):=by rw [Kc,Kd];exact hid b
      clear b Y L F C a t;go_wp2_with fail;rw [<-E];refine NoPanic.normal ?_;clear E;by_cases a5:X=1
      ·subst a5;obtain rfl:m'=1:=Qa;go_wp2;go_roundg 0
       case measure=>omega
       case rel=>exact ⟨0,d,0,0,n+1,c8,q,_,p8,M,N,_,rfl,rfl,rfl,Qa,Qa,hid (i.o _ _ (a7.o trivial)),S,r⟩
      ·go_wp2;go_roundg (0+(m'-1))
       case measure=>omega
       case rel=>exact ⟨0,d,m'-1,X-1,n+1,c8,q,_,p8,M,N,_,rfl,rfl,rfl,Qa,Qa,hid (i.o _ _ a8.o),S,r⟩
     ·have ba:(0:Int)<(m:Int):=Qa;go_wp2_with fail;refine (K.o _ a).mono ?_;rintro e w4 ⟨rfl,l⟩;have L:=hid (own_below L.o l);have a:=a.trans (l.mono hz);have hz:=a.size;clear l K;go_wp2_with fail;refine (J.o _ a).mono ?_;rintro e w5 ⟨rfl,D⟩;have L:=hid (own_below L.o D);have a:=a.trans (D.mono hz);clear D hz J;have z0:=(a.cell (p:=⟨g,o,none⟩) Z).trans x0;have z1:=(a.cell (p:=⟨g,o+1,none⟩) Z).trans x1;have z2:=(a.cell (p:=⟨g,o+2,none⟩) Z).trans x2;have z3:=(a.cell (p:=⟨g,o+3,none⟩) Z).trans x3;have ar:=Qm Z a.size;go_wp2_with fail;have Q:=Ad;refine wp_region_noPanic ?_;generalize E:NoPanic _=NQ;refine Jq [0,1,2,3,5,6,7] [4,8,9] [10,11,12] Qb (by rw [<-E];exact λ_ _ _ h=>h) Qb Qb ?_;simp only [Ag,List.filterMap_cons,List.filterMap_nil,List.getElem?_toArray,List.getElem?_cons_succ,List.getElem?_cons_zero];repeat (any_goals (quiet_step (fail)))
      refine wpQuiet_nil ?_;clear Q;intro w7 C;have F:=own_below L.o C;have t:=a.trans (C.mono a.size);have a9:=t.size;go_step;go_step;refine wpList_append_own_at _ rfl (.tmp 65) (.tmp 75) 143 rfl w.heap.size 158 j0 _ 5 40 underlying143 ak aj ai ah rfl Qd _ _ _ rfl (F.alloc _) ⟨w7.heap.size,0,none⟩ 1 1 (A4 ⟨⟨kh,kl,kn⟩,(-1),v⟩) rfl rfl (Ke Qi Qi Qi Qi Qi) (by simp [A4,Value.oneCell']) Qk Qa Qe ?_;intro v8 w8 b Y _ _;obtain ⟨p8,c8,rfl⟩:=Aq b;have r:Below w.heap.size w w8:=(t.alloc a9 _).grown Y Qe (λj hj=>(F.lt j hj).1);have S:Hid (w8.ownsRow w.heap.size 158 5 (.slice p8 (n+1) c8) (n+1) (ccs (O++[⟨⟨kh,kl,kn⟩,(-1),v⟩]))):=by rw [Kc,Kd];exact hid b
      clear b Y L F C a t;go_wp2_with fail;rw [<-E];refine NoPanic.normal ?_;clear E;by_cases a5:X=1
      ·subst a5;obtain rfl:m'=1:=Qa;go_wp2;go_roundg m
       case measure=>omega
       case rel=>exact ⟨m,d,0,0,n+1,c8,q,_,p8,M,N,_,rfl,rfl,rfl,Qa,Qa,hid (i.o _ _ (a7.o trivial)),S,r⟩
      ·go_wp2;go_roundg (m+(m'-1))
       case measure=>omega
       case rel=>exact ⟨m,d,m'-1,X-1,n+1,c8,q,_,p8,M,N,_,rfl,rfl,rfl,Qa,Qa,hid (i.o _ _ a8.o),S,r⟩
    | false=>
     rcases Zwd e1 e2 with ⟨h1,h2⟩ | ⟨x,N,y,N',rfl,rfl,ao⟩
     ·subst h1 h2;exact (h0 ⟨t1.len.symm,t2.len.symm⟩).elim
     ·rw [Z5x t3 t4 ao] at t5;have af:0<m:=by rw [<-t1.len];simp
      have b5:0<m':=by rw [<-t2.len];simp
      obtain ⟨g,o,x',N1,rfl,Z,-,-,-,x3,eN,a3,a2⟩:=t1.head af;injection eN with b3 az;subst b3 az;obtain ⟨gb,ob,y',N2,rfl,a4,y0,y1,y2,y3,eN,aq,ap⟩:=t2.head b5;injection eN with b3 az;subst b3 az;have hN:Sorted N:=(List.pairwise_cons.1 t3).2;have al:Sorted N':=(List.pairwise_cons.1 t4).2;rw [e1] at s;rw [e2] at U;have K:=hid s;have J:=hid U;have a8:=hid a3;have a7:=hid a2;have an:=hid aq;have am:=hid ap;obtain ⟨xk,u⟩:=x;obtain ⟨⟨kh,kl,kn⟩,v⟩:=y;simp only at x3 y0 y1 y2 y3 t5;have m0:(0:Int)<(m:Int):=Qa;have m1:(1:Int)<=(m:Int):=Qa;have b6:m<=d:=t1.le;have m2:(m:Int)<=(d:Int):=Qa;have m3:(0:Int)<(m':Int):=Qa;have m4:(1:Int)<=(m':Int):=Qa;have b9:m'<=X:=t2.le;have m5:(m':Int)<=(X:Int):=Qa;by_cases ae:u=v
      ·rw [if_pos ae,List.nil_append] at t5;have i:Hid (∀(q q':Option Addr) dd ad,Rs w q (m-1) dd N->Rs w q' (m'-1) ad N'->Gj w q q' (m-1) dd (m'-1) ad n R N N' O):=hid λq q' dd ad h h'=>⟨h,h',hN,al,t5,t6⟩;have nq:((u:Int) != v)=false:=by simpa using ae
       clear t1 t2 t3 t4 t5 t6 s U a3 a2 aq ap e1 e2 hN al ao ae;go_wp2_with fail;refine (K.o _ a).mono ?_;rintro e w4 ⟨rfl,l⟩;have L:=hid (own_below L.o l);have a:=a.trans (l.mono hz);have hz:=a.size;clear l K;go_wp2_with fail;refine (J.o _ a).mono ?_;rintro e w5 ⟨rfl,D⟩;have a1:=hid (own_below L.o D);have k:=a.trans (D.mono hz);clear D hz J L a;have p3:=(k.cell (p:=⟨g,o+3,none⟩) Z).trans x3;have p4:=(k.cell (p:=⟨gb,ob+3,none⟩) a4).trans y3;have au:=Qm Z k.size;have ag:=Qm a4 k.size;go_wp2_with fail;have Q:=Ad;refine Am Qb Qb ?_;repeat (any_goals (first|go_big_quiet_step (fail)|quiet_step (fail)))
       refine wpQuiet_nil ?_;clear Q;intro w3 a6;obtain ⟨aw,av⟩:=Ac a6;have a1:=hid (own_below a1.o a6);have k:=k.trans (a6.mono k.size);clear a6 aw av p3 p4 au ag;by_cases a5:d=1
       ·subst a5;obtain rfl:m=1:=Qa;by_cases ab:X=1
        ·subst ab;obtain rfl:m'=1:=Qa;go_wp2_with fail;have Q:=Ad;refine Am Qb Qb ?_;repeat (any_goals (first|go_big_quiet_step (fail)|quiet_step (fail)))
         refine wpQuiet_nil ?_;clear Q;intro w6 f;obtain ⟨ac,aa⟩:=Ac f;have I:=hid (own_below a1.o f);have z:=k.trans (f.mono k.size);go_wp2;go_roundg 0
         case measure=>omega
         case rel=>exact ⟨0,0,0,0,n,c,_,_,p,N,N',_,rfl,rfl,rfl,Qa,Qa,hid (i.o _ _ _ _ (a7.o trivial) (am.o trivial)),I,z⟩
        ·go_wp2_with fail;have Q:=Ad;refine Am Qb Qb ?_;repeat (any_goals (first|go_big_quiet_step (fail)|quiet_step (fail)))
         refine wpQuiet_nil ?_;clear Q;intro w6 f;obtain ⟨ac,aa⟩:=Ac f;have I:=hid (own_below a1.o f);have z:=k.trans (f.mono k.size);go_wp2;go_roundg (m'-1)
         case measure=>omega
         case rel=>exact ⟨0,0,m'-1,X-1,n,c,_,_,p,N,N',_,rfl,rfl,rfl,Qa,Qa,hid (i.o _ _ _ _ (a7.o trivial) an.o),I,z⟩
       ·by_cases ab:X=1
        ·subst ab;obtain rfl:m'=1:=Qa;go_wp2_with fail;have Q:=Ad;refine Am Qb Qb ?_;repeat (any_goals (first|go_big_quiet_step (fail)|quiet_step (fail)))
         refine wpQuiet_nil ?_;clear Q;intro w6 f;obtain ⟨ac,aa⟩:=Ac f;have I:=hid (own_below a1.o f);have z:=k.trans (f.mono k.size);go_wp2;go_roundg (m-1)
         case measure=>omega
         case rel=>exact ⟨m-1,d-1,0,0,n,c,_,_,p,N,N',_,rfl,rfl,rfl,Qa,Qa,hid (i.o _ _ _ _ a8.o (am.o trivial)),I,z⟩
        ·go_wp2_with fail;have Q:=Ad;refine Am Qb Qb ?_;repeat (any_goals (first|go_big_quiet_step (fail)|quiet_step (fail)))
         refine wpQuiet_nil ?_;clear Q;intro w6 f;obtain ⟨ac,aa⟩:=Ac f;have I:=hid (own_below a1.o f);have z:=k.trans (f.mono k.size);go_wp2;go_roundg (m-1+(m'-1))
         case measure=>omega
         case rel=>exact ⟨m-1,d-1,m'-1,X-1,n,c,_,_,p,N,N',_,rfl,rfl,rfl,Qa,Qa,hid (i.o _ _ _ _ a8.o an.o),I,z⟩
      ·rw [if_neg ae] at t5;have i:Hid (∀(q q':Option Addr) dd ad,Rs w q (m-1) dd N->Rs w q' (m'-1) ad N'->Gj w q q' (m-1) dd (m'-1) ad (n+1) R N N' (O++[⟨⟨kh,kl,kn⟩,u,v⟩])):=hid λq q' dd ad h h'=>⟨h,h',hN,al,by rw [<-t5,Qu],by rw [Qo,t6];rfl⟩;have nq:((u:Int) != v)=true:=by simpa using ae
       clear t1 t2 t3 t4 t5 t6 s U a3 a2 aq ap e1 e2 hN al ao ae;go_wp2_with fail;refine (K.o _ a).mono ?_;rintro e w4 ⟨rfl,l⟩;have L:=hid (own_below L.o l);have a:=a.trans (l.mono hz);have hz:=a.size;clear l K;go_wp2_with fail;refine (J.o _ a).mono ?_;rintro e w5 ⟨rfl,D⟩;have a1:=hid (own_below L.o D);have k:=a.trans (D.mono hz);clear D hz J L a;have p3:=(k.cell (p:=⟨g,o+3,none⟩) Z).trans x3;have p4:=(k.cell (p:=⟨gb,ob+3,none⟩) a4).trans y3;have au:=Qm Z k.size;have ag:=Qm a4 k.size;go_wp2_with fail;have Q:=Ad;refine Am Qb Qb ?_;repeat (any_goals (first|go_big_quiet_step (fail)|quiet_step (fail)))
       refine wpQuiet_nil ?_;clear Q;intro w3 a6;obtain ⟨aw,av⟩:=Ac a6;have a1:=hid (own_below a1.o a6);have k:=k.trans (a6.mono k.size);clear a6 aw av p3 p4 au ag;have L:=a1;have a:=k;have z0:=(a.cell (p:=⟨gb,ob,none⟩) a4).trans y0;have z1:=(a.cell (p:=⟨gb,ob+1,none⟩) a4).trans y1;have z2:=(a.cell (p:=⟨gb,ob+2,none⟩) a4).trans y2;have z3:=(a.cell (p:=⟨gb,ob+3,none⟩) a4).trans y3;have q3:=(a.cell (p:=⟨g,o+3,none⟩) Z).trans x3;have ar:=Qm a4 a.size;have b8:=Qm Z a.size;clear a1 k;go_wp2_with fail;have Q:=Ad;refine wp_region_noPanic ?_;generalize E:NoPanic _=NQ;refine Jq [0,1,2,3,5,6,7,9,10,11] [4,8,12,13] [14,15,16] Qb (by rw [<-E];exact λ_ _ _ h=>h) Qb Qb ?_;simp only [Ag,List.filterMap_cons,List.filterMap_nil,List.getElem?_toArray,List.getElem?_cons_succ,List.getElem?_cons_zero];repeat (any_goals (quiet_step (fail)))
       refine wpQuiet_nil ?_;clear Q;intro w7 C;have F:=own_below L.o C;have t:=a.trans (C.mono a.size);have a9:=t.size;go_step;go_step;refine wpList_append_own_at _ rfl (.tmp 23) (.tmp 37) 143 rfl w.heap.size 158 j0 _ 5 40 underlying143 ak aj ai ah rfl Qd _ _ _ rfl (F.alloc _) ⟨w7.heap.size,0,none⟩ 1 1 (A4 ⟨⟨kh,kl,kn⟩,u,v⟩) rfl rfl (Ke Qi Qi Qi Qi Qi) (by simp [A4,Value.oneCell']) Qk Qa Qe ?_;intro v8 w8 b Y _ _;obtain ⟨p8,c8,rfl⟩:=Aq b;have r:Below w.heap.size w w8:=(t.alloc a9 _).grown Y Qe (λj hj=>(F.lt j hj).1);have S:Hid (w8.ownsRow w.heap.size 158 5 (.slice p8 (n+1) c8) (n+1) (ccs (O++[⟨⟨kh,kl,kn⟩,u,v⟩]))):=by rw [Kc,Kd];exact hid b
       clear b Y L F C a t;go_wp2_with fail;rw [<-E];refine NoPanic.normal ?_;clear E;by_cases a5:d=1
       ·subst a5;obtain rfl:m=1:=Qa;by_cases ab:X=1
        ·subst ab;obtain rfl:m'=1:=Qa;go_wp2_with fail;have Q:=Ad;refine Am Qb Qb ?_;repeat (any_goals (first|go_big_quiet_step (fail)|quiet_step (fail)))
         refine wpQuiet_nil ?_;clear Q;intro w6 f;obtain ⟨ac,aa⟩:=Ac f;have I:=hid (own_below S.o f);have z:=r.trans (f.mono r.size);go_wp2;go_roundg 0
         case measure=>omega
         case rel=>exact ⟨0,0,0,0,(n+1),c8,_,_,p8,N,N',_,rfl,rfl,rfl,Qa,Qa,hid (i.o _ _ _ _ (a7.o trivial) (am.o trivial)),I,z⟩
        ·go_wp2_with fail;have Q:=Ad;refine Am Qb Qb ?_;repeat (any_goals (first|go_big_quiet_step (fail)|quiet_step (fail)))
         refine wpQuiet_nil ?_;clear Q;intro w6 f;obtain ⟨ac,aa⟩:=Ac f;have I:=hid (own_below S.o f);have z:=r.trans (f.mono r.size);go_wp2;go_roundg (m'-1)
         case measure=>omega
         case rel=>exact ⟨0,0,m'-1,X-1,(n+1),c8,_,_,p8,N,N',_,rfl,rfl,rfl,Qa,Qa,hid (i.o _ _ _ _ (a7.o trivial) an.o),I,z⟩
       ·by_cases ab:X=1
        ·subst ab;obtain rfl:m'=1:=Qa;go_wp2_with fail;have Q:=Ad;refine Am Qb Qb ?_;repeat (any_goals (first|go_big_quiet_step (fail)|quiet_step (fail)))
         refine wpQuiet_nil ?_;clear Q;intro w6 f;obtain ⟨ac,aa⟩:=Ac f;have I:=hid (own_below S.o f);have z:=r.trans (f.mono r.size);go_wp2;go_roundg (m-1)
         case measure=>omega
         case rel=>exact ⟨m-1,d-1,0,0,(n+1),c8,_,_,p8,N,N',_,rfl,rfl,rfl,Qa,Qa,hid (i.o _ _ _ _ a8.o (am.o trivial)),I,z⟩
        ·go_wp2_with fail;have Q:=Ad;refine Am Qb Qb ?_;repeat (any_goals (first|go_big_quiet_step (fail)|quiet_step (fail)))
         refine wpQuiet_nil ?_;clear Q;intro w6 f;obtain ⟨ac,aa⟩:=Ac f;have I:=hid (own_below S.o f);have z:=r.trans (f.mono r.size);go_wp2;go_roundg (m-1+(m'-1))
         case measure=>omega
         case rel=>exact ⟨m-1,d-1,m'-1,X-1,(n+1),c8,_,_,p8,N,N',_,rfl,rfl,rfl,Qa,Qa,hid (i.o _ _ _ _ a8.o an.o),I,z⟩
def Y3 (g:Nat) (lb:Array Value) (P:Rt->Bool) (B:Nat) (a:World):Prop:=
 ∀(W:World) (r:Rt),r.k.good->Below B a W->Calls prog g (#[rtA r]++lb) W λe w'=>e = .returned (.bool (P r))/\Below W.heap.size W w'
theorem Zkv {P:Program} (w:World) (t e ty:TypeId) (z:Value) (b:List Value) (m:Nat) (k:P.underlying t=some (.slice e)) (j:∀w,(zeroValue e).run P w = .ok z w) (i:(Builtin.zeroCells z.cells (m+1)).toList=b) (n:∀v∈b,v.oneCell'=true)
 (g o c:Nat) (a:Array Value) (h:TypeId) (l:w.heap[g]? = some (.cells a h (0,0))) (d:o+b.length<=a.size) :
 (Builtin.clear_ #[t] ty #[.slice (some ⟨g,o,none⟩) (m+1) c]).run P w = .ok (.tuple #[]) (w.setRow g (splice a.toList o b).toArray):=by
 have f:=run_storeCells_at P g o h b 0 a w l (by simpa using d) n;simp [Builtin.clear_,run_underlying k,j,i,f,splice]
theorem Zwg (m:Nat):∃a:List Value,(Builtin.zeroCells (Value.agg #[.int .u64 0,.int .u64 0,.int .i64 0,.int .i64 0]).cells m).toList=a/\a.length=m*4/\∀v∈a,v.oneCell'=true:=by
 refine ⟨_,rfl,?_,?_⟩
 ·rw [Array.length_toList,size_zeroCells];rfl
 ·intro v b;unfold Builtin.zeroCells at b;rw [Array.toList_map,List.mem_map] at b;obtain ⟨i,-,rfl⟩:=b;have e:(Value.agg #[.int .u64 0,.int .u64 0,.int .i64 0,.int .i64 0]).cells.size=4:=Qb;rw [e];rcases (by omega:i%4=0\/i%4=1\/i%4=2\/i%4=3) with h | h | h | h<;>rw [h]<;>simp [Value.cells,Value.oneCell']
theorem Zzg (g:Nat) (lb:Array Value) (P:Rt->Bool) (B:Nat) (y:World) (eg:∀args w,(callFunc g args).run prog w = .ok (.enter g args) w) (C:Y3 g lb P B y) (p:Option Addr) (c:Nat) (L:List Rt) (w:World) (A:Row w p (rcs L)) (z:∀x∈L,x.k.good)
 (t:Below B y w) (I:B<=w.heap.size) (U:L.length<=1000000) :
 Calls prog 149 #[.slice p L.length c,.func (.func g) #[] lb] w λe w'=>Below w.heap.size w w' /\
  ((∃i:Nat,i<L.length/\e = .returned (.int .i64 (i:Int))/\(L.take (i+1)).filter (λr => !P r)=L.take i)\/(e = .returned (.int .i64 (-1))/\L.filter (λr => !P r)=L)):=by
 have K:=hid C;have J:=hid A;have N:=hid z;clear C A z;go_enter func149,ntmps149;go_wp2;go_loopg [8] L.length (λE D wr=>∃i:Nat,D = .int .i64 (i:Int)/\L.length-i<=E/\i<=L.length/\Hid ((L.take i).filter (λr => !P r)=L.take i)/\Below w.heap.size w wr)
 case atStart=>exact ⟨0,rfl,Qa,Qa,hid rfl,Qg⟩
 case round=>
  obtain ⟨i,rfl,Y,X,m,f⟩:=hrel;by_cases hi:i<L.length
  ·obtain ⟨Z,o,rfl,F,Q,x1,x2,O⟩:=(J.o.below f).rt hi;have s:=K.o wr L[i] (N.o _ (Qp hi)) (t.trans (f.mono I));have b:L.take (i+1)=L.take i++[L[i]]:=List.take_succ_eq_append_getElem hi;have a:(L.take (i+1)).filter (λr => !P r)=L.take i++(if P L[i]=true then [] else [L[i]]):=by rw [b,List.filter_append,m.o];congr 1;cases h:P L[i]<;>simp [h]
   have S:(0:Int)<=(i:Int):=Qa;have R:(i:Int)<(L.length:Int):=Qa;generalize L[i]=r at *
   unfold rtA at s;have l:=hid s;clear s;cases n:P r with
   | true=>rw [n,if_pos rfl,List.append_nil] at a;rw [n] at l;have j:=hid a;clear a b m;go_wp2_with (go_at_fn g;refine l.o.mono ?_;rintro e w1 ⟨rfl,d⟩);go_ret;exact ⟨f.trans (d.mono f.size),.inl ⟨i,hi,rfl,j.o⟩⟩
   | false=>
    rw [n,if_neg Qf,<-b] at a;rw [n] at l;have j:=hid a;clear a b m;go_wp2_with (go_at_fn g;refine l.o.mono ?_;rintro e w1 ⟨rfl,d⟩);have q:=f.trans (d.mono f.size);clear l d f;go_wp2;go_roundg (L.length-(i+1))
    case measure=>omega
    case rel=>exact ⟨i+1,Qj,Qa,Qa,j,q⟩
  ·have u:Hid (L.filter (λr => !P r)=L):=hid (by have:=m.o;rwa [List.take_of_length_le Qa] at this);clear m;go_wp2;go_ret;exact ⟨f,.inr ⟨rfl,u.o⟩⟩
end Go.Proofs.YtpdphfgpdgadpaaGreat

import Derived.Test.YtpdphfgpdgadpaaGreatW10b
import Derived.Deep.DeepCutAuto
set_option linter.unusedSimpArgs false
set_option linter.unusedVariables false
set_option maxHeartbeats 2000000
set_option maxRecDepth 100000
open Go.Proofs.Tryz
namespace Go.Proofs.YtpdphfgpdgadpaaGreat
open Lib(hid)
section
open Go.RowKit Go.Sort M
def shF (w:Nat->Nat) (least left n j:Nat):Int:=(Bp w least left n j:Nat)
theorem q_mul (u left:Nat) (a:u<=1073741824) (b:left<=1073741824):wrap64 ((u:Int)*(left:Int))=(u:Int)*(left:Int):=by have h:u*left<=1152921504606846976:=Nat.mul_le_mul a b;rw [<-Int.natCast_mul];exact IntWalk.wrap64_in _ Qa
theorem q_div (u left a q:Nat) (b:u<=1073741824) (d:left<=1073741824) (c:q=u*left/a):wrap64 (Int.tdiv ((u:Int)*(left:Int)) (a:Int))=(q:Int):=by have h:u*left<=1152921504606846976:=Nat.mul_le_mul b d;have e:u*left/a<=u*left:=Nat.div_le_self _ _;rw [<-Int.natCast_mul,show Int.tdiv ((u*left:Nat):Int) (a:Int)=((u*left/a:Nat):Int) from rfl,<-c];exact IntWalk.wrap64_in _ Qa
theorem Zv4 (g h c d B n least left:Nat) (b:Nat->Nat) (w:World) (ap:g≠h) (hn:n<=200) (a3:∀j,b j<=1073741824) (hl:least<=65536) (a6:left<=1073741824) (h0:0<sumF b n)
 (p:w.ownsRow B 3 1 (.slice (some ⟨g,0,none⟩) n c) n (ics ((List.range n).map λ_=>(least:Int))))
 (C:w.ownsRow B 2 1 (.slice (some ⟨h,0,none⟩) n d) n (ics ((List.range n).map λj=>((b j:Nat):Int)))) :
 Calls prog 69 #[.slice (some ⟨g,0,none⟩) n c,.int .i64 left,.slice (some ⟨h,0,none⟩) n d,.int .i64 (sumF b n:Nat)] w λe w'=>e = .returned (.tuple #[]) /\
  w'.ownsRow B 3 1 (.slice (some ⟨g,0,none⟩) n c) n (ics ((List.range n).map (shF b least left n)))/\Below B w w':=by
 have a5:=Jd b left n h0;have N:=λj hj=>Z5r b left n j hj h0;have X:∀j,shF b least left n j=((least+cutP b left (sumF b n) j+deal b (left-sumF (cutP b left (sumF b n)) n) j:Nat):Int):=λj=>by unfold shF Bp G8;rw [if_neg Qa]
 have t:∀j,cutP b left (sumF b n) j=b j*left/sumF b n:=λ_=>rfl;obtain ⟨F,hF⟩:=Q' (shF b least left n);rw [<-hF] at X ⊢;generalize sumF b n=a at *
 generalize hP:cutP b left a=P at *
 have aq:((a:Int) == 0)=false:=Qe;have ah:=hid a5;have aa:=hid N;have ag:=hid X;have ai:=hid t;have a9:=hid a3;rw [<-Hc (λj=>((least+P j:Nat):Int))] at p;have ar:=(p.lt g rfl).1;clear a5 N X t a3 hP hF;go_enter func69,ntmps69;go_wp2_with fail;go_loopw [8,17] (λs8 U wr=>∃k:Nat,k<=n/\U = .int .i64 k/\s8 = .int .i64 (left-sumF P k:Nat) /\
  wr.ownsRow B 3 1 (.slice (some ⟨g,0,none⟩) n c) n (ics (mixL (λj=>((least+P j:Nat):Int)) (λ_=>(least:Int)) k n)) /\
  wr.ownsRow B 2 1 (.slice (some ⟨h,0,none⟩) n d) n (ics ((List.range n).map λj=>((b j:Nat):Int)))/\Below B w wr) (λ_ U _=>n-(intOf U).toNat)
 case atStart=>exact ⟨0,Nat.zero_le _,rfl,rfl,p,C,Below.refl _ _⟩
 case round=>
  clear p C;obtain ⟨k,hk,rfl,rfl,p,C,Q⟩:=hrel;have hz:=Q.size;by_cases A:k<n
  ·have hu:=a9.o k;have D:sumF P (k+1)=sumF P k+P k:=rfl;have E:=ah.o (k+1) Qa;have L:=aa.o k A;have t:=ai.o k;have f:=Ha (λj=>((least+P j:Nat):Int)) (λ_=>(least:Int)) k n;have s:=Mx (λj=>((b j:Nat):Int)) n k A;have r:=Tu (λj=>((least+P j:Nat):Int)) (λ_=>(least:Int)) k n k A;rw [if_neg Qa] at r;rw [D] at E;generalize sumF P k=S at D E ⊢;generalize P k=q at D E L t f;generalize b k=u at hu t s;have Q0:=hid (q_mul u left hu a6);have Q1:=hid (q_div u left a q hu a6 t);clear t;have am:S+q<=left:=Qa;have J:=hid f;have HS:=hid D;obtain ⟨c1,e1⟩:=Q' ((left-S:Nat):Int);have av:(q:Int)<=c1:=Qa;have au:c1<=1073741824:=Qa;have al:=hid e1;rw [<-e1];have a8:=p.lt g rfl;have a7:=C.lt h rfl;have af:=a8.2;have ae:=a7.2;have d0:wr.cell? ⟨g,k,none⟩=some (.int .i64 (least:Nat)):=(p.cellAt k Qa).trans r;have d1:wr.cell? ⟨h,k,none⟩=some (.int .i64 (u:Nat)):=(C.cellAt k Qa).trans s;have f0:=p.frozenAt k;clear f E e1 r s a8 a7;go_wp2_with (first|rw [Q0.o]|rw [Q1.o]|fail);go_roundw
   case rel=>
    have I:=p.stored k (.int .i64 (least+q:Nat));refine ⟨k+1,Qa,Qj,?_,?_,?_,?_⟩
    ·rw [HS.o];have:=al.o;refine congrArg _ ?_;omega
    ·have:=I.1;rw [F1,J.o] at this;exact this
    ·exact C.kept I.2 (.inr (by simp [Value.ownBlock];omega))
    ·go_grown
   case measure=>simp [intOf];omega
  ·have Y:k=n:=Qa;have ao:left-sumF P k<=left:=Nat.sub_le _ _;have O:left-sumF P k=ov b (left-sumF P n) 0:=by rw [Y];rfl
   have e1:mixL (λj=>((least+P j:Nat):Int)) (λ_=>(least:Int)) k n=mixL F (λj=>((least+P j:Nat):Int)) 0 n:=by rw [Y,Hb,Hc]
   rw [e1] at p;have ab:=hid O;have z:∀j,ov b (left-sumF P n) j<=left:=λj=>Qw (To _ _ _) (Nat.sub_le _ _);have a1:∀j,F j=((least+P j+deal b (left-sumF P n) j:Nat):Int):=ag.o;clear e1 Y O;generalize left-sumF P n=K at ab z a1;have ak:=hid a1;have aj:=hid z;clear a1 z;go_wp2_with fail;go_loopw [8,40] (λs8 R wr=>∃i:Nat,i<=n/\R = .int .i64 i/\s8 = .int .i64 (ov b K i:Nat) /\
    wr.ownsRow B 3 1 (.slice (some ⟨g,0,none⟩) n c) n (ics (mixL F (λj=>((least+P j:Nat):Int)) i n)) /\
    wr.ownsRow B 2 1 (.slice (some ⟨h,0,none⟩) n d) n (ics ((List.range n).map λj=>((b j:Nat):Int)))/\Below B w wr) (λ_ R _=>n-(intOf R).toNat)
   case atStart=>exact ⟨0,Nat.zero_le _,rfl,by rw [<-ab.o],p,C,Q⟩
   case round=>
    clear p C Q hz;obtain ⟨i,hi,rfl,rfl,p,C,Q⟩:=hrel;have hz:=Q.size;by_cases A:i<n
    ·have hu:=a9.o i;have L:=aa.o i A;have r:=Tu F (λj=>((least+P j:Nat):Int)) i n i A;have s:=Mx (λj=>((b j:Nat):Int)) n i A;have f:=Ha F (λj=>((least+P j:Nat):Int)) i n;have Z:=ak.o i;have ac:=aj.o i;have l:deal b K i=if 0<ov b K i/\0<b i then 1 else 0:=rfl
     have m:ov b K (i+1)=if 0<ov b K i/\0<b i then ov b K i-1 else ov b K i:=rfl
     rw [if_neg Qa] at r;have o:deal b K i=0->mixL F (λj=>((least+P j:Nat):Int)) i n=mixL F (λj=>((least+P j:Nat):Int)) (i+1) n:=λh=>Zyq (by rw [Z,h];rfl);rw [Z] at f;generalize ov b K i=v at m l ac ⊢;generalize deal b K i=dd at l f o;generalize P i=q at L f r;generalize b i=u at hu s l m;have af:=(p.lt g rfl).2;have ae:=(C.lt h rfl).2;have d0:wr.cell? ⟨g,i,none⟩=some (.int .i64 (least+q:Nat)):=(p.cellAt i Qa).trans r;have d1:wr.cell? ⟨h,i,none⟩=some (.int .i64 (u:Nat)):=(C.cellAt i Qa).trans s;have f0:=p.frozenAt i;obtain ⟨y,hy⟩:=Q' (least+q);rw [<-hy] at f d0;have an:y<=1073807360:=Qa;clear r s Z hy L;by_cases hv:0<v
     ·by_cases a4:0<u
      ·rw [if_pos ⟨hv,a4⟩] at l m;have HV:=hid m;rw [l] at f;have J:=hid f;clear f l m;go_wp2_with fail;go_roundw
       case rel=>
        have I:=p.stored i (.int .i64 (y+1:Nat));refine ⟨i+1,Qa,Qj,?_,?_,?_,?_⟩
        ·rw [HV.o];refine congrArg _ ?_;omega
        ·have:=I.1;rw [F1,J.o] at this;exact this
        ·exact C.kept I.2 (.inr (by simp [Value.ownBlock];omega))
        ·go_grown
       case measure=>simp [intOf];omega
      ·rw [if_neg (λx=>a4 x.2)] at l m;have HV:=hid m;have a2:=hid (o l);clear f o l m;go_wp2_with fail;go_roundw
       case rel=>exact ⟨i+1,Qa,Qj,by rw [HV.o],by rw [<-a2.o];exact p,C,Q⟩
       case measure=>simp [intOf];omega
     ·rw [if_neg (λx=>hv x.1)] at l m;have HV:=hid m;have a2:=hid (o l);clear f o l m;go_wp2_with fail;go_roundw
      case rel=>exact ⟨i+1,Qa,Qj,by rw [HV.o],by rw [<-a2.o];exact p,C,Q⟩
      case measure=>simp [intOf];omega
    ·have ad:i=n:=Qa;go_wp2;go_end0;rw [ad,Hb] at p;exact ⟨rfl,p,Q⟩
def shOk (total least:Int) (n:Nat):Prop:=1<=n/\n<=200/\1<=least/\least<=65536/\least*n<=total/\total<=1073741824
def shL (total least:Int) (X:List Nat):List Int:=(List.range X.length).map (shF (wtF X) least.toNat (total-least*X.length).toNat X.length)
theorem Tv (total least:Int) (X:List Nat):(shL total least X).length=X.length:=by simp [shL]
theorem Zuz {total least:Int} {n:Nat} (h:shOk total least n):∃l r:Nat,least=l/\total=((n*l+r:Nat):Int)/\1<=l/\l<=65536/\r<=1073741824/\n*l+r<=1073741824/\n*l<=1073741824/\(total-least*n).toNat=r:=by
 obtain ⟨-,-,f,d,b,c⟩:=h;obtain ⟨l,rfl⟩:=Qv (show 0<=least by omega);have e:(l:Int)*(n:Int)=((n*l:Nat):Int):=by rw [Int.natCast_mul,Int.mul_comm]
 rw [e] at b;obtain ⟨m,a⟩:=Q' (n*l);rw [<-a] at b;refine ⟨l,(total-m).toNat,rfl,?_,Qa,Qa,Qa,?_,?_,?_⟩
 ·rw [<-a];omega
 ·rw [<-a];omega
 ·rw [<-a];omega
 ·rw [e,<-a]
theorem Zqw (w:Nat->Nat) (least left n:Nat) (h:sumF w n=0) (c:1<=n) :
 ((List.range n).map λ_=>(least:Int)).set 0 ((least+left:Nat):Int)=(List.range n).map (shF w least left n):=by
 rw [<-Hc (shF w least left n)];have b:shF w least left n 0=((least+left:Nat):Int):=by unfold shF Bp;rw [if_pos h,if_pos rfl]
 rw [<-b,Ha,<-Hb (shF w least left n) (λ_=>(least:Int))];refine Zvo λj a => ?_;rw [if_pos a];by_cases e:j<0+1
 ·rw [if_pos e]
 ·rw [if_neg e];unfold shF Bp;rw [if_pos h,if_neg Qa]
theorem Zux (total least:Int) (p:Option Addr) (c:Nat) (n:Nat) (w:World) (k:n<=1000000000) (h:¬shOk total least n) :
 Calls prog 46 #[.int .i64 total,.int .i64 least,.slice p n c] w λe w'=>e = .returned (.tuple #[.slice none 0 0,.int .i64 1])/\Below w.heap.size w w':=by
 unfold shOk at h;by_cases f:n<1
 ·clear h;go_enter func46,ntmps46;go_wp2_with fail;go_ret2;exact ⟨rfl,Qg⟩
 ·by_cases d:200<n
  ·clear h;go_enter func46,ntmps46;go_wp2_with fail;go_ret2;exact ⟨rfl,Qg⟩
  ·by_cases j:least<1
   ·clear h;go_enter func46,ntmps46;go_wp2_with fail;go_ret2;exact ⟨rfl,Qg⟩
   ·by_cases i:65536<least
    ·clear h;go_enter func46,ntmps46;go_wp2_with fail;go_ret2;exact ⟨rfl,Qg⟩
    ·obtain ⟨l,rfl⟩:=Qv (show 0<=least by omega);have o:l*n<=65536*200:=Nat.mul_le_mul Qa Qa;have e:(l:Int)*(n:Int)=((l*n:Nat):Int):=by rw [Int.natCast_mul]
     rw [e] at h;have a:wrap64 ((l:Int)*(n:Int))=((l*n:Nat):Int):=by rw [e];exact IntWalk.wrap64_in _ Qa
     generalize l*n=m at *
     clear e;have b:=hid a;clear a;by_cases t0:total<(m:Int)
     ·clear h;go_enter func46,ntmps46;go_wp2_with (first|rw [b.o]|fail);go_ret2;exact ⟨rfl,Qg⟩
     ·have t1:1073741824<total:=Qa;clear h;go_enter func46,ntmps46;go_wp2_with (first|rw [b.o]|fail);go_ret2;exact ⟨rfl,Qg⟩
theorem Zuy (total least:Int) (p:Option Addr) (c:Nat) (X:List Nat) (w:World) (hX:Row w p (fcs X)) (h:shOk total least X.length) :
 Calls prog 46 #[.int .i64 total,.int .i64 least,.slice p X.length c] w λe w'=>∃q d,e = .returned (.tuple #[.slice q X.length d,.int .i64 0]) /\
  w'.ownsRow w.heap.size 3 1 (.slice q X.length d) X.length (ics (shL total least X))/\Below w.heap.size w w':=by
 unfold shL;have n1:=h.1;have n2:=h.2.1;obtain ⟨l,r,rfl,rfl,l1,l2,r1,t1,m1,e⟩:=Zuz h;rw [e,Int.toNat_natCast];clear h e;have E:=λQ S=>Zni p c X Q (hX.below (w':=Q) S) n1 n2;have y:=Mw X;have L:=Zqw (wtF X) l r X.length;generalize wtF X=R at *
 generalize hn:X.length=n at *
 clear hX;have a2:=B9 (P:=prog) (t:=48) underlying48 E2 n Qa Qk;have A:=λg h c d B Q a4 h0 f s=>Zv4 g h c d B n l r R Q a4 n2 y l2 r1 h0 f s;obtain ⟨m,hm⟩:=Q' (n*l);rw [<-hm] at t1 m1 ⊢;obtain ⟨T,hT⟩:∃T:Int,T=((m+r:Nat):Int):=⟨_,rfl⟩;rw [<-hT];have ae:T<=1073741824:=Qa;have ad:(m:Int)<=T:=Qa;have Z:(r:Int)=T-m:=Qa;have a8:T-(m:Int)<=1073741824:=Qa;simp only [Z] at A;have HR:=hid Z;have q0:wrap64 ((l:Int)*(n:Int))=(m:Int):=by rw [hm,show (l:Int)*(n:Int)=((n*l:Nat):Int) by rw [Int.natCast_mul,Int.mul_comm]];exact IntWalk.wrap64_in _ Qa
 have Q0:=hid q0;have N:=hid E;have C:=hid A;have D:=hid L;have af:=hid y;clear q0 E A L y hm hn hT Z;go_enter func46,ntmps46;go_wp2_with (first|rw [Q0.o]|fail);refine (N.o _ Qg).mono ?_;rintro e w1 ⟨U,d1,rfl,s,K⟩;have F:Below w.heap.size w w1:=K;have a7:=F.size;have z:=(s.lt U rfl);have aa:=z.1;have a9:=z.2;have b:(w1.alloc (.cells (madeCells #[.int .i64 0] n) 3)).ownsRow w.heap.size 3 1 (.slice (some ⟨w1.heap.size,0,none⟩) n n) n (ics (mixL (λ_=>(l:Int)) (λ_=>0) 0 n)):=by rw [Hc,<-Tt];exact World.ownsRow_lit _ _ n Qa Qk (by simp [madeCells])
 have o:(w1.alloc (.cells (madeCells #[.int .i64 0] n) 3)).ownsRow w.heap.size 2 1 (.slice (some ⟨U,0,none⟩) n d1) n (ics ((List.range n).map λj=>((R j:Nat):Int))):=s.alloc _;clear K s z N;obtain ⟨a,ha⟩:=Q' (sumF R n);rw [<-ha] at C D ⊢;clear ha;go_wp2_with (first|rw [Q0.o]|fail);go_loopw [55] (λx wr=>∃k:Nat,k<=n/\x = .int .i64 k /\
  wr.ownsRow w.heap.size 3 1 (.slice (some ⟨w1.heap.size,0,none⟩) n n) n (ics (mixL (λ_=>(l:Int)) (λ_=>0) k n)) /\
  wr.ownsRow w.heap.size 2 1 (.slice (some ⟨U,0,none⟩) n d1) n (ics ((List.range n).map λj=>((R j:Nat):Int)))/\Below w.heap.size w wr) (λx _=>n-(intOf x).toNat)
 case atStart=>exact ⟨0,Nat.zero_le _,rfl,b,o,Qg⟩
 case round=>
  clear b o F a2;obtain ⟨k,hk,rfl,f,s,S⟩:=hrel;have hz:=S.size;have ab:=(f.lt w1.heap.size rfl).2;by_cases a3:k<n
  ·have u:=Ha (λ_=>(l:Int)) (λ_=>0) k n;obtain ⟨v0,d0⟩:∃v,wr.cell? ⟨w1.heap.size,k,none⟩=some v:=⟨_,(f.cellAt k Qa).trans (Qr (by rw [Lh,G9];exact a3))⟩;have f0:=f.frozenAt k;have O:=hid u;clear u;go_wp2_with fail;go_roundw
   case rel=>
    have i:=f.stored k (.int .i64 (l:Nat));refine ⟨k+1,Qa,Qj,?_,?_,Qg⟩
    ·have:=i.1;rw [F1,O.o] at this;exact this
    ·exact s.kept i.2 (.inr (by simp [Value.ownBlock];omega))
   case measure=>simp [intOf];omega
  ·have J:k=n:=Qa;have e1:mixL (λ_=>(l:Int)) (λ_=>0) k n=(List.range n).map λ_=>(l:Int):=by rw [J,Hb]
   rw [e1] at f;have I:=Mx (λ_=>(l:Int)) n 0 Qa;have d0:wr.cell? ⟨w1.heap.size,0,none⟩=some (.int .i64 (l:Nat)):=(f.cellAt 0 Qa).trans I;have f0:=f.frozenAt 0;clear e1 J I;by_cases ha:a=0
   ·have a6:=hid (D.o ha n1);subst ha;clear D C;go_wp2_with fail;go_ret2;have i:=f.stored 0 (.int .i64 ((l:Int)+(T-m)));refine ⟨some ⟨w1.heap.size,0,none⟩,n,rfl,?_,Qg⟩;have:=i.1;rw [F1,<-HR.o,show (l:Int)+(r:Int)=((l+r:Nat):Int) from rfl,a6.o] at this;rw [<-HR.o];exact this
   ·have ac:((a:Int) == 0)=false:=Qe;go_wp2_with fail;refine (C.o w1.heap.size U n d1 w.heap.size _ Qa Qa f s).mono ?_;rintro e w2 ⟨rfl,a1,a5⟩;have Y:=S.trans a5;go_wp2;go_ret2;exact ⟨some ⟨w1.heap.size,0,none⟩,n,rfl,a1,Y⟩
end
section
open Go Go.RowKit Go.Sort M
def lenC (L:List Rt) (n:Nat):Nat:=L.countP λr=>decide (r.k.n=(n:Int))
def cntR (L:List Rt):List Int:=(List.range 129).map λn=>((lenC L n:Nat):Int)
theorem Je (L:List Rt):(cntR L).length=129:=by simp [cntR]
theorem Hd (L:List Rt) (n:Nat) (h:n<(cntR L).length):(cntR L)[n]=((lenC L n:Nat):Int):=by simp [cntR]
theorem Z6b (L:List Rt) (n:Nat):lenC L n<=L.length:=List.countP_le_length
theorem My (L:List Rt) (r:Rt) (n:Nat):lenC (L++[r]) n=if r.k.n=(n:Int) then lenC L n+1 else lenC L n:=by
 unfold lenC;rw [List.countP_append,List.countP_singleton];by_cases h:r.k.n=(n:Int)
 ·simp [h]
 ·simp [h]
theorem Z64 (L:List Rt) (r:Rt) (n:Nat) (h:r.k.n=(n:Int)) (b:n<129):cntR (L++[r])=(cntR L).set n ((lenC L n+1:Nat):Int):=by
 refine List.ext_getElem (by simp [cntR]) λj a d => ?_;rw [Hd,List.getElem_set];have c:j<129:=by rw [Je] at a;exact a
 by_cases e:n=j
 ·subst e;rw [if_pos rfl,My,if_pos h]
 ·rw [if_neg e,Hd,My,if_neg Qa]
theorem Tw (L:List Rt) (r:Rt) (h:¬(0<=r.k.n/\r.k.n<129)):cntR (L++[r])=cntR L:=by
 refine List.ext_getElem (by simp [cntR]) λj a c => ?_;have b:j<129:=by rw [Je] at a;exact a
 rw [Hd,Hd,My,if_neg Qa]
theorem Z0p:cntR []=(List.range 129).map λ_=>0:=rfl
theorem Zyv (n:Nat):(madeCells #[.int .i64 0] n).toList=ics ((List.range n).map λ_=>(0:Int)):=by
 apply List.ext_getElem?;intro j;by_cases h:j<n
 ·simp [madeCells,ics,h,Nat.mod_one]
 ·rw [List.getElem?_eq_none (by simp [madeCells];omega),List.getElem?_eq_none (by simp [ics];omega)]
theorem Z25 (L:List Int) (n:Nat) (x:Int):ics (L.set n x)=(ics L).set n (.int .i64 x):=by unfold ics;rw [List.map_set]
theorem Z2o:(madeCells #[.int .i64 0] 129).toList=ics (cntR []):=by rw [Z0p,Zyv]
theorem Z63 (w a:World) (t:TypeId) (b:w.heap.size<=a.heap.size):(a.alloc (.cells (madeCells #[.int .i64 0] 129) t)).ownsRow w.heap.size t 1 (.slice (some ⟨a.heap.size,0,none⟩) 129 129) 129 (ics (cntR [])):=by rw [<-Z2o];exact World.ownsRow_lit _ _ 129 Qa Qk (by simp [madeCells])
theorem Z2n:∀w,(Instr.makeSlice 48 (.int .i64 129) (.int .i64 129)).run prog w = .ok (.slice (some ⟨w.heap.size,0,none⟩) 129 129) (w.alloc (.cells (madeCells #[.int .i64 0] 129) 3)):=λw=>B9 underlying48 E2 129 Qd (by unfold maxLen;decide) w
theorem Z3u (p:Option Addr) (c:Nat) (L:List Rt) (w:World) (I:Row w p (rcs L)) (Y:L.length<=1000000) :
 Calls prog 16 #[.slice p L.length c] w λe w'=>∃q d,e = .returned (.slice q 129 d)/\129<=d/\w'.ownsRow w.heap.size 3 1 (.slice q 129 d) 129 (ics (cntR L))/\Below w.heap.size w w':=by
 have D:=hid I;have b:=Z63 w w 3 (Qn _);have O:=Z2n;clear I;go_enter func16,ntmps16;go_wp2;go_loopg [10] L.length (λK A wr=>∃(i:Nat),A = .int .i64 (i:Int)/\L.length-i<=K/\i<=L.length/\Hid (wr.ownsRow w.heap.size 3 1 (.slice (some ⟨w.heap.size,0,none⟩) 129 129) 129 (ics (cntR (L.take i))))/\Below w.heap.size w wr)
 case atStart=>exact ⟨0,rfl,Qa,Qa,hid b,Qg⟩
 case round=>
  clear b;obtain ⟨i,rfl,h1,Z,m,l⟩:=hrel;by_cases hi:i<L.length
  ·obtain ⟨g,o,rfl,t,z,x1,x2,y⟩:=D.o.rt hi;have z:=(l.cell (p:=⟨g,o+i*4,none⟩) t).trans z;have x1:=(l.cell (p:=⟨g,o+i*4+1,none⟩) t).trans x1;have x2:=(l.cell (p:=⟨g,o+i*4+2,none⟩) t).trans x2;have y:=(l.cell (p:=⟨g,o+i*4+3,none⟩) t).trans y;have R:=Qm t l.size;have N:=l.size;have X:(0:Int)<=(i:Int):=Qa;have U:(i:Int)<(L.length:Int):=Qa;have a:L.take (i+1)=L.take i++[L[i]]:=List.take_succ_eq_append_getElem hi;obtain ⟨r,F⟩:=Q' (L[i]);rw [<-F] at z x1 x2 y a;clear F;by_cases s:0<=r.k.n
   ·by_cases B:r.k.n<129
    ·skip;obtain ⟨k,C⟩:=Qv s;have j:k<129:=Qa;have J:=hid (Z64 (L.take i) r k C j);have h:=Pu (cntR (L.take i)) k (by rw [Je];exact j);rw [Hd] at h;have x:=Z6b (L.take i) k;rw [Qs] at x;obtain ⟨u,E⟩:=Q' (lenC (L.take i) k);rw [<-E] at h x J;rw [C] at x2 s B;clear C;have Q:=(m.o.lt w.heap.size rfl).2;have d0:wr.cell? ⟨w.heap.size,k,none⟩=some (.int .i64 (u:Int)):=(m.o.cellAt k Qa).trans h;have f0:=m.o.frozenAt k;have S:wrap64 ((u:Int)+1)=(u:Int)+1:=IntWalk.wrap64_in _ Qa;have f:=hid a;clear h E a j;go_wp2;go_roundg (L.length-(i+1))
     case measure=>omega
     case rel=>refine ⟨i+1,Qj,Qa,Qa,hid ?_,Qg⟩;have:=(m.o.stored k (.int .i64 ((u:Int)+1))).1;rw [f.o,J.o,Z25];exact this.alloc _
    ·have f:Hid (cntR (L.take (i+1))=cntR (L.take i)):=by rw [a];exact hid (Tw _ r Qa)
     clear a;go_wp2;go_roundg (L.length-(i+1))
     case measure=>omega
     case rel=>exact ⟨i+1,Qj,Qa,Qa,hid (by rw [f.o];exact m.o.alloc _),Qg⟩
   ·have f:Hid (cntR (L.take (i+1))=cntR (L.take i)):=by rw [a];exact hid (Tw _ r Qa)
    clear a;go_wp2;go_roundg (L.length-(i+1))
    case measure=>omega
    case rel=>exact ⟨i+1,Qj,Qa,Qa,hid (by rw [f.o];exact m.o.alloc _),Qg⟩
  ·go_wp2;go_ret;have:=m.o;rw [List.take_of_length_le Qa] at this;exact ⟨_,_,rfl,Qa,this,l⟩
end
section
def exO (C:List Int) (st wd:Nat):Nat->Nat->Option Wy
 | 0,a=>if a=wd then some (0,[]) else none
 | n+1,a=>fdO (λk=>cdO C a (a+1+k) (exO C st wd n (a+1+k))) none (min (a+st) wd-a)
def IsEx (C:List Int) (st wd n a:Nat) (r:Option Wy):Prop:=
 (∀x,r=some x->okC st wd a x.2=true/\x.2.length=n/\x.1=coC C a x.2)/\∀L,okC st wd a L=true->L.length=n->topO r (coC C a L,L)
theorem Mz {C:List Int} {st wd n a K:Nat} {x:Wy} (h:fdO (λk=>cdO C a (a+1+k) (exO C st wd n (a+1+k))) none K=some x) :
 ∃j y,j<K/\exO C st wd n (a+1+j)=some y/\x=(ptC C a (a+1+j)+y.1,(a+1+j)::y.2):=by
 rcases Mn (λk=>cdO C a (a+1+k) (exO C st wd n (a+1+k))) none K with b | ⟨j,d,b⟩
 ·rw [h] at b;cases b
 ·rw [h] at b;unfold cdO at b;cases c:exO C st wd n (a+1+j) with
  | none=>rw [c] at b;cases b
  | some y=>rw [c] at b;injection b with b;exact ⟨j,y,d,c,b⟩
theorem Dd (C:List Int) (st wd:Nat):∀n a,IsEx C st wd n a (exO C st wd n a)
 | 0,a=>by
  unfold exO;by_cases h:a=wd
  ·rw [if_pos h];refine ⟨λx c => ?_,λL e d => ?_⟩
   ·injection c with c;subst c;exact ⟨Cs.2 h,rfl,rfl⟩
   ·obtain rfl:L=[]:=List.length_eq_zero_iff.1 Qa;exact Mk _
  ·rw [if_neg h];refine ⟨λx c=>(by cases c),λL e d => ?_⟩;obtain rfl:L=[]:=List.length_eq_zero_iff.1 Qa;exact absurd (Cs.1 e) h
 | n+1,a=>by
  have i:=Dd C st wd n;rw [exO];obtain ⟨K,q⟩:=Q' (min (a+st) wd-a);rw [<-q];refine ⟨λx c => ?_,λL e d => ?_⟩
  ·obtain ⟨j,y,s,f,rfl⟩:=Mz c;obtain ⟨k1,r,l⟩:=(i (a+1+j)).1 y f;exact ⟨Ce.2 ⟨Qa,Qa,k1⟩,Qe,by show ptC C a (a+1+j)+y.1=_;rw [l];rfl⟩
  ·cases L with
   | nil=>simp at d
   | cons b L=>
    have h:=Ce.1 e;have o:=Ep L b h.2.2;obtain ⟨x,c,f⟩:=(i b).2 L h.2.2 (by simp at d;omega);obtain ⟨y,m,p⟩:=Mo (λk=>cdO C a (a+1+k) (exO C st wd n (a+1+k))) none (ptC C a b+x.1,b::x.2) K (b-a-1) Qa (by
     show cdO C a (a+1+(b-a-1)) (exO C st wd n (a+1+(b-a-1)))=_
     rw [show a+1+(b-a-1)=b by omega,c]
     rfl)
    exact ⟨y,m,Ja (by rw [coC,S1];exact f) p⟩
def chB:Option Wy->Option Wy->Bool
 | none,_=>false
 | some _,none=>true
 | some x,some y=>decide (x.1<y.1)
theorem Tx (n x:Option Wy) (h:∀y z,n=some y->x=some z->z.1=y.1->btW z y=false):pkO n x=if chB x n then x else n:=by
 unfold pkO;congr 1;cases x with
 | none=>rfl
 | some z=>
  cases n with
  | none=>rfl
  | some y=>
   show (btW z y=true)=(decide (z.1<y.1)=true);by_cases e:z.1=y.1
   ·rw [h y z rfl rfl e,decide_eq_false Qa]
   ·unfold btW;rw [if_neg e]
theorem Z6q (C:List Int) (st wd n a i:Nat):fdO (λk=>cdO C a (a+1+k) (exO C st wd n (a+1+k))) none (i+1) =
 if chB (cdO C a (a+1+i) (exO C st wd n (a+1+i))) (fdO (λk=>cdO C a (a+1+k) (exO C st wd n (a+1+k))) none i) then cdO C a (a+1+i) (exO C st wd n (a+1+i)) else fdO (λk=>cdO C a (a+1+k) (exO C st wd n (a+1+k))) none i:=by
 rw [fdO];refine Tx _ _ λy z e b f => ?_;obtain ⟨j,d,o,h,rfl⟩:=Mz e;unfold cdO at b;cases c:exO C st wd n (a+1+i) with
 | none=>rw [c] at b;cases b
 | some z'=>rw [c] at b;injection b with b;subst b;have m:=((Dd C st wd n _).1 _ h).2.1;have l:=((Dd C st wd n _).1 _ c).2.1;unfold btW;rw [if_pos f,if_pos (by simp only [Qt];omega)];show lexL ((a+1+i)::z'.2) ((a+1+j)::d.2)=false;unfold lexL;rw [if_neg Qa];exact decide_eq_false Qa
def bsI (C:List Int) (st wd a:Nat):Nat->Nat
 | 0=>0
 | m+1=>if chB (exO C st wd (m+1) a) (exO C st wd (bsI C st wd a m) a) then m+1 else bsI C st wd a m
theorem Jf (C:List Int) (st wd a:Nat):∀m,bsI C st wd a m<=m
 | 0=>Qn _
 | m+1=>by rw [bsI];have:=Jf C st wd a m;split<;>omega
theorem Ty (C:List Int) (st wd a:Nat):∀m,E6 C st wd m a (exO C st wd (bsI C st wd a m) a)
 | 0=>⟨λx b=>have h:=(Dd C st wd 0 a).1 x b;⟨h.1,by have:=h.2.1;omega,h.2.2⟩,λL d p=>(Dd C st wd 0 a).2 L d Qa⟩
 | m+1=>by
  have j:=Ty C st wd a m;have o:=Jf C st wd a m;have h:pkO (exO C st wd (bsI C st wd a m) a) (exO C st wd (m+1) a)=exO C st wd (bsI C st wd a (m+1)) a:=by
   rw [Tx _ _ λy z c l q => ?_]
   ·rw [bsI];split<;>rfl
   ·have u:=((Dd C st wd _ _).1 _ c).2.1;have t:=((Dd C st wd _ _).1 _ l).2.1;unfold btW;rw [if_pos q,if_neg Qa];exact decide_eq_false Qa
  rw [<-h];refine ⟨λx b => ?_,λL d p => ?_⟩
  ·rcases S3 (exO C st wd (bsI C st wd a m) a) (exO C st wd (m+1) a) with i | i
   ·rw [i] at b;obtain ⟨k1,k,f⟩:=j.1 x b;exact ⟨k1,Qa,f⟩
   ·rw [i] at b;obtain ⟨k1,k,f⟩:=(Dd C st wd (m+1) a).1 x b;exact ⟨k1,Qa,f⟩
  ·by_cases e:L.length=m+1
   ·obtain ⟨x,b,s⟩:=(Dd C st wd (m+1) a).2 L d e;obtain ⟨y,c,r⟩:=S2 (n:=exO C st wd (bsI C st wd a m) a) (v:=x);rw [<-b] at c;exact ⟨y,c,Ja s r⟩
   ·exact Ml (j.2 L d Qa)
structure Wc where
 c:Nat
 f:Nat
 t:Bool
def wyE:Option Wy->Wc
 | none=>⟨0,0,false⟩
 | some (c,L)=>⟨c,L.headD 0,true⟩
theorem wyE_t (r:Option Wy):(wyE r).t=r.isSome:=by cases r<;>rfl
def chW (x y:Wc):Bool:=x.t&&(!y.t||decide (x.c<y.c))
theorem Tz (x y:Option Wy):chW (wyE x) (wyE y)=chB x y:=by
 cases x with
 | none=>rfl
 | some x=>cases y<;>rfl
def canW (p b:Nat) (x:Wc):Wc:=⟨p+x.c,b,x.t⟩
theorem T0 (C:List Int) (a b:Nat) (x:Wy):canW (ptC C a b) b (wyE (some x))=wyE (cdO C a b (some x)):=rfl
theorem Z65 (C:List Int) (a b:Nat) (r s:Option Wy):chW (canW (ptC C a b) b (wyE r)) (wyE s)=chB (cdO C a b r) s:=by
 cases r with
 | none=>rfl
 | some x=>rw [T0,Tz]
theorem T2 (C:List Int) (st wd n a i:Nat) (w c:Wc) (b:w=wyE (fdO (λk=>cdO C a (a+1+k) (exO C st wd n (a+1+k))) none i)) (d:c=canW (ptC C a (a+1+i)) (a+1+i) (wyE (exO C st wd n (a+1+i)))) :
 wyE (fdO (λk=>cdO C a (a+1+k) (exO C st wd n (a+1+k))) none (i+1))=if chW c w then c else w:=by
 rw [Z6q,b,d,Z65];cases e:exO C st wd n (a+1+i) with
 | none=>rfl
 | some x=>rw [T0];split<;>rfl
theorem M0 (C:List Int) (a b:Nat) (h:b<=a+20):ptC C a b<=capS (b-a):=by
 have:∀(f:Nat->Nat) k,(∀n,n<k->f n<=1099511627776)->smF f k<=capS k:=by
  intro f k
  induction k with
  | zero=>intro _;exact Nat.zero_le _
  | succ k ih=>intro c;exact Sr (ih λn d=>c n Qa) (c k Qa)
 refine this _ _ λn d => ?_;have i:=Sm C (a+1+n);have e:2^(b-(a+1+n))<=2^20:=Nat.pow_le_pow_right Qd Qa;exact Qw (Nat.mul_le_mul i e) Qd
theorem Z3y (m n:Nat):capS m+capS n=capS (m+n):=by unfold capS;rw [Nat.add_mul]
theorem T4 (C:List Int) {st wd:Nat} (d:st<=20):∀(L:List Nat) (a:Nat),okC st wd a L=true->coC C a L<=capS (wd-a)
 | [],_,_=>Nat.zero_le _
 | b::L,a,h=>by rw [Ce] at h;have i:=M0 C a b Qa;have f:=T4 C d L b h.2.2;have e:=Ep L b h.2.2;have c:=Z3y (b-a) (wd-b);rw [show b-a+(wd-b)=wd-a by omega] at c;rw [coC,<-c];exact Nat.add_le_add i f
theorem T5 (C:List Int) {st wd:Nat} (d:st<=20) (n a:Nat):(wyE (exO C st wd n a)).c<=capS (wd-a):=by
 cases h:exO C st wd n a with
 | none=>exact Nat.zero_le _
 | some x=>obtain ⟨k1,-,b⟩:=(Dd C st wd n a).1 x h;show x.1<=_;rw [b];exact T4 C d _ _ k1
theorem Z6r {C:List Int} {st wd n a:Nat} {c:Nat} {L:List Nat} (h:exO C st wd (n+1) a=some (c,L)) :
 ∃b M l,L=b::M/\(wyE (exO C st wd (n+1) a)).f=b/\exO C st wd n b=some (l,M)/\a<b/\b<=wd:=by
 have d:=h;rw [exO] at d;obtain ⟨j,y,m,i,e⟩:=Mz d;injection e with o k;subst k;exact ⟨a+1+j,y.2,y.1,rfl,by rw [h];rfl,i,Qa,Qa⟩
theorem Z6p {C:List Int} {st wd a:Nat} {c:Nat} {L:List Nat} (h:exO C st wd 0 a=some (c,L)):L=[]:=by have:=((Dd C st wd 0 a).1 _ h).2.1;exact List.length_eq_zero_iff.1 this
theorem Z8q (C:List Int) (st wd m a:Nat) (ha:a<=wd):exO C st wd (bsI C st wd a (min m (wd-a))) a=bst C st wd (min m wd) a:=
 Z54 ((Ty C st wd a (min m (wd-a))).cap (wd-a) (Qn _)) ((Mp C st wd (min m wd) a).cap wd Qa)
end
end Go.Proofs.YtpdphfgpdgadpaaGreat

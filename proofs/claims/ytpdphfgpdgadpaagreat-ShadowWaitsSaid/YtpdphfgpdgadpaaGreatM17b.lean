import Derived.Test.YtpdphfgpdgadpaaGreatM14b
import Derived.Deep.LoopGhost
set_option linter.unusedSimpArgs false
set_option linter.unusedVariables false
set_option maxHeartbeats 2000000
set_option maxRecDepth 100000
open Go.Proofs.Tryz
namespace Go.Proofs.YtpdphfgpdgadpaaGreat
open Lib(hid)
section
open M
theorem I9 {D b:Nat->Option Int} {low high a high':Int}:∀{f:Nat},(∀m,m<f->((low<(m:Int)/\(m:Int)<=high/\(D m).isSome=true)↔(a<(m:Int)/\(m:Int)<=high'/\(b m).isSome=true)))->As D low high f=As b a high' f
 | 0,_=>rfl
 | f+1,h=>by
  have d:=I9 (f:=f) λm e=>h m Qa;unfold As;by_cases c:low<(f:Int)/\(f:Int)<=high/\(D f).isSome=true
  ·rw [if_pos c,if_pos ((h f Qa).1 c)]
  ·rw [if_neg c,if_neg (λg=>c ((h f Qa).2 g)),d]
theorem Zv9 {D:Nat->Option Int} {low a high:Int} {f b:Nat} (h:low<=a) (e:As D a high f=some b):As D low high f=some b:=by obtain ⟨k,j,i⟩:=D5.1 e;refine D5.2 ⟨k,⟨Qa,j.2⟩,λm c d g=>i m c d ⟨Qa,g.2⟩⟩
theorem Zwa {D:Nat->Option Int} {low d high high':Int} {f:Nat} (j:∀m:Nat,m<f->((m:Int)<=high'↔(m:Int)<=high/\(m:Int)<=d)) (e:As D d high f=none):As D low high f=As D low high' f:=by
 have h:=Gr.1 e;refine I9 λm i=>⟨λ⟨a,b,c⟩=>⟨a,?_,c⟩,λ⟨a,b,c⟩=>⟨a,((j m i).1 b).1,c⟩⟩;refine (j m i).2 ⟨b,?_⟩;by_cases g:d<(m:Int)
 ·exact absurd ⟨g,b,c⟩ (h m i)
 ·omega
theorem Zrz {k j bh f m m':Nat} (a:W64 k) (b:W64 j) (c:W64 bh) (d:W64 f) (q:m<=128):cutK k j m=cutK bh f m'↔m=m'/\m<=Bi k j bh f:=by
 constructor
 ·intro e;have r:m=m':=by unfold cutK at e;injection e with _ _ e;exact Int.ofNat.inj e
  subst r;refine ⟨rfl,?_⟩;unfold cutK at e;injection e with t s _;have n:=(Mg a b c d q).2 ⟨t,s⟩;by_cases h:m<=Bi k j bh f
  ·exact h
  ·have l:Bi k j bh f<m:=Qa;have o:=Zv k j bh f a b c d Qa;have:=congrArg (λL=>L[Bi k j bh f]?) n;simp only [Qr (show Bi k j bh f<(Cp k j m).length by rw [Cq];exact l),Qr (show Bi k j bh f<(Cp bh f m).length by rw [Cq];exact l),Fw l] at this;exact absurd (Option.some.inj this) o
 ·rintro ⟨rfl,h⟩;have n:Cp k j m=Cp bh f m:=by refine List.ext_getElem (by rw [Cq,Cq]) λi p u => ?_;rw [Cq] at p;rw [Fw p,Fw p];exact Zu k j bh f a b c d i Qa
  have:=(Mg a b c d q).1 n;unfold cutK;rw [this.1,this.2]
end
section
def atC (C:List Int) (n:Nat):Nat:=(max 0 (min (C.getD n 0) 1048576)).toNat
theorem Sm (C:List Int) (n:Nat):atC C n<=1048576:=by unfold atC;omega
theorem Z8w (C:List Int) (n:Nat) (h:n<C.length):atC C n=(max 0 (min C[n] 1048576)).toNat:=by unfold atC;simp [h]
theorem Sn (C:List Int) (n:Nat) (h:C.length<=n):atC C n=0:=by unfold atC;rw [List.getD_eq_getElem?_getD,List.getElem?_eq_none h];rfl
def Cd:Int->List Int->Bool
 | _,[]=>true
 | low,a::L=>decide (low<a)&&decide (a<=128)&&Cd a L
theorem So:∀(L:List Int) (low:Int),Cd low L=true->∀a∈L,low<a/\a<=128
 | [],_,_,a,h=>by cases h
 | b::L,low,h,a,ha=>by
  simp only [Cd,Qq,decide_eq_true_eq] at h;rcases List.mem_cons.1 ha with rfl | ha
  ·exact h.1
  ·have:=So L b h.2 a ha;omega
def near (L:List Int) (n:Nat):List Int:=L.dropWhile λa=>decide (a<(n:Int))
theorem Fz (a:Int) (L:List Int) (n:Nat):near (a::L) n=if a<(n:Int) then near L n else a::L:=by unfold near;rw [List.dropWhile_cons];simp
theorem Mi:∀(L:List Int) (m n:Nat),m<=n->near (near L m) n=near L n
 | [],_,_,_=>rfl
 | a::L,m,n,h=>by
  rw [Fz a L m];by_cases b:a<(m:Int)
  ·rw [if_pos b,Fz a L n,if_pos Qa,Mi L m n h]
  ·rw [if_neg b]
theorem Sp:∀(L:List Int) (n:Nat) (a:Int) (M:List Int),near L n=a::M->(n:Int)<=a/\a∈L
 | [],_,_,_,h=>by cases h
 | b::L,n,a,M,h=>by
  rw [Fz] at h;by_cases c:b<(n:Int)
  ·rw [if_pos c] at h;have:=Sp L n a M h;exact ⟨this.1,List.mem_cons_of_mem _ this.2⟩
  ·rw [if_neg c] at h;injection h with d e;subst d;exact ⟨Qa,List.mem_cons_self⟩
def Cr (M:List Int) (n x:Nat):Option Nat:=
 match M with
 | []=>none
 | a::_=>if 20<a-(n:Int) then none else some (x*2^(a-(n:Int)).toNat)
theorem Z1f {M:List Int} {n x t:Nat} (h:Cr M n x=some t) (c:x<=1048576):t<=1099511627776:=by
 cases M with
 | nil=>cases h
 | cons a M=>
  simp only [Cr] at h;by_cases b:20<a-(n:Int)
  ·rw [if_pos b] at h;cases h
  ·rw [if_neg b] at h;injection h with h;subst h;have:2^(a-(n:Int)).toNat<=2^20:=Nat.pow_le_pow_right Qd Qa;exact Qw (Nat.mul_le_mul c this) Qd
def capS (n:Nat):Nat:=n*1099511627776
theorem Sq {s n:Nat} (h:s<=capS n):s<=capS (n+1):=Qw h (Nat.mul_le_mul_right _ (Nat.le_succ n))
theorem Sr {s t n:Nat} (h:s<=capS n) (a:t<=1099511627776):s+t<=capS (n+1):=by unfold capS at *;rw [Nat.succ_mul];exact Nat.add_le_add h a
theorem G6 {s n:Nat} (h:s<=capS n) (a:n<=129):s<=141836999983104:=Qw h (Qw (Nat.mul_le_mul_right _ a) Qd)
def sumK (C L:List Int) (low:Int):Nat->Nat->Nat->Option Nat
 | 0,_,s=>some s
 | k+1,n,s=>if (n:Int)<=low\/atC C n=0 then sumK C L low k (n+1) s else
  match Cr (near L n) n (atC C n) with
  | none=>none
  | some t=>sumK C L low k (n+1) (s+t)
def C3 (C L:List Int) (low:Int):Option Nat:=if 0<=low/\Cd low L=true then sumK C L low 129 0 0 else none
theorem Zw0 (C L:List Int) (low:Int) (n s:Nat) (h:n<129) (a:(n:Int)<=low\/atC C n=0):sumK C L low (129-n) n s=sumK C L low (129-(n+1)) (n+1) s:=by rw [show 129-n=(129-(n+1))+1 by omega,sumK,if_pos a]
theorem Zw1 (C L:List Int) (low:Int) (n s:Nat) (h:n<129) (b:¬((n:Int)<=low\/atC C n=0)) (a:Cr (near L n) n (atC C n)=none):sumK C L low (129-n) n s=none:=by rw [show 129-n=(129-(n+1))+1 by omega,sumK,if_neg b,a]
theorem Zwz (C L:List Int) (low:Int) (n s t:Nat) (h:n<129) (b:¬((n:Int)<=low\/atC C n=0)) (a:Cr (near L n) n (atC C n)=some t) :
 sumK C L low (129-n) n s=sumK C L low (129-(n+1)) (n+1) (s+t):=by
 rw [show 129-n=(129-(n+1))+1 by omega,sumK,if_neg b,a]
def smF (f:Nat->Nat):Nat->Nat
 | 0=>0
 | k+1=>smF f k+f k
theorem E5 {f g:Nat->Nat}:∀k:Nat,(∀n,n<k->f n=g n)->smF f k=smF g k
 | 0,_=>rfl
 | k+1,h=>by rw [smF,smF,E5 k (λn a=>h n Qa),h k Qa]
theorem Mj:∀k:Nat,smF (λ_=>0) k=0
 | 0=>rfl
 | k+1=>by rw [smF,Mj k]
def keyF (L:List Int) (low:Int) (n:Nat):Nat:=if (n:Int)<=low then 0 else match near L n with | []=>0 | a::_=>2^(a-(n:Int)).toNat
end
section
open Go Go.RowKit Go.Sort M
def ansV (o:Option Nat):Value := .tuple #[.int .i64 ((o.getD 0:Nat):Int),.bool o.isSome]
theorem Zu3 (lo:Int) (L:List Int) (i:Nat) (hi:i<L.length):Cd lo (L.drop i)=(decide (lo<L[i])&&decide (L[i]<=128)&&Cd L[i] (L.drop (i+1))):=by rw [List.drop_eq_getElem_cons hi];rfl
theorem Z1v (q:Option Addr) (d:Nat) (L:List Int) (low:Int) (w:World) (j:IRow w q L) (y:L.length<=1000000) :
 Calls prog 82 #[.slice q L.length d,.int .i64 low] w λe w'=>e = .returned (.bool (Cd low L))/\Below w.heap.size w w':=by
 have t:=hid j;obtain ⟨R,f⟩:=Q' (Cd low L);rw [<-f];have r:=hid f;clear f j;go_enter func82,ntmps82;go_wp2;go_loopg [1,9] L.length (λp n m wr=>∃(i:Nat) (lo:Int),m = .int .i64 (i:Int)/\L.length-i<=p/\i<=L.length/\n = .int .i64 lo/\Hid (Cd lo (L.drop i)=R)/\Below w.heap.size w wr)
 case atStart=>exact ⟨0,low,rfl,Qa,Qa,rfl,hid r.o.symm,Qg⟩
 case round=>
  obtain ⟨i,lo,rfl,D,C,rfl,k,c⟩:=hrel;by_cases hi:i<L.length
  ·obtain ⟨g,o,rfl,z,l⟩:=(t.o.below c).at hi;have b:=Zu3 lo L i hi;rw [k.o] at b;obtain ⟨a,ha⟩:=Q' (L[i]);rw [<-ha] at l b;have x:(0:Int)<=(i:Int):=Qa;have u:(i:Int)<(L.length:Int):=Qa;clear ha;by_cases B:a<=lo
   ·have h:Hid (false=R):=by rw [decide_eq_false (by omega:¬lo<a)] at b;exact hid b.symm
    clear b;go_wp2;go_ret;exact ⟨Au h.o,c⟩
   ·by_cases A:(129:Int)<=a
    ·have h:Hid (false=R):=by rw [decide_eq_false (by omega:¬a<=128)] at b;simp at b;exact hid b.symm
     clear b;go_wp2;go_ret;exact ⟨Au h.o,c⟩
    ·have s:Hid (Cd a (L.drop (i+1))=R):=by rw [decide_eq_true (by omega:lo<a),decide_eq_true (by omega:a<=128)] at b;simp at b;exact hid b.symm
     clear b;go_wp2;go_roundg (L.length-(i+1))
     case measure=>omega
     case rel=>exact ⟨i+1,a,Qj,Qa,Qa,rfl,s,c⟩
  ·go_wp2;go_ret;have:=k.o;rw [List.drop_eq_nil_of_le Qa] at this;exact ⟨Au this,c⟩
theorem Zwu (p:Option Addr) (c:Nat) (C:List Int) (n:Nat) (w:World) (f:IRow w p C) (q:C.length<=1000000) (m:n<=1000000) :
 Calls prog 83 #[.slice p C.length c,.int .i64 (n:Int)] w λe w'=>e = .returned (.int .i64 (atC C n:Nat))/\Below w.heap.size w w':=by
 by_cases hi:n<C.length
 ·obtain ⟨g,o,rfl,r,i⟩:=f.at hi;have d:=Z8w C n hi;obtain ⟨a,ha⟩:=Q' (C[n]);rw [<-ha] at i d;have l:(0:Int)<=(n:Int):=Qa;have k:(n:Int)<(C.length:Int):=Qa;have b:=hid d;clear ha d f;by_cases s:a<=0
  ·by_cases h:0<a
   ·omega
   ·have j:¬(1048576:Int)<a:=Qa;go_enter func83,ntmps83;go_wp2;go_ret;exact ⟨Bc (by have:=b.o;omega),Qg⟩
  ·by_cases j:(1048576:Int)<a
   ·have h:0<a:=Qa;go_enter func83,ntmps83;go_wp2;go_ret;exact ⟨Bc (by have:=b.o;omega),Qg⟩
   ·have h:0<a:=Qa;go_enter func83,ntmps83;go_wp2;go_ret;exact ⟨Bc (by have:=b.o;omega),Qg⟩
 ·have b:=hid (Sn C n Qa);clear f;go_enter func83,ntmps83;go_wp2;go_ret;exact ⟨Bc (by rw [b.o];rfl),Qg⟩
structure Lev (w:World) (q:Option Addr) (m d:Nat) (M L:List Int) (n:Nat):Prop where
 len:M.length=m
 le:m<=d
 top:m<=1000000
 row:IRow w q M
 near:near M n=near L n
theorem Lev.more {w:World} {q:Option Addr} {m d:Nat} {M L:List Int} {n:Nat} (H:Lev w q m d M L n):Lev w q m d M L (n+1):=
 ⟨H.len,H.le,H.top,H.row,by rw [<-Mi M n (n+1) Qa,H.near,Mi L n (n+1) Qa]⟩
theorem Lev.head {w:World} {q:Option Addr} {m d:Nat} {M L:List Int} {n:Nat} (H:Lev w q m d M L n) (h:0<m) :
 ∃g o a N,q=some ⟨g,o,none⟩/\g<w.heap.size/\(∀b,Below w.heap.size w b->b.cell? ⟨g,o,none⟩=some (.int .i64 a))/\M=a::N /\
  (a<(n:Int)->Lev w (some ⟨g,o+1,none⟩) (m-1) (d-1) N L n/\(d=1->Lev w (some ⟨g,o,none⟩) (m-1) 0 N L n)):=by
 have k:=H.len;rcases M with _ | ⟨a,N⟩
 ·simp at k;omega
 rcases H.row with y | ⟨g,o,e,f,l⟩
 ·cases y
 refine ⟨g,o,a,N,e,f,λb t=>(t.cell (p:=⟨g,o,none⟩) f).trans (l 0 _ rfl),rfl,λha => ?_⟩;have c:=H.near;rw [Fz,if_pos ha] at c;have x:N.length=m-1:=by simp at k;omega
 have s:=H.le;have i:=H.top;refine ⟨⟨x,Qa,Qa,.inr ⟨g,o+1,rfl,f,λj u r => ?_⟩,c⟩,λhd=>⟨Qa,Qa,Qa,.inl (List.length_eq_zero_iff.1 Qa),c⟩⟩;rw [show o+1+j=o+(j+1) by omega];exact l (j+1) u (by simpa [ics] using r)
theorem Lev.stop {w:World} {q:Option Addr} {m d:Nat} {M L N:List Int} {n:Nat} {a:Int} (H:Lev w q m d M L n) (e:M=a::N) (h:¬a<(n:Int)):_root_.Go.Proofs.YtpdphfgpdgadpaaGreat.near L n=a::N:=by rw [<-H.near,e,Fz,if_neg h]
theorem Lev.none {w:World} {q:Option Addr} {m d:Nat} {M L:List Int} {n:Nat} (H:Lev w q m d M L n) (h:m=0):_root_.Go.Proofs.YtpdphfgpdgadpaaGreat.near L n=[]:=by rw [<-H.near,List.length_eq_zero_iff.1 (H.len.trans h)];rfl
theorem Zwy (s x t n:Nat) (a:Int) (e:(n:Int)<=a) (ha:a-(n:Int)<=20) (c:x*2^(a-(n:Int)).toNat=t) (d:s<=141836999983104) (b:t<=1099511627776) :
 wrap64 ((s:Int)+wrap64 ((x:Int)*2^(a.toNat-n)))=((s+t:Nat):Int):=by
 have h:(x:Int)*2^(a.toNat-n)=((t:Nat):Int):=by rw [<-c,show (a-(n:Int)).toNat=a.toNat-n by omega,Int.natCast_mul,Int.natCast_pow];rfl
 rw [h,IntWalk.wrap64_in (t:Int) Qa,IntWalk.wrap64_in _ Qa];omega
theorem G7 (p q:Option Addr) (c d:Nat) (C L:List Int) (low:Int) (w:World) (hC:IRow w p C) (hL:IRow w q L) (hd:L.length<=d) (h1:C.length<=1000000) (h2:L.length<=1000000) :
 Calls prog 67 #[.slice p C.length c,.slice q L.length d,.int .i64 low] w λe w'=>e = .returned (ansV (C3 C L low))/\Below w.heap.size w w':=by
 by_cases h0:low<0
 ·have hc:C3 C L low=none:=by unfold C3;rw [if_neg Qa]
  rw [hc];clear hc hC hL;go_enter func67,ntmps67;go_wp2;go_ret2;exact ⟨rfl,Qg⟩
 ·have Y:=Z1v q d L low w hL h2;by_cases j:Cd low L=true
  ·have hT:=λn hn w' (i:Below w.heap.size w w')=>Zwu p c C n w' (hC.below i) h1 hn;have a4:=λn=>Sm C n;have hm:=So L low j;obtain ⟨R,hR⟩:=Q' (C3 C L low);have a5:sumK C L low 129 0 0=R:=by rw [hR];unfold C3;rw [if_pos ⟨Qa,j⟩]
   rw [<-hR];rw [j] at Y;have HR:=hid a5;have F:=hid Y;have HT:=hid hT;have ah:=hid a4;have HM:=hid hm;have a6:Hid (Lev w q L.length d L L 0):=hid ⟨rfl,hd,h2,hL,rfl⟩;clear hR a5 j Y hT a4 hm hC hL h1 h2 hd;go_enter func67,ntmps67;go_wp2_with fail;refine F.o.mono ?_;rintro e w1 ⟨rfl,O⟩;clear F;go_wp2;go_loopg [1,8,19] 129 (λkx s1 s8 aa wr=>∃(n s m k:Nat) (u:Option Addr) (M:List Int),aa = .int .i64 (n:Int)/\129-n<=kx/\n<=129/\s8 = .int .i64 (s:Int)/\Hid (s<=capS n)/\s1 = .slice u m k/\Hid (Lev w u m k M L n)/\Hid (sumK C L low (129-n) n s=R)/\Below w.heap.size w wr)
   case atStart=>exact ⟨0,0,_,d,q,L,rfl,Qa,Qa,rfl,hid (Nat.zero_le _),rfl,a6,HR,O⟩
   case round=>
    clear a6 HR O;obtain ⟨n,s,m,k,u,M,rfl,h1,h2,rfl,h3,rfl,l,HS,i⟩:=hrel;by_cases hn:n<129
    ·have Q:=HT.o n Qa wr i;have hx:=ah.o n;have A:=Zw0 C L low n s hn;have D:=Zw1 C L low n s hn;have z:=Zwz C L low n s;have J:∀t,Cr (near L n) n (atC C n)=some t->t<=1099511627776:=λt h=>Z1f h hx;obtain ⟨x,Z⟩:=Q' (atC C n);rw [<-Z] at Q hx A D z J;rw [HS.o] at A D z;have E:=hid Q;have a7:=hid A;have a9:=hid D;have af:=hid z;have ae:=hid J;clear Q A D z J Z HS;by_cases ab:(n:Int)<=low
     ·have U:=hid (a7.o (.inl ab)).symm;go_wp2_with fail;refine E.o.mono ?_;rintro e w2 ⟨rfl,b⟩;have b:=i.trans (b.mono i.size);go_wp2;go_roundg (129-(n+1))
      case measure=>omega
      case rel=>exact ⟨n+1,s,m,k,u,M,Qj,Qa,Qa,rfl,hid (Sq h3.o),rfl,hid l.o.more,U,b⟩
     ·by_cases a1:x=0
      ·have U:=hid (a7.o (.inr a1)).symm;subst a1;go_wp2_with fail;refine E.o.mono ?_;rintro e w2 ⟨rfl,b⟩;have b:=i.trans (b.mono i.size);go_wp2;go_roundg (129-(n+1))
       case measure=>omega
       case rel=>exact ⟨n+1,s,m,k,u,M,Qj,Qa,Qa,rfl,hid (Sq h3.o),rfl,hid l.o.more,U,b⟩
      ·have ai:((x:Int) == 0)=false:=Qe;go_wp2_with fail;refine E.o.mono ?_;rintro e w2 ⟨rfl,b⟩;have b:=i.trans (b.mono i.size);clear E i;go_wp2
       rename World=>wo
       go_loopg [1] m (λkx s1 wr=>∃(m k:Nat) (u:Option Addr) (M:List Int),s1 = .slice u m k/\m<=kx/\Hid (Lev w u m k M L n)/\Below w.heap.size w wr)
       case atStart=>exact ⟨m,k,u,M,rfl,Qa,l,b⟩
       case round=>
        clear l b;obtain ⟨m,k,u,M,rfl,h4,l,i⟩:=hrel;by_cases a3:m=0
        ·have X:=hid (a9.o Qa (by rw [l.o.none a3];rfl));subst a3;go_wp2;go_ret2;exact ⟨by rw [X.o];rfl,i⟩
        ·obtain ⟨g,o,a,N,rfl,hg,f,hM,B⟩:=l.o.head Qa;have x0:=f wr i;have ak:=Qm hg i.size;have m1:(0:Int)<(m:Int):=Qa;by_cases ha:a<(n:Int)
         ·have a8:=hid (B ha);clear B f hM l;by_cases ac:k=1
          ·subst ac;go_wp2;go_roundg (m-1)
           case measure=>omega
           case rel=>exact ⟨m-1,0,_,N,rfl,Qa,hid (a8.o.2 trivial),i⟩
          ·go_wp2;go_roundg (m-1)
           case measure=>omega
           case rel=>exact ⟨m-1,k-1,_,N,rfl,Qa,hid a8.o.1,i⟩
         ·have r:=l.o.stop hM ha;have K:=Sp L n a N r;have aj:=HM.o a K.2;by_cases S:20<a-(n:Int)
          ·have X:=hid (a9.o Qa (by rw [r];simp only [Cr];rw [if_pos S]));clear B f hM l r K;go_wp2;go_ret2;exact ⟨by rw [X.o];rfl,i⟩
          ·obtain ⟨t,y⟩:∃t,Cr (near L n) n x=some t:=⟨_,by rw [r];simp only [Cr];rw [if_neg S]⟩;have ag:=hid (af.o t hn Qa y);have a2:=ae.o t y;have HQ:Hid ((n:Int)<=a/\x*2^(a-(n:Int)).toNat=t):=by rw [r] at y;simp only [Cr] at y;rw [if_neg S] at y;injection y with y;exact hid ⟨K.1,y⟩
           have ad:=l;clear y B f hM l;go_wp2;go_roundg (129-(n+1))
           case measure=>omega
           case rel=>exact ⟨n+1,s+t,m,k,_,M,Qj,Qa,Qa,by rw [Zwy s x t n a HQ.o.1 Qa HQ.o.2 (G6 h3.o Qa) a2],hid (Sr h3.o a2),rfl,hid ad.o.more,hid ag.o.symm,i⟩
    ·go_wp2;go_ret2;have:=HS.o;rw [show 129-n=0 by omega] at this;exact ⟨by rw [<-this];rfl,i⟩
  ·have hc:C3 C L low=none:=by unfold C3;rw [if_neg (λh=>j h.2)]
   have I:Cd low L=false:=by simpa using j
   rw [hc];rw [I] at Y;have F:=hid Y;clear Y j I hc hC hL;go_enter func67,ntmps67;go_wp2_with fail;refine F.o.mono ?_;rintro e w1 ⟨rfl,O⟩;go_wp2;go_ret2;exact ⟨rfl,Qg⟩
end
section
def okC (st wd:Nat):Nat->List Nat->Bool
 | a,[]=>decide (a=wd)
 | a,b::L=>decide (a<b)&&decide (b<=a+st)&&okC st wd b L
theorem Ce {st wd a b:Nat} {L:List Nat}:okC st wd a (b::L)=true↔a<b/\b<=a+st/\okC st wd b L=true:=by simp only [okC,Qq,decide_eq_true_eq];exact ⟨λh=>⟨h.1.1,h.1.2,h.2⟩,λh=>⟨⟨h.1,h.2.1⟩,h.2.2⟩⟩
theorem Cs {st wd a:Nat}:okC st wd a []=true↔a=wd:=by simp [okC]
theorem Ep {st wd:Nat}:∀(L:List Nat) (a:Nat),okC st wd a L=true->a+L.length<=wd
 | [],a,h=>by rw [Cs] at h;simp [h]
 | b::L,a,h=>by rw [Ce] at h;have:=Ep L b h.2.2;simp only [Qt];omega
def ptC (C:List Int) (a b:Nat):Nat:=smF (λj=>atC C (a+1+j)*2^(b-(a+1+j))) (b-a)
def coC (C:List Int):Nat->List Nat->Nat
 | _,[]=>0
 | a,b::L=>ptC C a b+coC C b L
def lexL:List Nat->List Nat->Bool
 | a::A,b::B=>if a=b then lexL A B else decide (a<b)
 | _,_=>false
abbrev Wy:=Nat×List Nat
def btW (x y:Wy):Bool:=if x.1=y.1 then (if x.2.length=y.2.length then lexL x.2 y.2 else decide (x.2.length<y.2.length)) else decide (x.1<y.1)
theorem Ss:∀A:List Nat,lexL A A=false
 | []=>rfl
 | a::A=>by simp [lexL,Ss A]
theorem Su:∀A B D:List Nat,lexL A B=true->lexL B D=true->lexL A D=true
 | a::A,b::B,d::D,e,c=>by
  unfold lexL at *
  by_cases i:a=b
  ·subst i;rw [if_pos rfl] at e;by_cases f:a=d
   ·subst f;rw [if_pos rfl] at c ⊢;exact Su A B D e c
   ·rw [if_neg f] at c ⊢;exact c
  ·rw [if_neg i] at e;have k:a<b:=of_decide_eq_true e;by_cases f:b=d
   ·subst f;rw [if_neg i];exact e
   ·rw [if_neg f] at c;have j:b<d:=of_decide_eq_true c;rw [if_neg Qa];exact decide_eq_true Qa
 | [],_,_,h,_=>by simp [lexL] at h
 | _::_,[],_,h,_=>by simp [lexL] at h
 | _::_,_::_,[],_,h=>by simp [lexL] at h
theorem Sv:∀A B:List Nat,A.length=B.length->lexL A B=true\/A=B\/lexL B A=true
 | [],[],_ => .inr (.inl rfl)
 | a::A,b::B,h=>by
  unfold lexL;by_cases e:a=b
  ·subst e;rw [if_pos rfl,if_pos rfl];rcases Sv A B (by simpa using h) with c | c | c
   ·exact .inl c
   ·exact .inr (.inl (by rw [c]))
   ·exact .inr (.inr c)
  ·rw [if_neg e,if_neg (λh=>e h.symm)];by_cases d:a<b
   ·exact .inl (decide_eq_true d)
   ·exact .inr (.inr (decide_eq_true Qa))
 | [],_::_,h=>by simp at h
 | _::_,[],h=>by simp at h
theorem Sw (x:Wy):btW x x=false:=by unfold btW;rw [if_pos rfl,if_pos rfl,Ss]
theorem Sx {x y z:Wy} (b:btW x y=true) (a:btW y z=true):btW x z=true:=by
 unfold btW at *
 by_cases f:x.1=y.1
 ·rw [if_pos f] at b;by_cases d:y.1=z.1
  ·rw [if_pos d] at a;rw [if_pos (f.trans d)];by_cases e:x.2.length=y.2.length
   ·rw [if_pos e] at b;by_cases c:y.2.length=z.2.length
    ·rw [if_pos c] at a;rw [if_pos (e.trans c)];exact Su _ _ _ b a
    ·rw [if_neg c] at a;rw [if_neg Qa,e];exact a
   ·rw [if_neg e] at b;have i:=of_decide_eq_true b;by_cases c:y.2.length=z.2.length
    ·rw [if_neg Qa,<-c];exact b
    ·rw [if_neg c] at a;have h:=of_decide_eq_true a;rw [if_neg Qa];exact decide_eq_true Qa
  ·rw [if_neg d] at a;rw [if_neg Qa,f];exact a
 ·rw [if_neg f] at b;have i:=of_decide_eq_true b;by_cases d:y.1=z.1
  ·rw [if_neg Qa,<-d];exact b
  ·rw [if_neg d] at a;have h:=of_decide_eq_true a;rw [if_neg Qa];exact decide_eq_true Qa
theorem Sz (x y:Wy):btW x y=true\/x=y\/btW y x=true:=by
 unfold btW;by_cases b:x.1=y.1
 ·rw [if_pos b,if_pos b.symm];by_cases a:x.2.length=y.2.length
  ·rw [if_pos a,if_pos a.symm];rcases Sv _ _ a with h | h | h
   ·exact .inl h
   ·exact .inr (.inl (Prod.ext b h))
   ·exact .inr (.inr h)
  ·rw [if_neg a,if_neg (λh=>a h.symm)];by_cases h:x.2.length<y.2.length
   ·exact .inl (decide_eq_true h)
   ·exact .inr (.inr (decide_eq_true Qa))
 ·rw [if_neg b,if_neg (λh=>b h.symm)];by_cases h:x.1<y.1
  ·exact .inl (decide_eq_true h)
  ·exact .inr (.inr (decide_eq_true Qa))
theorem Ja {x y z:Wy} (c:btW x y=false) (b:btW y z=false):btW x z=false:=by
 cases h:btW x z with
 | false=>rfl
 | true=>
  rcases Sz x y with a | a | a
  ·rw [a] at c;cases c
  ·subst a;rw [h] at b;cases b
  ·rw [Sx a h] at b;cases b
theorem Z67 {x y:Wy} (b:btW x y=false) (a:btW y x=false):x=y:=by
 rcases Sz x y with h | h | h
 ·rw [h] at b;cases b
 ·exact h
 ·rw [h] at a;cases a
theorem S1 (p b a c2:Nat) (d c:List Nat):btW (p+a,b::d) (p+c2,b::c)=btW (a,d) (c2,c):=by
 unfold btW;simp only [Qt,lexL];by_cases e:a=c2
 ·rw [if_pos Qa,if_pos e];by_cases l:d.length=c.length
  ·rw [if_pos Qa,if_pos l];simp
  ·rw [if_neg Qa,if_neg l];simp
 ·rw [if_neg Qa,if_neg e];simp
def btO:Option Wy->Option Wy->Bool
 | none,_=>false
 | some _,none=>true
 | some x,some y=>btW x y
def pkO (n x:Option Wy):Option Wy:=if btO x n then x else n
def topO (r:Option Wy) (v:Wy):Prop:=∃x,r=some x/\btW v x=false
theorem Mk (v:Wy):topO (some v) v:=⟨v,rfl,Sw v⟩
theorem Ml {n x:Option Wy} {v:Wy} (h:topO n v):topO (pkO n x) v:=by
 obtain ⟨y,rfl,a⟩:=h;unfold pkO;cases x with
 | none=>exact ⟨y,rfl,a⟩
 | some z=>
  by_cases b:btW z y=true
  ·rw [if_pos (show btO (some z) (some y)=true from b)];refine ⟨z,rfl,?_⟩;refine Ja a ?_;cases h:btW y z with
   | false=>rfl
   | true=>have:=Sx h b;rw [Sw] at this;cases this
  ·rw [if_neg (show ¬btO (some z) (some y)=true from b)];exact ⟨y,rfl,a⟩
theorem S2 {n:Option Wy} {v:Wy}:topO (pkO n (some v)) v:=by
 unfold pkO;by_cases a:btO (some v) n=true
 ·rw [if_pos a];exact Mk v
 ·rw [if_neg a];cases n with
  | none=>exact absurd rfl a
  | some y=>exact ⟨y,rfl,by simpa [btO] using a⟩
theorem S3 (n x:Option Wy):pkO n x=n\/pkO n x=x:=by
 unfold pkO;split
 ·exact .inr rfl
 ·exact .inl rfl
def fdO (f:Nat->Option Wy) (s:Option Wy):Nat->Option Wy
 | 0=>s
 | k+1=>pkO (fdO f s k) (f k)
theorem Mn (f:Nat->Option Wy) (s:Option Wy):∀k,fdO f s k=s\/∃j,j<k/\fdO f s k=f j
 | 0 => .inl rfl
 | k+1=>by
  rw [fdO];rcases S3 (fdO f s k) (f k) with h | h
  ·rw [h];rcases Mn f s k with h | ⟨j,a,h⟩
   ·exact .inl h
   ·exact .inr ⟨j,Qa,h⟩
  ·exact .inr ⟨k,Qa,h⟩
theorem S4 (f:Nat->Option Wy) {s:Option Wy} {v:Wy} (h:topO s v):∀k,topO (fdO f s k) v
 | 0=>h
 | k+1=>Ml (S4 f h k)
theorem Mo (f:Nat->Option Wy) (s:Option Wy) (v:Wy):∀k j,j<k->f j=some v->topO (fdO f s k) v
 | k+1,j,a,h=>by
  rw [fdO];by_cases e:j=k
  ·subst e;rw [h];exact S2
  ·exact Ml (Mo f s v k j Qa h)
def cdO (C:List Int) (a b:Nat) (r:Option Wy):Option Wy:=r.map λx=>(ptC C a b+x.1,b::x.2)
def bst (C:List Int) (st wd:Nat):Nat->Nat->Option Wy
 | 0,a=>if a=wd then some (0,[]) else none
 | n+1,a=>fdO (λk=>cdO C a (a+1+k) (bst C st wd n (a+1+k))) (bst C st wd n a) (min (a+st) wd-a)
def E6 (C:List Int) (st wd n a:Nat) (r:Option Wy):Prop:=
 (∀x,r=some x->okC st wd a x.2=true/\x.2.length<=n/\x.1=coC C a x.2)/\∀L,okC st wd a L=true->L.length<=n->topO r (coC C a L,L)
theorem Z54 {C:List Int} {st wd n a:Nat} {r s:Option Wy} (f:E6 C st wd n a r) (e:E6 C st wd n a s):r=s:=by
 cases d:r with
 | none=>
  cases q:s with
  | none=>rfl
  | some y=>obtain ⟨k1,c,h⟩:=e.1 y q;obtain ⟨x,j,-⟩:=f.2 y.2 k1 c;rw [d] at j;cases j
 | some x=>obtain ⟨k1,c,h⟩:=f.1 x d;obtain ⟨y,i,l⟩:=e.2 x.2 k1 c;obtain ⟨p,o,m⟩:=e.1 y i;obtain ⟨z,b,k⟩:=f.2 y.2 p o;rw [d] at b;injection b with b;subst b;have u:x=(coC C a x.2,x.2):=Prod.ext h rfl;have t:y=(coC C a y.2,y.2):=Prod.ext m rfl;rw [<-u] at l;rw [<-t] at k;rw [i,Z67 l k]
theorem Mp (C:List Int) (st wd:Nat):∀n a,E6 C st wd n a (bst C st wd n a)
 | 0,a=>by
  unfold bst;by_cases h:a=wd
  ·rw [if_pos h];refine ⟨λx c => ?_,λL e l => ?_⟩
   ·injection c with c;subst c;exact ⟨Cs.2 h,Qn _,rfl⟩
   ·obtain rfl:L=[]:=List.length_eq_zero_iff.1 Qa;exact Mk _
  ·rw [if_neg h];refine ⟨λx c=>(by cases c),λL e l => ?_⟩;obtain rfl:L=[]:=List.length_eq_zero_iff.1 Qa;exact absurd (Cs.1 e) h
 | n+1,a=>by
  have f:=Mp C st wd n;rw [bst];obtain ⟨K,r⟩:=Q' (min (a+st) wd-a);rw [<-r];refine ⟨λx c => ?_,λL e l => ?_⟩
  ·rcases Mn (λk=>cdO C a (a+1+k) (bst C st wd n (a+1+k))) (bst C st wd n a) K with h | ⟨j,s,h⟩
   ·rw [h] at c;obtain ⟨k1,m,i⟩:=(f a).1 x c;exact ⟨k1,Qa,i⟩
   ·rw [h] at c;unfold cdO at c;cases d:bst C st wd n (a+1+j) with
    | none=>rw [d] at c;cases c
    | some y=>rw [d] at c;injection c with c;subst c;obtain ⟨k1,m,i⟩:=(f (a+1+j)).1 y d;exact ⟨Ce.2 ⟨Qa,Qa,k1⟩,Qe,by show ptC C a (a+1+j)+y.1=_;rw [i];rfl⟩
  ·cases L with
   | nil=>exact S4 _ ((f a).2 [] e (Nat.zero_le _)) K
   | cons b L=>
    have h:=Ce.1 e;have p:=Ep L b h.2.2;obtain ⟨x,c,d⟩:=(f b).2 L h.2.2 (by simp at l;omega);obtain ⟨y,o,q⟩:=Mo (λk=>cdO C a (a+1+k) (bst C st wd n (a+1+k))) (bst C st wd n a) (ptC C a b+x.1,b::x.2) K (b-a-1) Qa (by
     show cdO C a (a+1+(b-a-1)) (bst C st wd n (a+1+(b-a-1)))=_
     rw [show a+1+(b-a-1)=b by omega,c]
     rfl)
    exact ⟨y,o,Ja (by rw [coC,S1];exact d) q⟩
theorem E6.cap {C:List Int} {st wd n a:Nat} {r:Option Wy} (m:Nat) (h:E6 C st wd (min n m) a r) (d:wd-a<=m):E6 C st wd n a r:=
 ⟨λx b=>⟨(h.1 x b).1,Qw (h.1 x b).2.1 (Nat.min_le_left _ _),(h.1 x b).2.2⟩,λL c e=>h.2 L c (by have:=Ep L a c;omega)⟩
theorem Jb (f:Nat->Nat) (m:Nat):∀k,smF f (m+k)=smF f m+smF (λj=>f (m+j)) k
 | 0=>rfl
 | k+1=>by rw [<-Nat.add_assoc,smF,Jb f m k,smF];omega
def toI (L:List Nat):List Int:=List.map (λn:Nat=>(n:Int)) L
theorem Jc (L:List Nat):(toI L).length=L.length:=by simp [toI]
theorem S5 {st wd:Nat} (c:wd<=128):∀(L:List Nat) (a:Nat),okC st wd a L=true->Cd (a:Int) (toI L)=true
 | [],_,_=>rfl
 | b::L,a,h=>by rw [Ce] at h;have d:=Ep L b h.2.2;simp only [toI,List.map_cons,Cd,Qq,decide_eq_true_eq];exact ⟨⟨Qa,Qa⟩,S5 c L b h.2.2⟩
def levK (L:List Nat) (n:Nat):Nat:=match near (toI L) n with | []=>0 | a::_=>2^(a-(n:Int)).toNat
theorem Mq (b:Nat) (L:List Nat) (n:Nat):near (toI (b::L)) n=if b<n then near (toI L) n else (b:Int)::toI L:=by
 show near ((b:Int)::toI L) n=_;rw [Fz];by_cases h:b<n
 ·rw [if_pos h,if_pos Qa]
 ·rw [if_neg h,if_neg Qa]
theorem S6 {st wd:Nat}:∀(L:List Nat) (a n:Nat),okC st wd a L=true->a<n->n<=wd->∃(b:Nat) (M:List Int),near (toI L) n=(b:Int)::M/\n<=b/\b<n+st/\b∈L
 | [],a,n,h,f,e=>by rw [Cs] at h;omega
 | b::L,a,n,h,f,e=>by
  rw [Ce] at h;rw [Mq];by_cases d:b<n
  ·rw [if_pos d];obtain ⟨c,M,l,k,j,i⟩:=S6 L b n h.2.2 d e;exact ⟨c,M,l,k,j,List.mem_cons_of_mem _ i⟩
  ·rw [if_neg d];exact ⟨b,toI L,rfl,Qa,Qa,List.mem_cons_self⟩
theorem S7 (C:List Int) {st wd:Nat}:∀(L:List Nat) (a:Nat),okC st wd a L=true->smF (λj=>atC C (a+1+j)*levK L (a+1+j)) (wd-a)=coC C a L
 | [],a,h=>by rw [Cs] at h;rw [h,Nat.sub_self];rfl
 | b::L,a,h=>by
  rw [Ce] at h;have c:=Ep L b h.2.2;rw [show wd-a=(b-a)+(wd-b) by omega,Jb,coC,<-S7 C L b h.2.2];congr 1
  ·unfold ptC;refine E5 _ λj d => ?_;unfold levK;rw [Mq,if_neg Qa];show _*2^((b:Int)-((a+1+j:Nat):Int)).toNat=_;rw [show ((b:Int)-((a+1+j:Nat):Int)).toNat=b-(a+1+j) by omega]
  ·refine E5 _ λj d => ?_;rw [show a+1+(b-a+j)=b+1+j by omega];unfold levK;rw [Mq,if_pos Qa]
theorem Mr (C L:List Int) (low:Int):∀(k n s:Nat),n+k=129->s=smF (λj=>atC C j*keyF L low j) n ->
 (∀m,n<=m->m<129->¬((m:Int)<=low\/atC C m=0)->∃t,Cr (near L m) m (atC C m)=some t)->sumK C L low k n s=some (smF (λj=>atC C j*keyF L low j) 129)
 | 0,n,s,o,d,_=>by obtain rfl:n=129:=Qa;rw [sumK,d]
 | k+1,n,s,o,d,h=>by
  rw [sumK];by_cases c:(n:Int)<=low\/atC C n=0
  ·rw [if_pos c];refine Mr C L low k (n+1) s Qa ?_ (λm f i=>h m Qa i);rw [smF,<-d];rcases c with c | c
   ·rw [keyF,if_pos c];omega
   ·rw [c];omega
  ·rw [if_neg c];obtain ⟨t,b⟩:=h n (Qn _) Qa c;rw [b];refine Mr C L low k (n+1) (s+t) Qa ?_ (λm f i=>h m Qa i);rw [smF,<-d];have:atC C n*keyF L low n=t:=by
    unfold keyF;rw [if_neg (λe=>c (.inl e))];cases l:near L n with
    | nil=>rw [l] at b;cases b
    | cons a M=>
     rw [l] at b;simp only [Cr] at b;by_cases f:20<a-(n:Int)
     ·rw [if_pos f] at b;cases b
     ·rw [if_neg f] at b;injection b with b
   rw [this]
theorem S8 (C D:List Int) {st wd:Nat} (r:st<=20) (f:wd<=128) (l:∀j,j<=wd->atC D j=atC C j) (c:∀j,wd<j->atC D j=0) (L:List Nat) (a:Nat) (h:okC st wd a L=true) :
 C3 D (toI L) (a:Int)=some (coC C a L):=by
 have k:=Ep L a h;unfold C3;rw [if_pos ⟨Qa,S5 f L a h⟩,Mr D (toI L) (a:Int) 129 0 0 rfl rfl (λm _ u d => ?_)]
 ·rw [<-S7 C L a h];congr 1;rw [show 129=(a+1)+((wd-a)+(128-wd)) by omega,Jb _ (a+1) ((wd-a)+(128-wd)),Jb _ (wd-a) (128-wd)];rw [E5 (g:=λ_=>0) (a+1) (λn i=>by rw [keyF,if_pos Qa];omega),Mj,Nat.zero_add];rw [E5 (g:=λ_=>0) (128-wd) (λn i=>by rw [c _ Qa];omega),Mj,Nat.add_zero];refine E5 _ λj s => ?_;rw [l _ Qa,keyF,if_neg Qa];rfl
 ·have t:(a:Int)<(m:Int):=by have:=λe=>d (.inl e);omega
  have p:m<=wd:=by
   by_cases o:m<=wd
   ·exact o
   ·exact absurd (.inr (c m Qa)) d
  obtain ⟨b,M,q,x,w,-⟩:=S6 L a m h Qa p;refine ⟨atC D m*2^((b:Int)-(m:Int)).toNat,?_⟩;rw [q];simp only [Cr];rw [if_neg Qa]
end
end Go.Proofs.YtpdphfgpdgadpaaGreat

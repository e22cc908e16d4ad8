import Derived.Test.YtpdphfgpdgadpaaGreatL22d
import Derived.Test.YtpdphfgpdgadpaaGreatL18
set_option linter.unusedSimpArgs false
set_option linter.unusedVariables false
open Go.Proofs.Tryz
namespace Go.Proofs.YtpdphfgpdgadpaaGreat
section
open M
def kV (k:Ky):Nat:=val k.h k.l
theorem E0 {a b:Ky} (ha:W64 a.l) (c:W64 b.l):An a b=true↔kV a<kV b\/(kV a=kV b/\a.n<b.n):=Z4 _ _ _ _ _ _ ha c
theorem Z0f {b a m m':Nat} (c:W64 a) (h:m<m') (i:m'<=128):An (cutK b a m) (cutK b a m')=true:=by
 refine (E0 (by exact c.cut _) (by exact c.cut _)).2 ?_;unfold kV cutK;simp only;rw [Kz b a m c Qa,Kz b a m' c i];have e:2^(128-m)=2^(128-m')*2^(m'-m):=by rw [<-Nat.pow_add];congr 1;omega
 have j:0<2^(128-m'):=Nat.two_pow_pos _;have f:val b a/2^(128-m)*2^(128-m)<=val b a/2^(128-m')*2^(128-m'):=by rw [e,<-Nat.div_div_eq_div_mul,Nat.mul_comm (2^(128-m')),<-Nat.mul_assoc];exact Nat.mul_le_mul_right _ (Nat.div_mul_le_self _ _)
 rcases Nat.lt_or_eq_of_le f with d | d
 ·exact .inl d
 ·exact .inr ⟨d,Qa⟩
theorem Ye {N:List Rt} (q:Sorted N) {d c:Nat} (p:W64 c) {i j:Nat} (hi:i<N.length) (o:j<N.length) (b:i<j) (t:hasB N[i].k.h N[i].k.l N[i].k.n d c=true) (s:hasB N[j].k.h N[j].k.l N[j].k.n d c=true):N[i].k.n<N[j].k.n:=by
 obtain ⟨m,f,w⟩:=(Ei _ _ _).1 t;obtain ⟨m',e,u⟩:=(Ei _ _ _).1 s;have a:=List.pairwise_iff_getElem.1 q i j hi o b;rw [w,u] at a ⊢;show (m:Int)<(m':Int);by_cases h:m<m'
 ·omega
 ·exfalso;by_cases r:m=m'
  ·subst r;rw [Bf] at a;cases a
  ·have:=D4 a (Z0f p Qa f);rw [Bf] at this;cases this
def hopJ (N:List Rt) (low:Int) (k:Ky) (j:Nat):Option Int:=(lngI N (Aw k.h k.l low k.n) j).map λi=>(N.getD i ⟨⟨0,0,0⟩,0⟩).v
theorem Oe {N:List Rt} {low:Int} {k:Ky} {j:Nat} (a:j<N.length) (h:Aw k.h k.l low k.n N[j]=false):hopJ N low k (j+1)=hopJ N low k j:=by unfold hopJ;rw [Zq8 a h]
theorem Z26 {N:List Rt} (p:Sorted N) {low:Int} {k:Ky} (m:W64 k.l) {j:Nat} (a:j<N.length) (h:Aw k.h k.l low k.n N[j]=true):hopJ N low k (j+1)=some N[j].v:=by
 have f:∀r:Rt,Aw k.h k.l low k.n r=true->hasB r.k.h r.k.l r.k.n k.h k.l=true:=λr h=>by unfold Aw at h;simp only [Qq] at h;exact h.2.2
 unfold hopJ;cases e:lngI N (Aw k.h k.l low k.n) j with
 | none=>rw [Zoz a h e];show some (N.getD j _).v=_;rw [getD_at a]
 | some b=>have o:=Vm e;have c:b<N.length:=Qa;have i:=Gq N (Aw k.h k.l low k.n) j Qa;rw [e] at i;obtain ⟨_,_,d,_⟩:=i;rw [Z2s a c h e,if_pos (Ye p m c a o (f _ d) (f _ h))];show some (N.getD j _).v=_;rw [getD_at a]
structure InvS (N:List Rt) (low high:Int) (i:Nat) (K:List Rt):Prop where
 sorted:Sorted K
 mem:∀q,q∈K↔q.k∈Ao (N.take i) low high/\q.v=(hopJ N low q.k i).getD 0
theorem InvS.start (N:List Rt) (low high:Int):InvS N low high 0 []:=⟨List.Pairwise.nil,λq=>by simp [Ao]⟩
theorem Kn {N:List Rt} {low high:Int} {i:Nat} {k:Ky}:k∈Ao (N.take i) low high↔∃j,∃d:j<N.length,j<i/\insB low high N[j]=true/\k∈sprK N[j].k high:=by
 unfold Ao;simp only [List.mem_flatMap,List.mem_filter];constructor
 ·rintro ⟨r,⟨e,b⟩,a⟩;obtain ⟨j,d,rfl⟩:=List.getElem_of_mem e;have c:=d;rw [Qs] at c;rw [List.getElem_take] at b a;exact ⟨j,Qa,Qa,b,a⟩
 ·rintro ⟨j,d,f,b,a⟩;refine ⟨N[j],⟨?_,b⟩,a⟩;rw [List.mem_take_iff_getElem];exact ⟨j,Qa,rfl⟩
theorem InvS.done {N:List Rt} {low high:Int} {K:List Rt} (H:InvS N low high N.length K):K=setS N low high:=by
 have a:=H.mem;rw [List.take_of_length_le (Qn _)] at a;by_cases b:low<high
 ·exact Z5i H.sorted λq=>by rw [a];simp only [b,true_and];exact Iff.rfl
 ·have d:Ao N low high=[]:=by
   unfold Ao;rw [List.filter_eq_nil_iff.2 λr _ => ?_]
   ·rfl
   ·unfold insB;simp only [Qq,decide_eq_true_eq];omega
  unfold setS;rw [if_neg b];refine List.eq_nil_iff_forall_not_mem.2 λq c => ?_;have:=((a q).1 c).1;rw [d] at this;cases this
theorem H9 {N:List Rt} (c:∀r∈N,r.k.good) {low high:Int} {i:Nat} {k:Ky} (h:k∈Ao (N.take i) low high):k.n=high/\k.good/\Ap k.h k.l high=true:=by obtain ⟨j,b,-,-,a⟩:=Kn.1 h;have:=c _ (Qp b);have:=(Az this.1 this.2 _ _).1 a;exact ⟨this.2.2.2.1,⟨this.2.2.2.2.1,this.2.2.2.2.2.1⟩,this.2.2.2.2.2.2.1⟩
theorem InvS.o {N:List Rt} (c:∀r∈N,r.k.good) {low high:Int} {i:Nat} {K:List Rt} (H:InvS N low high i K) (hi:i<N.length) (a:insB low high N[i]=false):InvS N low high (i+1) K:=by refine ⟨H.sorted,λq => ?_⟩;rw [H.mem,Yb N low high i hi a];refine and_congr_right λb => ?_;rw [Oe hi];rw [(H9 c b).1];unfold insB at a;unfold Aw;rw [<-Bool.and_assoc,a];rfl
theorem InvS.none {N:List Rt} (u:Sorted N) (d:∀r∈N,r.k.good) {low high:Int} {i:Nat} {K:List Rt} (H:InvS N low high i K) (hi:i<N.length) (t:insB low high N[i]=true) (n:sprK N[i].k high=[]):InvS N low high (i+1) K:=by
 refine ⟨H.sorted,λq => ?_⟩;rw [H.mem,Od N low high i hi t,n,List.append_nil];refine and_congr_right λf => ?_;rw [Oe hi];obtain ⟨e,b,qr⟩:=H9 d f;rw [e];cases a:Aw q.k.h q.k.l low high N[i] with
 | false=>rfl
 | true=>exfalso;unfold Aw at a;simp only [Qq,decide_eq_true_eq] at a;obtain ⟨j,m,c,y,w⟩:=Kn.1 f;have s:=d _ (Qp m);have p:=d _ (Qp hi);have o:=(Az s.1 s.2 _ _).1 w;have x:=Ye u b.2 m hi c o.2.2.2.2.2.2.2 a.2.2;have:q.k∈sprK N[i].k high:=(Az p.1 p.2 _ _).2 ⟨a.2.1,o.2.1,Qa,e,b.1,b.2,qr,a.2.2⟩;rw [n] at this;cases this
theorem Of {k:Ky} (d:W64 k.l) (c:Ap k.h k.l k.n=true) {a b:Nat} (i:W64 b):hasB k.h k.l k.n a b=true↔kV k<=val a b/\val a b<kV k+2^(128-k.n.toNat):=by rw [Lb _ _ _ _ _ d i];obtain ⟨-,-,v,f⟩:=(Cv _ _ _ d).1 c;have p:0<2^(128-k.n.toNat):=Nat.two_pow_pos _;simp only [c,true_and];unfold kV;rw [f,Nat.mul_div_cancel_left _ p];rw [Nat.div_eq_iff p];have e:=Nat.mul_comm v (2^(128-k.n.toNat));constructor<;>intro h<;>constructor<;>omega
theorem Ko {k q:Ky} (g:k.good) {m:Int} (h:q∈sprK k m):Ap k.h k.l k.n=true:=Wa _ _ _ _ _ ((Az g.1 g.2 _ _).1 h).2.2.2.2.2.2.2
theorem Ia {k q:Ky} (g:k.good) {m:Int} (h:q∈sprK k m):kV k<=kV q/\kV q<kV k+2^(128-k.n.toNat):=by have a:=(Az g.1 g.2 _ _).1 h;exact (Of g.2 (Ko g h) a.2.2.2.2.2.1).1 a.2.2.2.2.2.2.2
theorem Og {k:Ky} (g:k.good) (m:Int) (j:Nat) (h:j<(sprK k m).length):kV (sprK k m)[j]=kV k+j*2^(128-m.toNat)/\(sprK k m)[j].n=m:=by
 have a:=(Az g.1 g.2 _ _).1 (Qp h);have c:=Ko g (Qp h);have b:j<(Bm k.h k.l k.n m).length:=by unfold sprK at h;rwa [List.length_map] at h
 rw [Yc k m j b,Vd ⟨c,a.1,a.2.1,a.2.2.1⟩ g.2 j b];unfold kyP kV;simp only;rw [Kx];exact ⟨rfl,by first|rfl|trivial⟩
theorem Yf {k:Ky} (g:k.good) (m v:Int):Sorted ((sprK k m).map λq=>⟨q,v⟩):=by unfold Sorted;rw [List.pairwise_map,List.pairwise_iff_getElem];intro i j hi d a;have c:=H8 g m (Qp hi);have b:=H8 g m (Qp d);refine (E0 c.2 b.2).2 (.inl ?_);rw [(Og g m i hi).1,(Og g m j d).1];have p:0<2^(128-m.toNat):=Nat.two_pow_pos _;have:=Nat.mul_lt_mul_of_pos_right a p;omega
theorem Zuw {L:List Rt} (h:Sorted L) (v:Int):Sorted (L.map λx=>⟨x.k,v⟩):=by
 unfold Sorted at *
 rw [List.pairwise_map];exact h
theorem Yg {α:Type} {p:α->Bool} {x:α}:∀{l:List α},x∈l.takeWhile p->p x=true
 | [],h=>by cases h
 | a::l,h=>by
  rw [List.takeWhile_cons] at h;split at h
  ·rename_i ha;rcases List.mem_cons.1 h with e | e
   ·rw [e];exact ha
   ·exact Yg e
  ·cases h
theorem InvS.lay {N:List Rt} (hN:Sorted N) (hg:∀r∈N,r.k.good) {low high:Int} {i:Nat} {K:List Rt} (H:InvS N low high i K) (hi:i<N.length) (hc:insB low high N[i]=true) (h0:0<(sprK N[i].k high).length) :
 ∃P M S,K=P++(M++S)/\P.length=bh K (sprK N[i].k high)[0]/\(M.map Rt.k=sprK N[i].k high\/(M=[]/\S=[]))/\InvS N low high (i+1) (P++((sprK N[i].k high).map (λq=>(⟨q,N[i].v⟩:Rt))++S)):=by
 have m:=hg _ (Qp hi);have aw:=Od N low high i hi hc;have a5:=Og m high 0 h0;have U:=Qp h0;have E:=(Az m.1 m.2 _ _).1 U;have a9:=H8 m high U;have ag:=Ko m U;rw [Nat.zero_mul,Nat.add_zero] at a5;obtain ⟨u,hu⟩:=Q' ((sprK N[i].k high)[0]);rw [<-hu] at a5 U E a9 ⊢;have az:=Eo K u
 -- who is in the row, told by numbers
 have hK:∀x∈K,x.k.n=high/\x.k.good/\Ap x.k.h x.k.l high=true:=λx c=>H9 hg ((H.mem x).1 c).1;have I:∀x∈K,(x.k∈sprK N[i].k high↔kV N[i].k<=kV x.k/\kV x.k<kV N[i].k+2^(128-N[i].k.n.toNat)):=λx c=>by
  obtain ⟨x1,x2,x3⟩:=hK x c;constructor
  ·exact Ia m
  ·intro h;exact (Az m.1 m.2 _ _).2 ⟨E.1,E.2.1,E.2.2.1,x1,x2.1,x2.2,x3,(Of m.2 ag x2.2).2 h⟩
 have hP:∀x∈K.take (bh K u),kV x.k<kV N[i].k:=λx c=>by
  obtain ⟨j,hj,rfl⟩:=List.getElem_of_mem c;have a8:=hj;rw [Qs] at a8;rw [List.getElem_take];have A:=L9 K u j Qa Qa;have Q:=hK _ (Qp (show j<K.length by omega));rcases (E0 Q.2.1.2 a9.2).1 A with t | ⟨-,t⟩
  ·omega
  ·rw [Q.1,a5.2] at t;omega
 have hR:∀x∈K.drop (bh K u),kV N[i].k<=kV x.k:=λx c=>by
  obtain ⟨j,hj,rfl⟩:=List.getElem_of_mem c;have a8:=hj;rw [List.length_drop] at a8;rw [List.getElem_drop];have A:=Ma K u H.sorted (bh K u+j) Qa Qa;have Q:=hK _ (Qp (show bh K u+j<K.length by omega));by_cases t:kV N[i].k<=kV K[bh K u+j].k
  ·exact t
  ·have:=(E0 Q.2.1.2 a9.2).2 (.inl Qa);rw [A] at this;cases this
 have J:∀x∈K.drop (bh K u),x∈K:=λx c=>List.mem_of_mem_drop c;have ad:Sorted (K.drop (bh K u)):=List.Pairwise.drop H.sorted;obtain ⟨R,am⟩:=Q' (K.drop (bh K u));rw [<-am] at hR J ad;obtain ⟨top,ac⟩:=Q' (kV N[i].k+2^(128-N[i].k.n.toNat));rw [<-ac] at I;have a3:∀x∈R.takeWhile (λx=>decide (kV x.k<top)),kV x.k<top:=λx c=>by have h:=Yg (p:=λx:Rt=>decide (kV x.k<top)) c;exact of_decide_eq_true h
 have d:R.takeWhile (λx=>decide (kV x.k<top))++R.dropWhile (λx=>decide (kV x.k<top))=R:=List.takeWhile_append_dropWhile;have F:∀x∈R.dropWhile (λx=>decide (kV x.k<top)),top<=kV x.k:=by
  intro x c;cases hd:R.dropWhile (λx=>decide (kV x.k<top)) with
  | nil=>rw [hd] at c;cases c
  | cons y D=>
   have hy:¬kV y.k<top:=by have:=List.head?_dropWhile_not (λx:Rt=>decide (kV x.k<top)) R;rw [hd] at this;simpa using this
   rw [hd] at c d;have au:Sorted (y::D):=by have:=ad;rw [<-d] at this;exact (List.pairwise_append.1 this).2.1
   rcases List.mem_cons.1 c with rfl | c
   ·omega
   ·have A:=(List.pairwise_cons.1 au).1 x c;have gy:=(hK y (J y (by rw [<-d];simp))).2.1;have gx:=(hK x (J x (by rw [<-d];simp [c]))).2.1;rcases (E0 gy.2 gx.2).1 A with t | ⟨t,-⟩<;>omega
 obtain ⟨Mm,hM⟩:∃Mm,Mm=R.takeWhile (λx=>decide (kV x.k<top)):=⟨_,rfl⟩;obtain ⟨S,hS⟩:∃S,S=R.dropWhile (λx=>decide (kV x.k<top)):=⟨_,rfl⟩;rw [<-hM] at a3 d;rw [<-hS] at F d;have s:K=K.take (bh K u)++(Mm++S):=by rw [d,am,List.take_append_drop]
 obtain ⟨P,an⟩:=Q' (K.take (bh K u));rw [<-an] at s hP;have ap:∀x∈Mm,x.k∈sprK N[i].k high:=λx c=>(I x (J x (by rw [<-d];simp [c]))).2 ⟨hR x (by rw [<-d];simp [c]),a3 x c⟩;have ak:∀x∈S,x.k∉sprK N[i].k high:=λx c h=>by have:=((I x (J x (by rw [<-d];simp [c]))).1 h).2;have:=F x c;omega
 have ao:∀x∈P,x.k∉sprK N[i].k high:=λx c h=>by have:=(I x (by rw [s];simp [c])).1 h;have:=hP x c;omega
 have ae:=H.sorted;rw [s] at ae;have a6:=List.pairwise_append.1 ae;have a1:=List.pairwise_append.1 a6.2.1;refine ⟨P,Mm,S,s,by rw [an,Qs];omega,?_,?_,?_⟩
 ·by_cases al:R=[]
  ·rw [al] at d;exact .inr (List.append_eq_nil_iff.1 d)
  ·refine .inl ?_;obtain ⟨x,c⟩:=List.exists_mem_of_ne_nil R al;have aq:=(H.mem x).1 (J x c);obtain ⟨j,hj,aj,A,t⟩:=Kn.1 aq.1;have Y:=hg _ (Qp hj);have a4:=(Az Y.1 Y.2 _ _).1 t;have b0:=Ia Y t;have af:=Ko Y t;have b5:=hR x c;have ah:kV N[j].k<kV N[i].k\/(kV N[j].k=kV N[i].k/\N[j].k.n<N[i].k.n):=(E0 Y.2 m.2).1 (List.pairwise_iff_getElem.1 hN j i hj hi aj);obtain ⟨j0,j1,j2⟩:=(Cv _ _ _ Y.2).1 af;obtain ⟨i0,i1,i2⟩:=(Cv _ _ _ m.2).1 ag;have b4:N[j].k.n<=N[i].k.n:=by
    rcases ah with f | ⟨-,f⟩
    ·by_cases h4:N[j].k.n<=N[i].k.n
     ·exact h4
     ·exfalso;have e:2^(128-N[i].k.n.toNat)=2^(128-N[j].k.n.toNat)*2^(N[j].k.n.toNat-N[i].k.n.toNat):=by rw [<-Nat.pow_add];congr 1;omega
      obtain ⟨vi,C⟩:=i2;obtain ⟨vj,B⟩:=j2;have C:kV N[i].k=2^(128-N[j].k.n.toNat)*(2^(N[j].k.n.toNat-N[i].k.n.toNat)*vi):=by unfold kV;rw [C,e,Nat.mul_assoc]
      have B:kV N[j].k=2^(128-N[j].k.n.toNat)*vj:=B;have p:0<2^(128-N[j].k.n.toNat):=Nat.two_pow_pos _;generalize 2^(128-N[j].k.n.toNat)=w at *
      generalize 2^(N[j].k.n.toNat-N[i].k.n.toNat)*vi=z at *
      rw [C,B] at f;have h5:vj<z:=Nat.lt_of_mul_lt_mul_left f;have h6:w*(vj+1)<=w*z:=Nat.mul_le_mul_left w h5;rw [Nat.mul_add,Nat.mul_one] at h6;omega
    ·omega
   have ay:kV N[i].k+2^(128-N[i].k.n.toNat)<=kV N[j].k+2^(128-N[j].k.n.toNat):=by
    have e:2^(128-N[j].k.n.toNat)=2^(128-N[i].k.n.toNat)*2^(N[i].k.n.toNat-N[j].k.n.toNat):=by rw [<-Nat.pow_add];congr 1;omega
    obtain ⟨vi,C⟩:=i2;obtain ⟨vj,B⟩:=j2;have X:kV N[i].k<kV N[j].k+2^(128-N[j].k.n.toNat):=Qa;have C:kV N[i].k=2^(128-N[i].k.n.toNat)*vi:=C;have B:kV N[j].k=2^(128-N[i].k.n.toNat)*(2^(N[i].k.n.toNat-N[j].k.n.toNat)*vj):=by unfold kV;rw [B,e,Nat.mul_assoc]
    rw [e] at X ⊢;rw [C,B] at X ⊢;generalize 2^(128-N[i].k.n.toNat)=w at *
    generalize 2^(N[i].k.n.toNat-N[j].k.n.toNat)=z at *
    rw [<-Nat.mul_add] at X ⊢;have h5:vi<z*vj+z:=Nat.lt_of_mul_lt_mul_left X;have h6:w*(vi+1)<=w*(z*vj+z):=Nat.mul_le_mul_left w h5;rw [Nat.mul_add,Nat.mul_one] at h6;exact h6
   have ax:∀q∈sprK N[i].k high,∃y∈Mm,y.k=q:=λq o=>by
    have L:=(Az m.1 m.2 _ _).1 o;have b3:=Ia m o;have av:q∈sprK N[j].k high:=(Az Y.1 Y.2 _ _).2 ⟨a4.1,a4.2.1,a4.2.2.1,L.2.2.2.1,L.2.2.2.2.1,L.2.2.2.2.2.1,L.2.2.2.2.2.2.1,(Of Y.2 af L.2.2.2.2.2.1).2 ⟨by show kV N[j].k<=kV q;omega,by show kV q<_;omega⟩⟩;have ab:(⟨q,(hopJ N low q i).getD 0⟩:Rt)∈K:=(H.mem _).2 ⟨Kn.2 ⟨j,hj,aj,A,av⟩,rfl⟩;rw [s] at ab;rcases List.mem_append.1 ab with f | f
    ·exact absurd o (ao _ f)
    ·rcases List.mem_append.1 f with f | f
     ·exact ⟨_,f,rfl⟩
     ·exact absurd o (ak _ f)
   have he:Mm.map (λx=>(⟨x.k,0⟩:Rt))=(sprK N[i].k high).map λq=>⟨q,0⟩:=by
    refine Du (Zuw a1.1 0) (Yf m high 0) λq => ?_;simp only [List.mem_map];constructor
    ·rintro ⟨x,c,rfl⟩;exact ⟨x.k,ap x c,rfl⟩
    ·rintro ⟨k,hk,rfl⟩;obtain ⟨y,hy,rfl⟩:=ax k hk;exact ⟨y,hy,rfl⟩
   have:=congrArg (List.map Rt.k) he;simpa [List.map_map,Function.comp_def] using this
 ·-- sorted
  have gP:∀x∈P,x.k.good:=λx c=>(hK x (by rw [s];simp [c])).2.1;have gS:∀x∈S,x.k.good:=λx c=>(hK x (by rw [s];simp [c])).2.1;refine List.pairwise_append.2 ⟨a6.1,List.pairwise_append.2 ⟨Yf m high _,a1.2.1,?_⟩,?_⟩
  ·intro a ha b hb;obtain ⟨q,o,rfl⟩:=List.mem_map.1 ha;refine (E0 (H8 m high o).2 (gS b hb).2).2 (.inl ?_);have:=(Ia m o).2;have:=F b hb;show kV q<kV b.k;omega
  ·intro a ha b hb;rcases List.mem_append.1 hb with hb | hb
   ·obtain ⟨q,o,rfl⟩:=List.mem_map.1 hb;refine (E0 (gP a ha).2 (H8 m high o).2).2 (.inl ?_);have:=(Ia m o).1;have:=hP a ha;show kV a.k<kV q;omega
   ·exact a6.2.2 a ha b (List.mem_append.2 (.inr hb))
 ·-- its members
  intro q;rw [aw];unfold insB at hc;simp only [Qq,decide_eq_true_eq] at hc;have ai:∀x∈K,x.k∉sprK N[i].k high->hopJ N low x.k (i+1)=hopJ N low x.k i:=λx c ar=>by
   refine Oe hi ?_;obtain ⟨x1,x2,x3⟩:=hK x c;cases aa:Aw x.k.h x.k.l low x.k.n N[i] with
   | false=>rfl
   | true=>unfold Aw at aa;simp only [Qq,decide_eq_true_eq] at aa;exact absurd ((Az m.1 m.2 _ _).2 ⟨E.1,E.2.1,E.2.2.1,x1,x2.1,x2.2,x3,aa.2.2⟩) ar
  have Z:∀k∈sprK N[i].k high,hopJ N low k (i+1)=some N[i].v:=λk hk=>by have a7:=(Az m.1 m.2 _ _).1 hk;refine Z26 hN a7.2.2.2.2.2.1 hi ?_;unfold Aw;rw [a7.2.2.2.1,a7.2.2.2.2.2.2.2,decide_eq_true hc.1,decide_eq_true hc.2];rfl
  constructor
  ·intro o;have a2:q∈K->q.k∉sprK N[i].k high->q.k∈Ao (N.take i) low high++sprK N[i].k high/\q.v=(hopJ N low q.k (i+1)).getD 0:=λA t=>by have f:=(H.mem q).1 A;exact ⟨List.mem_append.2 (.inl f.1),by rw [ai q A t];exact f.2⟩
   rcases List.mem_append.1 o with o | o
   ·exact a2 (by rw [s];simp [o]) (ao q o)
   ·rcases List.mem_append.1 o with o | o
    ·obtain ⟨k,hk,rfl⟩:=List.mem_map.1 o;exact ⟨List.mem_append.2 (.inr hk),by rw [Z k hk];rfl⟩
    ·exact a2 (by rw [s];simp [o]) (ak q o)
  ·rintro ⟨A,t⟩;by_cases O:q.k∈sprK N[i].k high
   ·rw [Z _ O] at t;refine List.mem_append.2 (.inr (List.mem_append.2 (.inl (List.mem_map.2 ⟨q.k,O,?_⟩))));obtain ⟨k,v⟩:=q;exact congrArg _ t.symm
   ·rcases List.mem_append.1 A with A | A
    ·have hd:hopJ N low q.k (i+1)=hopJ N low q.k i:=by have:=ai ⟨q.k,(hopJ N low q.k i).getD 0⟩ ((H.mem _).2 ⟨A,rfl⟩) O;exact this
     rw [hd] at t;have f:=(H.mem q).2 ⟨A,t⟩;rw [s] at f;rcases List.mem_append.1 f with f | f
     ·exact List.mem_append.2 (.inl f)
     ·rcases List.mem_append.1 f with f | f
      ·exact absurd (ap q f) O
      ·exact List.mem_append.2 (.inr (List.mem_append.2 (.inr f)))
    ·exact absurd A O
theorem Yh:∀{L M:List Ky},L.Nodup->(∀k∈L,k∈M)->L.length<=M.length
 | [],_,_,_=>Nat.zero_le _
 | a::L,M,d,h=>by have ha:=h a List.mem_cons_self;have c:=List.nodup_cons.1 d;have:=Yh (M:=M.erase a) c.2 λk b=>(List.mem_erase_of_ne (λe=>c.1 (by rw [<-e];exact b))).2 (h k (List.mem_cons_of_mem _ b));rw [List.length_erase_of_mem ha] at this;have f:0<M.length:=List.length_pos_of_mem ha;simp only [Qt];omega
theorem InvS.len {N:List Rt} (c:∀r∈N,r.k.good) {low high:Int} {i:Nat} {K:List Rt} (H:InvS N low high i K) (hi:i<=N.length):K.length<=256*i:=by
 have h:=Yh (L:=Aa K) (M:=Ao (N.take i) low high) H.sorted.nodup λk a=>by unfold Aa at a;obtain ⟨q,b,rfl⟩:=List.mem_map.1 a;exact ((H.mem q).1 b).1
 unfold Aa at h;rw [List.length_map] at h;have:=Km N low high c i hi;omega
end
section
open Go Go.RowKit Go.Sort M
def B6 (n:Int):Nat:=if n<0 then 0 else if 8<n then 8 else n.toNat
theorem Z34 (n:Int):B6 n<=8:=by unfold B6;split<;>(try split)<;>omega
def dirK (L:List Rt) (b a m:Nat):Option Int:=hopK (Af L) (-1) (cutK b a m)
def dirV (L:List Rt) (b a m:Nat):Int:=(dirK L b a m).getD 0
structure DirC (A:World->(Nat->Prop)->Nat->Nat->List Rt->Prop):Prop where
 new:∀(n:Int) (w:World),Calls prog 33 #[.int .i64 n] w λe w'=>∃t,e = .returned (.pointer (some ⟨t,0,none⟩))/\Below w.heap.size w w'/\A w' (In w.heap.size w'.heap.size) t (B6 n) []
 fill:∀(w:World) (K:Nat->Prop) (t m:Nat) (L0 L:List Rt) (p:Option Addr) (c:Nat),A w K t m L0->Row w p (rcs L)->(∀x∈L,x.k.good)->(p=none->c=0)->L.length<=c->L.length<=4000 ->
  Calls prog 77 #[.pointer (some ⟨t,0,none⟩),.slice p L.length c] w λe w'=>e = .returned (.tuple #[])/\∃K',A w' K' t m L/\Touch K w w'/\∀g,K' g->K g\/In w.heap.size w'.heap.size g
 len:∀(w:World) (K:Nat->Prop) (t m:Nat) (L:List Rt),A w K t m L->Calls prog 91 #[.pointer (some ⟨t,0,none⟩)] w λe w'=>e = .returned (.int .i64 ((2^m:Nat):Int))/\Below w.heap.size w w'
 touched:∀(w w':World) (K S:Nat->Prop) (t m:Nat) (L:List Rt),A w K t m L->Touch S w w'->(∀g,K g->¬S g)->A w' K t m L
theorem DirC.below {A:World->(Nat->Prop)->Nat->Nat->List Rt->Prop} (D:DirC A) {w w':World} {K:Nat->Prop} {t m:Nat} {L:List Rt} (h:A w K t m L) (a:Below w.heap.size w w'):A w' K t m L:=
 D.touched w w' K (λ_=>False) t m L h (Touch.quiet a) (λ_ _ x=>x)
theorem Z6u (b a m:Nat):dirK [] b a m=none:=by unfold dirK hopK;rfl
theorem cap8 (n:Int):(if n<0 then (0:Int) else if 8<n then 8 else n)=(B6 n:Int):=by
 unfold B6;split
 ·rfl
 ·split
  ·rfl
  ·omega
def numA (a m:Nat):Nat:=a/2^(64-m)
theorem Yi {a m:Nat} (h:W64 a) (b:m<=64):numA a m<2^m:=by unfold numA;rw [Nat.div_lt_iff_lt_mul (Nat.two_pow_pos _),<-Nat.pow_add,show m+(64-m)=64 by omega];exact h
theorem Z5z {m i:Nat}:numA (i*2^(64-m)) m=i:=Nat.mul_div_cancel _ (Nat.two_pow_pos _)
theorem Z8b {m i:Nat} (a:m<=64) (hi:i<2^m):W64 (i*2^(64-m)):=by
 show i*2^(64-m)<2^64;have:=Nat.mul_lt_mul_of_pos_right hi (Nat.two_pow_pos (64-m))
 rwa [<-Nat.pow_add,show m+(64-m)=64 by omega] at this
theorem Z6v {b a m:Nat} (c:W64 a) (d:m<=8):cutK b a m=cutK (numA b m*2^(64-m)) 0 m:=by unfold cutK;rw [show m-64=0 by omega,Ku a c,Ku 0 Qd];unfold cutW numA;rw [Nat.mul_div_cancel _ (Nat.two_pow_pos _)]
theorem Z5y (a m:Nat):numA (cutW a m) m=numA a m:=by unfold cutW numA;rw [Nat.mul_div_cancel _ (Nat.two_pow_pos _)]
theorem Zzc {N:List Rt} (d:∀r∈N,W64 r.k.h/\W64 r.k.l) {c b m:Nat} (ha:W64 c) (i:W64 b) (n:m<=8):cutK c b m∈Ao N (-1) (m:Int)↔∃r∈N,Aw c b (-1) (m:Int) r=true:=by
 unfold Ao;simp only [List.mem_flatMap,List.mem_filter];refine exists_congr λr => ?_;constructor
 ·rintro ⟨⟨a,hi⟩,f⟩;refine ⟨a,?_⟩;unfold insB at hi;simp only [Qq,decide_eq_true_eq] at hi;have h:=((Az (d r a).1 (d r a).2 _ _).1 f).2.2.2.2.2.2.2;unfold cutK at h;simp only at h;rw [Ht r c b m hi.2] at h;unfold Aw;simp [hi.1,hi.2,h]
 ·rintro ⟨a,e⟩;unfold Aw at e;simp only [Qq,decide_eq_true_eq] at e;obtain ⟨j,c2,c3⟩:=e;refine ⟨⟨a,by unfold insB;simp [j,c2]⟩,(Az (d r a).1 (d r a).2 _ _).2 ⟨c2,Qa,Qa,rfl,ha.cut _,i.cut _,?_,?_⟩⟩
  ·have:=O9 c b (m:Int) Qa Qa;simpa [cutK] using this
  ·show hasB _ _ _ (cutW c m) (cutW b (m-64))=true;rw [Ht r c b m c2];exact c3
theorem Z3m {N:List Rt} (d:∀r∈N,W64 r.k.h/\W64 r.k.l) {b a m:Nat} (ha:W64 b) (e:W64 a) (c:m<=8):(hopK N (-1) (cutK b a m)).isSome=true↔cutK b a m∈Ao N (-1) (m:Int):=by rw [Zzc d ha e c,<-Nx];unfold hopK;rw [Option.isSome_map,We]
def PlOk (M:List Rt) (m j:Nat) (xs:List Value):Prop:=xs.length=2^m*2/\∀i,i<2^m->∃(v:Int) (b:Bool),xs[i*2]? = some (.int .i64 v)/\xs[i*2+1]? = some (.bool b) /\
 (((∃r∈M.take j,numA r.k.h m=i/\r.v=v)/\b=true)\/((∀r∈M.take j,numA r.k.h m≠i)/\v=0/\b=false))
theorem PlOk.start (M:List Rt) (m:Nat):PlOk M m 0 (madeCells #[.int .i64 0,.bool false] (2^m*2)).toList:=by
 refine ⟨by simp [madeCells],λi hi=>⟨0,false,?_,?_,.inr ⟨Qf,rfl,rfl⟩⟩⟩
 ·have:i*2<2^m*2:=Qa;simp [madeCells,this]
 ·have:i*2+1<2^m*2:=Qa;simp [madeCells,this]
theorem PlOk.next {M:List Rt} {m j:Nat} {xs:List Value} (H:PlOk M m j xs) (n:j<M.length) (s:numA M[j].k.h m<2^m) :
 PlOk M m (j+1) ((xs.set (numA M[j].k.h m*2) (.int .i64 M[j].v)).set (numA M[j].k.h m*2+1) (.bool true)):=by
 obtain ⟨l,H⟩:=H;refine ⟨by simpa using l,λi hi => ?_⟩;have c:=List.take_succ_eq_append_getElem n;rw [c];by_cases e:numA M[j].k.h m=i
 ·subst e;refine ⟨M[j].v,true,?_,?_,.inl ⟨⟨M[j],List.mem_append_right _ (List.mem_singleton.2 rfl),rfl,rfl⟩,rfl⟩⟩
  ·rw [List.getElem?_set_ne Qa,List.getElem?_set_self Qa]
  ·rw [List.getElem?_set_self Qe]
 ·obtain ⟨v,b,q,p,o⟩:=H i hi;refine ⟨v,b,?_,?_,?_⟩
  ·rw [List.getElem?_set_ne Qa,List.getElem?_set_ne Qa];exact q
  ·rw [List.getElem?_set_ne Qa,List.getElem?_set_ne Qa];exact p
  ·rcases o with ⟨⟨r,a,f⟩,d⟩ | ⟨f,d⟩
   ·exact .inl ⟨⟨r,List.mem_append_left _ a,f⟩,d⟩
   ·refine .inr ⟨λr a => ?_,d⟩;rcases List.mem_append.1 a with a | a
    ·exact f r a
    ·simp only [List.mem_singleton] at a;subst a;exact e
theorem PlOk.done {L:List Rt} (B:∀x∈L,x.k.good) {m:Nat} (n:m<=8) {xs:List Value} (H:PlOk (setS (Af L) (-1) (m:Int)) m (setS (Af L) (-1) (m:Int)).length xs) :
 ∀i,i<2^m->xs[i*2]? = some (.int .i64 (dirV L (i*2^(64-m)) 0 m))/\xs[i*2+1]? = some (.bool (dirK L (i*2^(64-m)) 0 m).isSome):=by
 intro i hi;have c:∀r∈Af L,r.k.good:=λx y=>B x (Gi y);have ha:W64 (i*2^(64-m)):=Z8b Qa hi;have w:W64 0:=W64.mk Qd;obtain ⟨v,b,s,q,p⟩:=H.2 i hi;rw [List.take_of_length_le (Qn _)] at p;have a:=Z3m c ha w n;rcases p with ⟨⟨r,z,h,C⟩,rfl⟩ | ⟨h,rfl,rfl⟩
 ·obtain ⟨-,d,o⟩:=(Ex _ _ _ _).1 z;obtain ⟨k1,u,t⟩:=H9 (low := -1) (high:=(m:Int)) (i:=(Af L).length) c (by rw [List.take_of_length_le (Qn _)];exact d);have A:r.k=cutK (i*2^(64-m)) 0 m:=by rw [<-h,<-Z6v u.2 n];obtain ⟨-,-,l,j⟩:=(Fj _ _ _).1 t;rw [Int.toNat_natCast] at l j;unfold cutK;rw [l,j,<-k1]
  rw [A] at d o;refine ⟨?_,?_⟩
  ·rw [s,<-C,o];rfl
  ·rw [q];unfold dirK;rw [a.2 d]
 ·have f:dirK L (i*2^(64-m)) 0 m=none:=by
   unfold dirK;cases e:hopK (Af L) (-1) (cutK (i*2^(64-m)) 0 m) with
   | none=>rfl
   | some x=>have d:=a.1 (by rw [e];rfl);refine absurd ?_ (h ⟨cutK (i*2^(64-m)) 0 m,hopV (Af L) (-1) (cutK (i*2^(64-m)) 0 m)⟩ ((Ex _ _ _ _).2 ⟨Qa,d,rfl⟩));show numA (cutW _ m) m=i;rw [Z5y,Z5z]
  unfold dirV;rw [f];exact ⟨s,q⟩
structure DirP (w:World) (K:Nat->Prop) (t m:Nat) (L:List Rt):Prop where
 kt:K t
 lt:t<w.heap.size
 le:m<=8
 bits:w.cell? ⟨t,0,none⟩=some (.int .i64 (m:Int))
 f:w.frozen? ⟨t,1,none⟩=false
 row:∃h,K h/\h<w.heap.size/\h≠t/\w.cell? ⟨t,1,none⟩=some (.slice (some ⟨h,0,none⟩) (2^m) (2^m)) /\
  ∀i,i<2^m->w.cell? ⟨h,i*2,none⟩=some (.int .i64 (dirV L (i*2^(64-m)) 0 m))/\w.cell? ⟨h,i*2+1,none⟩=some (.bool (dirK L (i*2^(64-m)) 0 m).isSome)
theorem DirP.touched {w w':World} {K S:Nat->Prop} {t m:Nat} {L:List Rt} (H:DirP w K t m L) (a:Touch S w w') (b:∀g,K g->¬S g):DirP w' K t m L:=by obtain ⟨h,k1,j,e,d,c⟩:=H.row;refine ⟨H.kt,Qm H.lt a.size,H.le,a.cell H.bits (b _ H.kt),?_,h,k1,Qm j a.size,e,a.cell d (b _ H.kt),λi hi=>⟨a.cell (c i hi).1 (b _ k1),a.cell (c i hi).2 (b _ k1)⟩⟩;rw [World.frozen?_of_block (a.block t H.lt (b _ H.kt))];exact H.f
end
section
open M
theorem Yj (f:Nat->Nat):∀n,sumF f n=smF f n
 | 0=>rfl
 | n+1=>by rw [sumF,smF,Yj f n]
theorem Yk (C:List Int) (m j:Nat):atC (C.take m) j=if j<m then atC C j else 0:=by
 unfold atC;by_cases h:j<m
 ·rw [if_pos h];by_cases a:j<C.length
  ·rw [List.getD_eq_getElem?_getD,List.getD_eq_getElem?_getD,List.getElem?_take_of_lt h]
  ·rw [List.getD_eq_getElem?_getD,List.getD_eq_getElem?_getD,List.getElem?_take_of_lt h]
 ·rw [if_neg h,List.getD_eq_getElem?_getD,List.getElem?_eq_none (by rw [Qs];omega)];rfl
theorem Zv6 (C:List Int) (a b:Int) (e:0<=a) (i:a<b) (h:b-a<=20) (f:b<=128):C3 (C.take (b.toNat+1)) [b] a=some (sumE C a b):=by obtain ⟨m,rfl⟩:=Qv e;obtain ⟨n,rfl⟩:=Qv (show 0<=b by omega);have c:okC (n-m) n m [n]=true:=Ce.2 ⟨Qa,Qa,Cs.2 rfl⟩;have:=S8 C (C.take (n+1)) (st:=n-m) (wd:=n) Qa Qa (λj d=>by rw [Yk,if_pos Qa]) (λj d=>by rw [Yk,if_neg Qa]) [n] m c;show C3 (C.take (n+1)) (toI [n]) (m:Int)=_;rw [this];show some (ptC C m n+0)=some (sumE C (m:Int) (n:Int));unfold ptC sumE;rw [Yj,Nat.add_zero,show ((n:Int)-(m:Int)).toNat=n-m by omega,Int.toNat_natCast];congr 1;refine E5 _ λj d => ?_;rw [show n-(m+1+j)=n-m-1-j by omega]
theorem Yl {R:List Rt} (h:Sorted R) (k:Ky) (v:Int) (d:0<=v):lvlM R k v=Ak R ⟨k,v⟩:=by
 unfold lvlM;rw [if_pos d];have c:=Cm k h;refine Du (Cb _ c) (Cb _ h) λq => ?_;rw [Dt c,Dt h,A6];constructor
 ·rintro (e | ⟨⟨b,a⟩,f⟩)
  ·exact .inl e
  ·exact .inr ⟨b,f⟩
 ·rintro (e | ⟨b,a⟩)
  ·exact .inl e
  ·exact .inr ⟨⟨b,a⟩,a⟩
theorem Ym (R:List Rt) (k:Ky):lvlM R k (-1)=outS R k:=by unfold lvlM;rw [if_neg Qa]
def atL (a:Int) (L:List Lv) (i:Nat):Int:=if i=0 then a else (L.map Lv.n).getD (i-1) 0
theorem Oh (a:Int) (L:List Lv) (i:Nat) (h:i<L.length):atL a L (i+1)=L[i].n:=by unfold atL;rw [if_neg Qa,Nat.add_sub_cancel,List.getD_eq_getElem?_getD,List.getElem?_map,Qr h];rfl
theorem Yn (a:Int) (V:Lv) (L:List Lv) (i:Nat) (h:i<=L.length):atL a (V::L) (i+1)=atL V.n L i:=by
 rw [Oh _ _ _ Qe];cases i with
 | zero=>rfl
 | succ i=>rw [Oh _ _ _ Qa];simp
theorem Yo (R R':List Rt):∀(L:List Lv) (a:Int) (i:Nat) (h:i<L.length),(B2 R R' a L)[i]? = some (L[i].turns (ofS (setS R (atL a L i) L[i].n) (setS R' (atL a L i) L[i].n)))
 | V::L,a,0,_=>rfl
 | V::L,a,i+1,h=>by
  have hi:i<L.length:=by simpa using h
  have:=Yo R R' L V.n i hi;unfold B2;rw [List.getElem?_cons_succ,this,Yn _ _ _ _ Qa];rfl
theorem Yp {R:List Rt}:∀(L:List Lv) (a:Int),EgLv R a L->∀(i:Nat) (h:i<L.length),(0<=atL a L i/\atL a L i<L[i].n/\L[i].n-atL a L i<=8/\L[i].n<=128)/\LvOk L[i] (setS R (atL a L i) L[i].n)
 | V::L,a,⟨c,_⟩,0,_=>c
 | V::L,a,⟨_,b⟩,i+1,h=>by
  have hi:i<L.length:=by simpa using h
  have:=Yp L V.n b i hi;rw [Yn _ _ _ _ Qa];exact this
theorem Yq {R:List Rt}:∀(L:List Lv) (a:Int),a<=128->EgLv R a L->(L.length:Int)<=128-a
 | [],a,h,_=>Qe
 | V::L,a,h,⟨⟨c,_⟩,b⟩=>by have:=Yq L V.n c.2.2.2 b;rw [Qt];omega
def midE (R R':List Rt) (a:Int) (L:List Lv) (i:Nat):List Lv:=(B2 R R' a L).take i++L.drop i
theorem Zys (R R':List Rt) (a:Int) (L:List Lv):midE R R' a L 0=L:=by simp [midE]
theorem Z2g (R R':List Rt) (a:Int) (L:List Lv):midE R R' a L L.length=B2 R R' a L:=by unfold midE;rw [List.take_of_length_le (by rw [Hx];omega),List.drop_length,List.append_nil]
theorem Z2f (R R':List Rt) (a:Int) (L:List Lv) (i:Nat) (h:i<=L.length):(midE R R' a L i).length=L.length:=by unfold midE;rw [Qo,Qs,Hx,List.length_drop];omega
theorem Z55 (R R':List Rt) (a:Int) (L:List Lv) (i:Nat) (h:i<L.length):(midE R R' a L i)[i]? = some L[i]:=by unfold midE;rw [List.getElem?_append_right (by rw [Qs];omega),Qs,Hx,Nat.min_eq_left Qa,Nat.sub_self,List.getElem?_drop,Nat.add_zero,Qr h]
theorem Z2e (R R':List Rt) (a:Int) (L:List Lv) (i:Nat) (h:i<L.length):(midE R R' a L i).set i (L[i].turns (ofS (setS R (atL a L i) L[i].n) (setS R' (atL a L i) L[i].n)))=midE R R' a L (i+1):=by have c:=Yo R R' L a i h;have b:=Hx R R' L a;unfold midE;rw [List.set_append_right _ _ (by rw [Qs];omega),Qs,b,Nat.min_eq_left Qa,Nat.sub_self,List.drop_eq_getElem_cons h,List.set_cons_zero,List.take_add_one,c,Qu];rfl
theorem Z8k {R:List Rt} (h:Sorted R) (b a d:Nat):hopK (upS R (d:Int)) (-1) (cutK b a d)=hopK R (-1) (cutK b a d):=by rw [Z3n h,N5 h]
theorem Zwq {R:List Rt} (h:Sorted R) (r:Rt) (d:Int) (hd:d<r.k.n):upS (Ak R r) d=upS R d:=by
 refine Du (List.Pairwise.filter _ (Cb r h)) (List.Pairwise.filter _ h) λq => ?_;unfold upS;simp only [List.mem_filter,decide_eq_true_eq,Dt h];constructor
 ·rintro ⟨rfl | ⟨b,-⟩,a⟩
  ·omega
  ·exact ⟨b,a⟩
 ·rintro ⟨b,a⟩;exact ⟨.inr ⟨b,λe=>by rw [e] at a;omega⟩,a⟩
theorem Z1a {R:List Rt} (h:Sorted R) (k:Ky) (d:Int) (hd:d<k.n):upS (outS R k) d=upS R d:=by
 refine Du (List.Pairwise.filter _ (Cm k h)) (List.Pairwise.filter _ h) λq => ?_;unfold upS;simp only [List.mem_filter,decide_eq_true_eq,A6];constructor
 ·rintro ⟨⟨b,-⟩,a⟩;exact ⟨b,a⟩
 ·rintro ⟨b,a⟩;exact ⟨⟨b,λe=>by rw [e] at a;omega⟩,a⟩
end
end Go.Proofs.YtpdphfgpdgadpaaGreat

import Derived.Test.YtpdphfgpdgadpaaGreatGrown
import Derived.Test.YtpdphfgpdgadpaaGreatStb2
set_option linter.unusedSimpArgs false
set_option linter.unusedVariables false
namespace Go.Proofs.YtpdphfgpdgadpaaGreat
section
open M
def kyP (p:Pf):Ky:=⟨hiW p.a,loW p.a,p.n⟩
def sprK (k:Ky) (m:Int):List Ky:=(Bm k.h k.l k.n m).map kyP
theorem V9 (a m n x:Nat):x∈Dz a m n↔∃i,i<2^(n-m)/\x=a+i*2^(128-n):=by
 unfold Dz;rw [List.mem_map];constructor
 ·rintro ⟨i,hi,rfl⟩;exact ⟨i,by simpa using hi,rfl⟩
 ·rintro ⟨i,hi,rfl⟩;exact ⟨i,by simpa using hi,rfl⟩
theorem Wa (h l:Nat) (n:Int) (a b:Nat) (c:hasB h l n a b=true):Ap h l n=true:=((O8 _ _ _ _ _).1 c).1
theorem Az {k:Ky} (N:W64 k.h) (r:W64 k.l) (q:Ky) (m:Int) :
 q∈sprK k m↔k.n<=m/\m<=128/\m-k.n<=8/\q.n=m/\W64 q.h/\W64 q.l/\Ap q.h q.l m=true/\hasB k.h k.l k.n q.h q.l=true:=by
 obtain ⟨u,t,s⟩:=k;unfold sprK;simp only at *
 by_cases p:Ap u t s=true/\s<=m/\m<=128/\m-s<=8
 ·rw [Vb p];obtain ⟨E,c2,c3,c4⟩:=p;obtain ⟨r0,O,j⟩:=(Cv _ _ _ r).1 E;obtain ⟨n,rfl⟩:=Qv r0;obtain ⟨M,rfl⟩:=Qv (show 0<=m by omega);simp only [Int.toNat_natCast] at j ⊢;have e:n<=M:=Qa;have f:M<=128:=Qa;have L:=N.val r;unfold pfs;rw [List.map_map,List.mem_map];constructor
  ·rintro ⟨x,z,rfl⟩;have d:=Z8 _ n M e f L j x z;obtain ⟨i,hi,rfl⟩:=(V9 _ _ _ _).1 z;refine ⟨Qa,Qa,Qa,rfl,d.1.hi,W128.lo,?_,?_⟩
   ·show Ap (hiW _) (loW _) _=true;rw [Cv _ _ _ W128.lo,Kx];exact ⟨Qa,Qa,by simpa using d.2⟩
   ·show hasB u t _ (hiW _) (loW _)=true;rw [Lb _ _ _ _ _ r W128.lo,Kx];exact ⟨E,by simpa using Z9 _ n M i e f j hi⟩
  ·rintro ⟨-,-,-,J,Q,o,I,F⟩;obtain ⟨-,-,d1⟩:=(Cv _ _ _ o).1 I;have d2:=((Lb _ _ _ _ _ r o).1 F).2;simp only [Int.toNat_natCast] at d1 d2;obtain ⟨X,B⟩:=Q' (val q.h q.l);rw [<-B] at d1 d2;refine ⟨X,(V9 _ _ _ _).2 ?_,?_⟩
   ·obtain ⟨y,w⟩:=d1;obtain ⟨v,A⟩:=j;have D:2^(128-n)=2^(128-M)*2^(M-n):=by rw [<-Nat.pow_add];congr 1;omega
    have K:0<2^(128-n):=Nat.two_pow_pos _;have p2:0<2^(128-M):=Nat.two_pow_pos _;have p3:0<2^(M-n):=Nat.two_pow_pos _;have d3:val u t/2^(128-n)=v:=by rw [A,Nat.mul_div_cancel_left _ K]
    rw [d3,w,D,Nat.mul_div_mul_left _ _ p2] at d2;refine ⟨y%2^(M-n),Nat.mod_lt _ p3,?_⟩;have C:=Nat.div_add_mod y (2^(M-n));rw [d2] at C;rw [A,D,w,Nat.mul_assoc,Nat.mul_comm (y%_),<-Nat.mul_add,C]
   ·show (⟨hiW X,loW X,(M:Int)⟩:Ky)=q;obtain ⟨a,b,c⟩:=q;simp only at *
    rw [B,Kw _ _ o,Pd _ _ o,J]
 ·rw [Zvu p];refine ⟨λh=>(by cases h),λh=>absurd ⟨Wa _ _ _ _ _ h.2.2.2.2.2.2.2,h.1,h.2.1,h.2.2.1⟩ p⟩
def hopK (N:List Rt) (low:Int) (k:Ky):Option Int:=(lngI N (Aw k.h k.l low k.n) N.length).map λi=>(N.getD i ⟨⟨0,0,0⟩,0⟩).v
def hopV (N:List Rt) (low:Int) (k:Ky):Int:=(hopK N low k).getD 0
def insB (low high:Int) (r:Rt):Bool:=decide (low<r.k.n)&&decide (r.k.n<=high)
def Ao (N:List Rt) (low high:Int):List Ky:=(N.filter (insB low high)).flatMap λr=>sprK r.k high
def setS (N:List Rt) (low high:Int):List Rt:=if low<high then Af ((Ao N low high).map λk=>⟨k,hopV N low k⟩) else []
theorem Du {L M:List Rt} (b:Sorted L) (a:Sorted M) (h:∀q,q∈L↔q∈M):L=M:=
 Iu b a ((List.perm_ext_iff_of_nodup (J5 b) (J5 a)).2 h)
theorem Wb (f:Ky->Int) (k:Ky):∀K:List Ky,((K.map λk=>(⟨k,f k⟩:Rt)).filter λr=>decide (r.k=k)).getLast? = if k∈K then some ⟨k,f k⟩ else none
 | []=>rfl
 | a::K=>by
  have c:=Wb f k K;rw [List.map_cons,List.filter_cons];by_cases h:a=k
  ·subst h;simp only [decide_true,if_true];rw [List.getLast?_cons,c];by_cases b:a∈K
   ·rw [if_pos b,if_pos (List.mem_cons_self)];rfl
   ·rw [if_neg b,if_pos (List.mem_cons_self)];rfl
  ·rw [if_neg (by simpa using h),c];by_cases b:k∈K
   ·rw [if_pos b,if_pos (List.mem_cons_of_mem _ b)]
   ·rw [if_neg b,if_neg (λe=>by rcases List.mem_cons.1 e with e | e;exact h e.symm;exact b e)]
theorem Wd (K:List Ky) (f:Ky->Int):Sorted (Af (K.map λk=>⟨k,f k⟩))/\∀q,q∈Af (K.map λk=>(⟨k,f k⟩:Rt))↔q.k∈K/\q.v=f q.k:=by
 obtain ⟨b,a⟩:=Cj (K.map λk=>(⟨k,f k⟩:Rt));refine ⟨b,λq => ?_⟩;rw [a];unfold lst;rw [Wb];obtain ⟨k,v⟩:=q;by_cases h:k∈K
 ·rw [if_pos h];simp only [h,true_and];constructor
  ·intro e;injection e with e;injection e with _ e;exact e.symm
  ·rintro rfl;rfl
 ·rw [if_neg h];simp [h]
theorem Ga (N:List Rt) (low high:Int):Sorted (setS N low high):=by
 unfold setS;split
 ·exact (Wd _ _).1
 ·exact List.Pairwise.nil
theorem Ex (N:List Rt) (low high:Int) (q:Rt):q∈setS N low high↔low<high/\q.k∈Ao N low high/\q.v=hopV N low q.k:=by
 unfold setS;by_cases h:low<high
 ·rw [if_pos h,(Wd _ _).2];simp [h]
 ·rw [if_neg h];simp [h]
theorem Z5i {M N:List Rt} {low high:Int} (a:Sorted M) (h:∀q,q∈M↔low<high/\q.k∈Ao N low high/\q.v=hopV N low q.k):M=setS N low high:=
 Du a (Ga N low high) λq=>by rw [h,Ex]
theorem Zvp {L:List Rt} {k:Ky} {q:Rt}:q∈outS L k↔q∈L/\q.k≠k:=by unfold outS;rw [List.mem_filter];simp
theorem Nv {L:List Rt} (c:(Aa L).Nodup) {a b:Rt} (ha:a∈L) (d:b∈L) (h:a.k=b.k):a=b:=by
 have:=(E4 c d).mem_iff.1 ha;rcases List.mem_cons.1 this with e | e
 ·exact e
 ·exact absurd h (Zvp.1 e).2
theorem Nw {L:List Rt} (h:Sorted L):Af L=L:=by
 obtain ⟨n,m⟩:=Cj L;refine Du n h λq => ?_;rw [m];have j:=h.nodup;constructor
 ·intro e;unfold lst at e;exact (List.mem_filter.1 (List.mem_of_getLast? e)).1
 ·intro c;unfold lst;have a:∀x∈L.filter (λr=>decide (r.k=q.k)),x=q:=λx i=>by obtain ⟨l,b⟩:=List.mem_filter.1 i;have b:x.k=q.k:=of_decide_eq_true b;exact Nv j l c b
  cases f:(L.filter λr=>decide (r.k=q.k)).getLast? with
  | none=>have:=List.getLast?_eq_none_iff.1 f;have d:q∈L.filter (λr=>decide (r.k=q.k)):=List.mem_filter.2 ⟨c,Qf⟩;rw [this] at d;cases d
  | some x=>rw [a x (List.mem_of_getLast? f)]
theorem Ht (r:Rt) (c b a:Nat) (h:r.k.n<=(a:Int)):hasB r.k.h r.k.l r.k.n (cutW c a) (cutW b (a-64))=hasB r.k.h r.k.l r.k.n c b:=by
 unfold hasB;rw [Gl,Gl];by_cases d:0<=r.k.n
 ·rw [show min a r.k.n.toNat=r.k.n.toNat by omega,show min (a-64) (r.k.n.toNat-64)=r.k.n.toNat-64 by omega]
 ·have:Ap r.k.h r.k.l r.k.n=false:=by unfold Ap;exact decide_eq_false Qa
  rw [this];rfl
theorem We (c b a:Nat) (low:Int):Aw (cutK c b a).h (cutK c b a).l low (cutK c b a).n=Aw c b low (a:Int):=by
 funext r;unfold Aw cutK;simp only;by_cases h:r.k.n<=(a:Int)
 ·rw [Ht r c b a h]
 ·rw [decide_eq_false h];simp
theorem Nx {N:List Rt} {c:Rt->Bool}:(lngI N c N.length).isSome=true↔∃r∈N,c r=true:=by
 have h:=Gq N c N.length (Qn _);cases e:lngI N c N.length with
 | none=>rw [e] at h;refine ⟨λh=>(by cases h),λ⟨r,d,a⟩ => ?_⟩;obtain ⟨i,hi,rfl⟩:=List.getElem_of_mem d;rw [h i hi hi] at a;cases a
 | some b=>rw [e] at h;obtain ⟨f,-,a,-⟩:=h;exact ⟨λ_=>⟨N[b],Qp f,a⟩,λ_=>rfl⟩
theorem Zzb {N:List Rt} (e:∀r∈N,W64 r.k.h/\W64 r.k.l) {d c a:Nat} {low:Int} (ha:W64 d) (j:W64 c) (o:a<=128) (n:(a:Int)-low<=8):cutK d c a∈Ao N low (a:Int)↔∃r∈N,Aw d c low (a:Int) r=true:=by
 unfold Ao;simp only [List.mem_flatMap,List.mem_filter];refine exists_congr λr => ?_;constructor
 ·rintro ⟨⟨b,hi⟩,i⟩;refine ⟨b,?_⟩;unfold insB at hi;simp only [Qq,decide_eq_true_eq] at hi;have h:=((Az (e r b).1 (e r b).2 _ _).1 i).2.2.2.2.2.2.2;unfold cutK at h;simp only at h;rw [Ht r d c a hi.2] at h;unfold Aw;simp [hi.1,hi.2,h]
 ·rintro ⟨b,f⟩;unfold Aw at f;simp only [Qq,decide_eq_true_eq] at f;obtain ⟨m,c2,c3⟩:=f;refine ⟨⟨b,by unfold insB;simp [m,c2]⟩,(Az (e r b).1 (e r b).2 _ _).2 ⟨c2,Qa,Qa,rfl,ha.cut _,j.cut _,?_,?_⟩⟩
  ·have:=O9 d c (a:Int) Qa Qa;simpa [cutK] using this
  ·show hasB _ _ _ (cutW d a) (cutW c (a-64))=true;rw [Ht r d c a c2];exact c3
def getS (N:List Rt) (k:Ky):Option Int:=(N.find? λr=>decide (r.k=k)).map Rt.v
theorem Dv {N:List Rt} (h:Sorted N) {k:Ky} {v:Int}:getS N k=some v↔(⟨k,v⟩:Rt)∈N:=by
 unfold getS;constructor
 ·intro e;obtain ⟨r,f,j⟩:=Option.map_eq_some_iff.1 e;have d:=List.mem_of_find?_eq_some f;have c:=List.find?_some f;have b:r.k=k:=of_decide_eq_true c;rw [<-b,<-j];exact d
 ·intro i;cases a:N.find? λr=>decide (r.k=k) with
  | none=>have:=List.find?_eq_none.1 a _ i;simp at this
  | some r=>have d:=List.mem_of_find?_eq_some a;have c:=List.find?_some a;have b:r.k=k:=of_decide_eq_true c;have:r=⟨k,v⟩:=Nv h.nodup d i b;rw [this];rfl
theorem Dw {N:List Rt} {k:Ky}:getS N k=none↔k∉Aa N:=by
 unfold getS Aa;rw [Option.map_eq_none_iff,List.find?_eq_none,List.mem_map];constructor
 ·rintro h ⟨r,a,e⟩;have:=h r a;simp [e] at this
 ·intro h r a;simp only [decide_eq_true_eq];exact λe=>h ⟨r,a,e⟩
theorem Wf {M N:List Rt} (b:Sorted M) (a:Sorted N) (h:∀k,getS M k=getS N k):M=N:=
 Du b a λq=>by obtain ⟨k,v⟩:=q;rw [<-Dv b,<-Dv a,h]
theorem J7 {N:List Rt} (h:Sorted N) (r:Rt) (k:Ky):getS (Ak N r) k=if k=r.k then some r.v else getS N k:=by
 have b:=Cb r h;have key:∀v,getS (Ak N r) k=some v↔(if k=r.k then some r.v else getS N k)=some v:=λv=>by
  rw [Dv b,Dt h];by_cases e:k=r.k
  ·rw [if_pos e];subst e;constructor
   ·rintro (a | ⟨_,a⟩)
    ·rw [<-a]
    ·exact absurd rfl a
   ·intro a;injection a with a;exact .inl (by rw [<-a])
  ·rw [if_neg e,Dv h];constructor
   ·rintro (a | ⟨a,_⟩)
    ·exact absurd (by rw [<-a]) e
    ·exact a
   ·exact λa => .inr ⟨a,e⟩
 cases a:getS (Ak N r) k with
 | some v=>exact ((key v).1 a).symm
 | none=>
  cases c:(if k=r.k then some r.v else getS N k) with
  | none=>rfl
  | some v=>rw [(key v).2 c] at a;cases a
theorem Fc {N:List Rt} (h:Sorted N) (j k:Ky):getS (outS N j) k=if k=j then none else getS N k:=by
 have b:=Cm j h;have key:∀v,getS (outS N j) k=some v↔(if k=j then none else getS N k)=some v:=λv=>by
  rw [Dv b,A6];by_cases e:k=j
  ·rw [if_pos e];constructor
   ·rintro ⟨_,a⟩;exact absurd e a
   ·intro a;cases a
  ·rw [if_neg e,Dv h];exact ⟨λa=>a.1,λa=>⟨a,e⟩⟩
 cases a:getS (outS N j) k with
 | some v=>exact ((key v).1 a).symm
 | none=>
  cases c:(if k=j then none else getS N k) with
  | none=>rfl
  | some v=>rw [(key v).2 c] at a;cases a
structure Ch where
 k:Ky
 o:Int
 n:Int
def chS (A B:List Rt) (k:Ky):Ch:=⟨k,(getS A k).getD (-1),(getS B k).getD (-1)⟩
def turnB (A B:List Rt) (k:Ky):Bool:=decide (getS A k≠getS B k)
def ofS (A B:List Rt):List Ch:=((Aa (Af (A++B))).filter (turnB A B)).map (chS A B)
def Fe (L:List Ch):Prop:=L.Pairwise λa b=>An a.k b.k=true
theorem Zy8 (l:List Rt) (k:Ky):k∈Aa (Af l)↔k∈Aa l:=by
 unfold Aa;simp only [List.mem_map];constructor
 ·rintro ⟨q,a,e⟩;have h:=((Cj l).2 q).1 a;unfold lst at h;exact ⟨q,(List.mem_filter.1 (List.mem_of_getLast? h)).1,e⟩
 ·rintro ⟨q,a,e⟩;cases b:(l.filter λr=>decide (r.k=k)).getLast? with
  | none=>have:=List.getLast?_eq_none_iff.1 b;have d:q∈l.filter (λr=>decide (r.k=k)):=List.mem_filter.2 ⟨a,by simp [e]⟩;rw [this] at d;cases d
  | some x=>have c:x.k=k:=of_decide_eq_true (List.mem_filter.1 (List.mem_of_getLast? b)).2;exact ⟨x,((Cj l).2 x).2 (by unfold lst;rw [c];exact b),c⟩
theorem Ff (A B:List Rt):Fe (ofS A B):=by have h:=(Cj (A++B)).1;unfold ofS Fe;rw [List.pairwise_map];refine List.Pairwise.filter _ ?_;unfold Aa;rw [List.pairwise_map];exact h
theorem J8 {A B:List Rt} {k:Ky} (h:getS A k≠getS B k):k∈Aa (A++B):=by
 unfold Aa;rw [List.map_append,List.mem_append];by_cases b:k∈Aa A
 ·exact .inl b
 ·by_cases a:k∈Aa B
  ·exact .inr a
  ·exact absurd ((Dw.2 b).trans (Dw.2 a).symm) h
theorem Bz (A B:List Rt) (c:Ch):c∈ofS A B↔getS A c.k≠getS B c.k/\c=chS A B c.k:=by
 unfold ofS;simp only [List.mem_map,List.mem_filter];constructor
 ·rintro ⟨k,⟨_,a⟩,rfl⟩;exact ⟨of_decide_eq_true a,rfl⟩
 ·rintro ⟨a,b⟩;exact ⟨c.k,⟨(Zy8 _ _).2 (J8 a),decide_eq_true a⟩,b.symm⟩
theorem Wg:∀{L M:List Ch},Fe L->Fe M->(∀c,c∈L↔c∈M)->L=M
 | [],[],_,_,_=>rfl
 | [],b::M,_,_,h=>absurd ((h b).2 List.mem_cons_self) Qf
 | a::L,[],_,_,h=>absurd ((h a).1 List.mem_cons_self) Qf
 | a::L,b::M,p,o,h=>by
  have l:=List.pairwise_cons.1 p;have j:=List.pairwise_cons.1 o;have d:∀k,An k k=true->False:=λk n=>by rw [Bf] at n;cases n
  have i:a=b:=by
   rcases List.mem_cons.1 ((h a).1 List.mem_cons_self) with e | e
   ·exact e
   ·rcases List.mem_cons.1 ((h b).2 List.mem_cons_self) with m | m
    ·exact m.symm
    ·exact (d _ (D4 (l.1 b m) (j.1 a e))).elim
  subst i;congr 1;refine Wg l.2 j.2 λc=>⟨λf => ?_,λf => ?_⟩
  ·rcases List.mem_cons.1 ((h c).1 (List.mem_cons_of_mem _ f)) with e | e
   ·subst e;exact (d _ (l.1 c f)).elim
   ·exact e
  ·rcases List.mem_cons.1 ((h c).2 (List.mem_cons_of_mem _ f)) with e | e
   ·subst e;exact (d _ (j.1 c f)).elim
   ·exact e
theorem J9 {A B:List Rt} {M:List Ch} (a:Fe M) (h:∀c,c∈M↔getS A c.k≠getS B c.k/\c=chS A B c.k):M=ofS A B:=
 Wg a (Ff A B) λc=>by rw [h,Bz]
theorem Wh (A:List Rt):ofS A A=[]:=by
 have:∀c,c∉ofS A A:=λc a=>((Bz A A c).1 a).1 rfl;cases h:ofS A A with
 | nil=>rfl
 | cons c L=>exact absurd (by rw [h];exact List.mem_cons_self) (this c)
def Ka (c:Ch):Ch:=⟨c.k,c.n,c.o⟩
theorem Wi (A B:List Rt):ofS B A=(ofS A B).map Ka:=by
 refine (J9 (A:=B) (B:=A) ?_ λc => ?_).symm
 ·unfold Fe;rw [List.pairwise_map];exact Ff A B
 ·rw [List.mem_map];constructor
  ·rintro ⟨d,hd,rfl⟩;obtain ⟨b,a⟩:=(Bz A B d).1 hd;refine ⟨λe=>b e.symm,?_⟩;unfold chS at a;unfold chS Ka;rw [a]
  ·rintro ⟨b,a⟩;refine ⟨Ka c,(Bz A B _).2 ⟨λe=>b e.symm,?_⟩,rfl⟩;unfold chS at a ⊢;unfold Ka;rw [a]
def Ey (N:List Rt) (c:Ch):List Rt:=if 0<=c.n then Ak N ⟨c.k,c.n⟩ else outS N c.k
theorem Znu {N:List Rt} (h:Sorted N) (c:Ch):Sorted (Ey N c):=by
 unfold Ey;split
 ·exact Cb _ h
 ·exact Cm _ h
structure MidC (A B:List Rt) (i:Nat) (N:List Rt):Prop where
 sorted:Sorted N
 get:∀k,getS N k=if k∈((ofS A B).take i).map Ch.k then getS B k else getS A k
theorem MidC.start {A B:List Rt} (h:Sorted A):MidC A B 0 A:=⟨h,λk=>Qf⟩
theorem Kb {B:List Rt} (b:Sorted B) (a:∀r∈B,0<=r.v) {k:Ky} {v:Int} (h:getS B k=some v):0<=v:=a _ ((Dv b).1 h)
theorem Wj (A B:List Rt):((ofS A B).map Ch.k).Nodup:=by unfold List.Nodup;rw [List.pairwise_map];exact List.Pairwise.imp (λ{a b} c e=>by rw [e,Bf] at c;cases c) (Ff A B)
theorem Zvm {A B:List Rt} {i:Nat} (hi:i<(ofS A B).length):(ofS A B)[i].k∉((ofS A B).take i).map Ch.k:=by intro h;have a:=Wj A B;rw [<-List.take_append_drop i (ofS A B),List.map_append,List.nodup_append] at a;refine a.2.2 _ h _ ?_ rfl;rw [List.drop_eq_getElem_cons hi];exact List.mem_cons_self
theorem MidC.now {A B N:List Rt} {i:Nat} (H:MidC A B i N) (C:Sorted A) (z:Sorted B) (x:∀r∈A,0<=r.v) (w:∀r∈B,0<=r.v) (hi:i<(ofS A B).length) :
 (((getS N (ofS A B)[i].k).isSome=decide (0<=(ofS A B)[i].o))/\(∀v,getS N (ofS A B)[i].k=some v->v=(ofS A B)[i].o)/\(ofS A B)[i].o≠(ofS A B)[i].n)/\MidC A B (i+1) (Ey N (ofS A B)[i]):=by
 obtain ⟨q,p⟩:=(Bz A B _).1 (Qp hi);have m:=H.get (ofS A B)[i].k;rw [if_neg (Zvm hi)] at m;have l:(ofS A B).take (i+1)=(ofS A B).take i++[(ofS A B)[i]]:=List.take_succ_eq_append_getElem hi;generalize (ofS A B)[i]=c at q p m l ⊢;obtain ⟨k,o,n⟩:=c;unfold chS at p;simp only at q p m;injection p with _ f d;simp only;refine ⟨⟨?_,?_,?_⟩,?_⟩
 ·rw [m];cases ha:getS A k with
  | none=>rw [ha] at f;rw [f];rfl
  | some v=>rw [ha] at f;have:=Kb C x ha;rw [f];exact (decide_eq_true this).symm
 ·intro v y;rw [m] at y;rw [y] at f;exact f.symm
 ·intro e;rw [f,d] at e;cases ha:getS A k with
  | none=>
   cases b:getS B k with
   | none=>exact q (ha.trans b.symm)
   | some v=>rw [ha,b] at e;have:=Kb z w b;have e:(-1:Int)=v:=e;omega
  | some u=>
   have D:=Kb C x ha;cases b:getS B k with
   | none=>rw [ha,b] at e;have e:u=(-1:Int):=e;omega
   | some v=>rw [ha,b] at e;have e:u=v:=e;exact q (by rw [ha,b,e])
 ·refine ⟨Znu H.sorted _,λj => ?_⟩;have a:j∈((ofS A B).take (i+1)).map Ch.k↔j∈((ofS A B).take i).map Ch.k\/j=k:=by rw [l,List.map_append,List.mem_append];simp
  have t:getS (Ey N ⟨k,o,n⟩) j=if j=k then getS B k else getS N j:=by
   unfold Ey;simp only;cases b:getS B k with
   | none=>rw [b] at d;have d:n=(-1:Int):=d;rw [if_neg Qa,Fc H.sorted]
   | some v=>rw [b] at d;have d:n=v:=d;have:=Kb z w b;rw [if_pos Qa,J7 H.sorted,d]
  rw [t,H.get];by_cases e:j=k
  ·subst e;rw [if_pos rfl,if_pos (a.2 (.inr rfl))]
  ·rw [if_neg e];by_cases s:j∈((ofS A B).take i).map Ch.k
   ·rw [if_pos s,if_pos (a.2 (.inl s))]
   ·rw [if_neg s,if_neg (λh=>by rcases a.1 h with h | h;exact s h;exact e h)]
theorem MidC.done {A B N:List Rt} (H:MidC A B (ofS A B).length N) (a:Sorted B):N=B:=by
 refine Wf H.sorted a λk => ?_;rw [H.get,List.take_length];by_cases h:k∈(ofS A B).map Ch.k
 ·rw [if_pos h]
 ·rw [if_neg h];by_cases e:getS A k=getS B k
  ·exact e
  ·exact absurd (List.mem_map.2 ⟨chS A B k,(Bz A B _).2 ⟨e,rfl⟩,rfl⟩) h
end
section
open Go Go.RowKit Go.Sort M
def A4 (c:Ch):List Value:=[.int .u64 (c.k.h:Int),.int .u64 (c.k.l:Int),.int .i64 c.k.n,.int .i64 c.o,.int .i64 c.n]
def ccs (L:List Ch):List Value:=L.flatMap A4
theorem Z66 (L:List Ch):(ccs L).length=L.length*5:=by
 unfold ccs
 induction L with
 | nil=>rfl
 | cons x L ih=>simp only [List.flatMap_cons,Qo,ih,A4,Qt,List.length_nil];omega
theorem Kc (L M:List Ch):ccs (L++M)=ccs L++ccs M:=by simp [ccs]
theorem Wk (x:Ch) (L:List Ch):ccs (x::L)=A4 x++ccs L:=rfl
theorem Kd (p:Ch):ccs [p]=A4 p:=by simp [ccs]
theorem Gb:∀(L:List Ch) (k j:Nat) (h:k<L.length),j<5->(ccs L)[k*5+j]? = (A4 L[k])[j]?
 | x::L,0,j,_,a=>by rw [Wk,List.getElem?_append_left (by simp [A4];omega)];simp
 | x::L,k+1,j,h,a=>by rw [Wk,List.getElem?_append_right (by simp [A4];omega),show (k+1)*5+j-(A4 x).length=k*5+j by simp [A4];omega];rw [Gb L k j (by simpa using h) a];simp
theorem Row.ch {w:World} {p:Option Addr} {L:List Ch} (h:Row w p (ccs L)) {k:Nat} (a:k<L.length):∃g o,p=some ⟨g,o,none⟩/\g<w.heap.size /\
 w.cell? ⟨g,o+k*5,none⟩=some (.int .u64 (L[k].k.h:Int))/\w.cell? ⟨g,o+k*5+1,none⟩=some (.int .u64 (L[k].k.l:Int))/\w.cell? ⟨g,o+k*5+2,none⟩=some (.int .i64 L[k].k.n) /\
 w.cell? ⟨g,o+k*5+3,none⟩=some (.int .i64 L[k].o)/\w.cell? ⟨g,o+k*5+4,none⟩=some (.int .i64 L[k].n):=by
 rcases h with h | ⟨g,o,e,c,b⟩
 ·have:=Z66 L;rw [h] at this;simp at this;omega
 ·exact ⟨g,o,e,c,b (k*5) _ (Gb L k 0 a Qa),b (k*5+1) _ (Gb L k 1 a Qa),b (k*5+2) _ (Gb L k 2 a Qa),b (k*5+3) _ (Gb L k 3 a Qa),b (k*5+4) _ (Gb L k 4 a Qa)⟩
def Wl (t:TypeId) (w w':World) (e:Ending) (L:List Ch):Prop:=∃p c,e = .returned (.slice p L.length c)/\w'.ownsRow w.heap.size t 5 (.slice p L.length c) L.length (ccs L)/\Below w.heap.size w w'
theorem Ke {w:World} {g:Nat} {c:Ch} (i:w.cell? ⟨g,0,none⟩=some (.int .u64 (c.k.h:Int))) (f:w.cell? ⟨g,1,none⟩=some (.int .u64 (c.k.l:Int))) (e:w.cell? ⟨g,2,none⟩=some (.int .i64 c.k.n)) (d:w.cell? ⟨g,3,none⟩=some (.int .i64 c.o)) (b:w.cell? ⟨g,4,none⟩=some (.int .i64 c.n)) :
 ∀j u,(A4 c)[j]? = some u->w.cell? ((⟨g,0,none⟩:Addr).add j)=some u:=by
 intro j u a;rw [show (⟨g,0,none⟩:Addr).add j=⟨g,j,none⟩ by unfold Addr.add;split<;>simp_all]
 match j,a with
 | 0,a=>simp [A4] at a;subst a;exact i
 | 1,a=>simp [A4] at a;subst a;exact f
 | 2,a=>simp [A4] at a;subst a;exact e
 | 3,a=>simp [A4] at a;subst a;exact d
 | 4,a=>simp [A4] at a;subst a;exact b
end
section
open Go.ChangeShapes Go.WideShapes Go.ChangeAt Go.RowKit Go.Joins Go.Deep M
section
variable {H:Type} {enc:TypeId×Value->H} {w:World} {base:Nat} {spare:Nat->Bool} {held:Bool} {r:Reach} {b0:Nat}
end
end
section
open M
theorem Fg (N:List Rt) (b a m:Nat):depV N b a m=getS N (cutK b a m):=rfl
theorem Kf {N:List Rt} (e:Sorted N) (low:Int) (k:Ky):hopK N low k=(As (depV N k.h k.l) low k.n 129).bind (depV N k.h k.l):=by
 unfold hopK;rcases Lk (N:=N) k.h k.l low k.n with ⟨c,a⟩ | ⟨b,d,m,c,a,f⟩
 ·rw [c,a];rfl
 ·rw [c,a];show some (N.getD b _).v=depV N k.h k.l m;rw [getD_at d,P4 e.nodup (Qp d) f]
theorem Hu {N:List Rt} {low high:Int} (b:low<high) (k:Ky):getS (setS N low high) k=if k∈Ao N low high then some (hopV N low k) else none:=by
 by_cases h:k∈Ao N low high
 ·rw [if_pos h];exact (Dv (Ga N low high)).2 ((Ex _ _ _ _).2 ⟨b,h,rfl⟩)
 ·rw [if_neg h,Dw];unfold Aa;rw [List.mem_map];rintro ⟨q,a,rfl⟩;exact h ((Ex _ _ _ _).1 a).2.1
theorem Ez {N:List Rt} {low high:Int} {k:Ky}:k∈Ao N low high↔∃j∈Aa N,low<j.n/\j.n<=high/\k∈sprK j high:=by
 unfold Ao Aa insB;simp only [List.mem_flatMap,List.mem_filter,Qq,decide_eq_true_eq,List.mem_map];constructor
 ·rintro ⟨r,⟨a,d,c⟩,b⟩;exact ⟨r.k,⟨r,a,rfl⟩,d,c,b⟩
 ·rintro ⟨_,⟨r,a,rfl⟩,d,c,b⟩;exact ⟨r,⟨a,d,c⟩,b⟩
def lvlM (N:List Rt) (p:Ky) (a:Int):List Rt:=if 0<=a then Ak (outS N p) ⟨p,a⟩ else outS N p
theorem Kg {N:List Rt} (h:Sorted N) (p:Ky) (a:Int):Sorted (lvlM N p a):=by
 unfold lvlM;split
 ·exact Cb _ (Cm _ h)
 ·exact Cm _ h
theorem Wm {N:List Rt} (h:Sorted N) {p k:Ky} (a:Int) (b:k≠p):getS (lvlM N p a) k=getS N k:=by
 unfold lvlM;split
 ·rw [J7 (Cm _ h),if_neg b,Fc h,if_neg b]
 ·rw [Fc h,if_neg b]
theorem Wn {N:List Rt} (c:∀r∈N,W64 r.k.h/\W64 r.k.l) {p:Ky} (d:W64 p.h/\W64 p.l) (h:Sorted N) (b:Int):∀r∈lvlM N p b,W64 r.k.h/\W64 r.k.l:=by
 intro r a;unfold lvlM at a;split at a
 ·rcases (Dt (Cm _ h)).1 a with e | ⟨e,_⟩
  ·rw [e];exact d
  ·exact c r (A6.1 e).1
 ·exact c r (A6.1 a).1
theorem Hv {N:List Rt} (c:∀r∈N,W64 r.k.h/\W64 r.k.l) {j:Ky} (a:j∈Aa N):W64 j.h/\W64 j.l:=by unfold Aa at a;obtain ⟨r,b,rfl⟩:=List.mem_map.1 a;exact c r b
theorem Wo {N:List Rt} (c:∀r∈N,W64 r.k.h/\W64 r.k.l) {low high:Int} {k:Ky} (h:k∈Ao N low high):k.n=high:=by obtain ⟨j,b,-,-,a⟩:=Ez.1 h;have:=Hv c b;exact ((Az this.1 this.2 _ _).1 a).2.2.2.1
theorem few {N:List Rt} (Q:Sorted N) (S:∀r∈N,W64 r.k.h/\W64 r.k.l) {p:Ky} (u:W64 p.h/\W64 p.l) (d:Int) {low high:Int} (hl:low<high) {c:Ch} (hc:c∈ofS (setS N low high) (setS (lvlM N p d) low high)) :
 c.k.n=high/\hasB p.h p.l p.n c.k.h c.k.l=true/\low<p.n/\p.n<=high/\c.k∈sprK p high:=by
 obtain ⟨s,-⟩:=(Bz _ _ c).1 hc;generalize c.k=k at s ⊢;have hM:=Kg Q p d;have X:=Wn S u Q d;rw [Hu hl,Hu hl] at s;have C:k.n=high:=by
  by_cases e1:k∈Ao N low high
  ·exact Wo S e1
  ·by_cases e2:k∈Ao (lvlM N p d) low high
   ·exact Wo X e2
   ·rw [if_neg e1,if_neg e2] at s;exact absurd rfl s
 have i:∀j,j≠p->(j∈Aa (lvlM N p d)↔j∈Aa N):=λj o=>by
  have e:=Wm Q d o;have a:=Dw (N:=lvlM N p d) (k:=j);have b:=Dw (N:=N) (k:=j);rw [e] at a;constructor
  ·intro q;by_cases f:j∈Aa N
   ·exact f
   ·exact absurd q (a.1 (b.2 f))
  ·intro q;by_cases f:j∈Aa (lvlM N p d)
   ·exact f
   ·exact absurd q (b.1 (a.2 f))
 have main:¬(hasB p.h p.l p.n k.h k.l=true/\low<p.n/\p.n<=high/\k∈sprK p high)->False:=by
  intro w;have E:k∈Ao N low high↔k∈Ao (lvlM N p d) low high:=by
   rw [Ez,Ez];constructor
   ·rintro ⟨j,o,z,q,f⟩;have x:j≠p:=λe=>by subst e;exact w ⟨((Az u.1 u.2 _ _).1 f).2.2.2.2.2.2.2,z,q,f⟩
    exact ⟨j,(i j x).2 o,z,q,f⟩
   ·rintro ⟨j,o,z,q,f⟩;have x:j≠p:=λe=>by subst e;exact w ⟨((Az u.1 u.2 _ _).1 f).2.2.2.2.2.2.2,z,q,f⟩
    exact ⟨j,(i j x).1 o,z,q,f⟩
  by_cases y:k∈Ao N low high
  ·rw [if_pos y,if_pos (E.1 y)] at s;apply s;congr 1;have B:W64 k.h/\W64 k.l/\Ap k.h k.l k.n=true:=by obtain ⟨j,o,-,-,f⟩:=Ez.1 y;have:=Hv S o;have R:=(Az this.1 this.2 _ _).1 f;exact ⟨R.2.2.2.2.1,R.2.2.2.2.2.1,by rw [C];exact R.2.2.2.2.2.2.1⟩
   have a1:high<=128:=by have:=(Cv _ _ _ B.2.1).1 B.2.2;omega
   obtain ⟨j,o,a6,a5,U⟩:=Ez.1 y;have F:=Hv S o;have R:=(Az F.1 F.2 _ _).1 U;obtain ⟨t,a3,D⟩:=(Ei _ _ _).1 R.2.2.2.2.2.2.2;have a4:j.n=(t:Int):=by rw [D];rfl
   have Y:∀m:Nat,t<=m->low<(m:Int)->(m:Int)<=high->depV (lvlM N p d) k.h k.l m=depV N k.h k.l m:=λm h0 z q=>by
    rw [Fg,Fg];refine Wm Q d λe => ?_;have hh:hasB p.h p.l p.n k.h k.l=true:=(Ei _ _ _).2 ⟨m,Qa,e.symm⟩;have a2:p.n=(m:Int):=by rw [<-e];rfl
    exact w ⟨hh,Qa,Qa,(Az u.1 u.2 _ _).2 ⟨Qa,Qa,Qa,C,B.1,B.2.1,by rw [<-C];exact B.2.2,hh⟩⟩
   unfold hopV;rw [Kf Q,Kf hM,C];have I:(depV N k.h k.l t).isSome=true:=by
    rw [Fg,<-D];cases Z:getS N j with
    | some v=>rfl
    | none=>exact absurd o (Dw.1 Z)
   obtain ⟨b,L⟩:∃b,As (depV N k.h k.l) low high 129=some b:=by
    cases hb:As (depV N k.h k.l) low high 129 with
    | some b=>exact ⟨b,rfl⟩
    | none=>exact absurd ⟨Qa,Qa,I⟩ (Gr.1 hb t Qa)
   obtain ⟨b1,b2,b3⟩:=D5.1 L;have O:t<=b:=by
    by_cases Z:t<=b
    ·exact Z
    ·exact absurd ⟨Qa,Qa,I⟩ (b3 t Qa Qa)
   have K:As (depV (lvlM N p d) k.h k.l) low high 129=some b:=D5.2 ⟨b1,⟨b2.1,b2.2.1,by rw [Y b O b2.1 b2.2.1];exact b2.2.2⟩,λm m1 m2 A=>b3 m m1 m2 ⟨A.1,A.2.1,by rw [<-Y m Qa A.1 A.2.1];exact A.2.2⟩⟩;rw [L,K];show (depV N k.h k.l b).getD 0=(depV (lvlM N p d) k.h k.l b).getD 0;rw [Y b O b2.1 b2.2.1]
  ·rw [if_neg y,if_neg (λh=>y (E.2 h))] at s;exact s rfl
 by_cases J:hasB p.h p.l p.n k.h k.l=true/\low<p.n/\p.n<=high/\k∈sprK p high
 ·exact ⟨C,J⟩
 ·exact (main J).elim
theorem Wp:∀{L M:List Ky},L.Nodup->(∀k∈L,k∈M)->L.length<=M.length
 | [],_,_,_=>Nat.zero_le _
 | a::L,M,d,h=>by have ha:=h a List.mem_cons_self;have c:=List.nodup_cons.1 d;have:=Wp (M:=M.erase a) c.2 λk b=>(List.mem_erase_of_ne (λe=>c.1 (by rw [<-e];exact b))).2 (h k (List.mem_cons_of_mem _ b));rw [List.length_erase_of_mem ha] at this;have f:0<M.length:=List.length_pos_of_mem ha;simp only [Qt];omega
theorem Z6j {N:List Rt} (m:Sorted N) (i:∀r∈N,W64 r.k.h/\W64 r.k.l) {p:Ky} (b:W64 p.h/\W64 p.l) (a:Int) {low high:Int} (e:low<high) (d:high-low<=8):(ofS (setS N low high) (setS (lvlM N p a) low high)).length<=256:=by
 have h:=Wp (L:=(ofS (setS N low high) (setS (lvlM N p a) low high)).map Ch.k) (M:=sprK p high) (Wj _ _) λk f=>by obtain ⟨c,j,rfl⟩:=List.mem_map.1 f;exact (few m i b a e j).2.2.2.2
 rw [List.length_map] at h;refine Qw h ?_;unfold sprK;rw [List.length_map,Nn _ _ _ _ b.2];exact Nm _ _ _ _
end
end Go.Proofs.YtpdphfgpdgadpaaGreat

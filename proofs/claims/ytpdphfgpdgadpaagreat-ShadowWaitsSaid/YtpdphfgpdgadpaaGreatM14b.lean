import Derived.Test.YtpdphfgpdgadpaaGreatTouch
set_option linter.unusedSimpArgs false
set_option linter.unusedVariables false
namespace Go.Proofs.YtpdphfgpdgadpaaGreat
section
open Go.RowKit Go.Sort M
def iC (C:List Nat):List Value:=ics (C.map λ(c:Nat)=>(c:Int))
theorem C1 {C:List Nat} {k:Nat} (h:k<C.length):getN C (k:Int)=C[k]:=by unfold getN;rw [if_pos Qa,Int.toNat_natCast,List.getD_eq_getElem?_getD,Qr h];rfl
theorem Nib.le {w:World} {B B' g h:Nat} {C:List Nat} (H:Nib w B g h C) (a:B'<=B):Nib w B' g h C:=
 ⟨Qw a H.low,H.lt,H.ne,H.words,H.num,A7 H.own a,H.small,H.len⟩
theorem L4 (C:List Nat) (k:Int):(upL C k).length=C.length:=by unfold upL;split<;>simp
theorem L5 (C:List Nat) (k:Int):(Ax C k).length=C.length:=by unfold Ax;split<;>simp
theorem Z7k {C:List Nat} {k:Int} (h:¬(0<=k/\k<C.length)):upB C k=false/\upL C k=C:=by
 have:upB C k=false:=by unfold upB;simp;omega
 exact ⟨this,by simp [upL,this]⟩
theorem Rz {C:List Nat} {k:Int} (h:¬(0<=k/\k<C.length)):Bb C k=false/\Ax C k=C:=by
 have:Bb C k=false:=by unfold Bb;simp;omega
 exact ⟨this,by simp [Ax,this]⟩
theorem Z5b {C:List Nat} {k:Nat} (h:k<C.length) (a:C[k]=15):upB C k=false/\upL C k=C:=by
 have:upB C k=false:=by simp [upB,C1 h,a]
 exact ⟨this,by simp [upL,this]⟩
theorem Z5a {C:List Nat} {k:Nat} (h:k<C.length) (a:C[k]≠15):upB C k=true/\upL C k=C.set k (C[k]+1):=by
 have:upB C k=true:=by simp [upB,C1 h,a,h]
 exact ⟨this,by simp [upL,this,C1 h]⟩
theorem R3 {C:List Nat} {k:Nat} (h:k<C.length) (a:C[k]=15\/C[k]=0):Bb C k=false/\Ax C k=C:=by
 have:Bb C k=false:=by rcases a with a | a<;>simp [Bb,C1 h,a]
 exact ⟨this,by simp [Ax,this]⟩
theorem R6 {C:List Nat} {k:Nat} (h:k<C.length) (a:C[k]≠15) (b:C[k]≠0):Bb C k=true/\Ax C k=C.set k (C[k]-1):=by
 have:Bb C k=true:=by simp [Bb,C1 h,a,h,b]
 exact ⟨this,by simp [Ax,this,C1 h]⟩
def addL (C:List Nat) (L:List Int):List Nat:=L.foldl upL C
def remL (C:List Nat) (L:List Int):List Nat:=L.foldl Ax C
def mayL (C:List Nat) (L:List Int):Bool:=L.all λi=>decide (getN C i≠0)
def onsC (C:List Nat):List Bool:=C.map λc=>decide (c≠0)
theorem L6 (C:List Nat):(onsC C).length=C.length:=by simp [onsC]
theorem Zyf (n:Nat):onsC (List.replicate n 0)=List.replicate n false:=by simp [onsC]
theorem I1:∀(L:List Int) (C:List Nat),(addL C L).length=C.length
 | [],_=>rfl
 | a::L,C=>(I1 L (upL C a)).trans (L4 C a)
theorem I2:∀(L:List Int) (C:List Nat),(remL C L).length=C.length
 | [],_=>rfl
 | a::L,C=>(I2 L (Ax C a)).trans (L5 C a)
theorem Z00 (C:List Nat) (L:List Int) (k:Nat) (h:k<L.length):addL C (L.take (k+1))=upL (addL C (L.take k)) L[k]:=by unfold addL;rw [List.take_succ_eq_append_getElem h,List.foldl_append];rfl
theorem Zxm (C:List Nat) (L:List Int) (k:Nat) (h:k<L.length):remL C (L.take (k+1))=Ax (remL C (L.take k)) L[k]:=by unfold remL;rw [List.take_succ_eq_append_getElem h,List.foldl_append];rfl
theorem Z2i {C:List Nat} {L:List Int} (h:∀k (a:k<L.length),getN C L[k]≠0):mayL C L=true:=by unfold mayL;rw [List.all_eq_true];intro x b;obtain ⟨k,a,rfl⟩:=List.getElem_of_mem b;simpa using h k a
theorem L8 (C:List Nat) (k:Nat) (v:Nat):onsC (C.set k v)=(onsC C).set k (decide (v≠0)):=by unfold onsC;rw [List.map_set]
theorem set_self {α:Type}:∀(L:List α) (k:Nat) (h:k<L.length),L.set k L[k]=L
 | a::L,0,_=>rfl
 | a::L,k+1,h=>congrArg (a :: ·) (set_self L k (Nat.lt_of_succ_lt_succ h))
theorem R7 {C:List Nat} {k:Nat} (h:k<C.length) (b:Bool) (a:b=decide (C[k]≠0)):(onsC C).set k b=onsC C:=by subst a;rw [<-L8,set_self]
theorem Z78 (C:List Nat) (i:Int):setB (onsC C) i true=onsC (upL C i):=by
 unfold setB;rw [L6];by_cases h:0<=i/\i<C.length
 ·rw [if_pos h];obtain ⟨k,rfl⟩:=Qv h.1;have b:k<C.length:=Qa;rw [Int.toNat_natCast];by_cases a:C[k]=15
  ·rw [(Z5b b a).2,R7 b true (by simp [a])]
  ·rw [(Z5a b a).2,L8];simp
 ·rw [if_neg h,(Z7k h).2]
theorem Z18 (C:List Nat) (i:Int):setB (onsC C) i (decide (getN (Ax C i) i≠0))=onsC (Ax C i):=by
 unfold setB;rw [L6];by_cases h:0<=i/\i<C.length
 ·rw [if_pos h];obtain ⟨k,rfl⟩:=Qv h.1;have a:k<C.length:=Qa;rw [Int.toNat_natCast];by_cases b:C[k]=15\/C[k]=0
  ·rw [(R3 a b).2,R7 a _ (by rw [C1 a])]
  ·rw [(R6 a (λe=>b (.inl e)) (λe=>b (.inr e))).2,L8,C1 (by simpa using a)];simp
 ·rw [if_neg h,(Rz h).2]
theorem Zz4 (C:List Nat) (i:Int) (j:Nat) (h:j<C.length) (c:C[j]<=15):getN (Ax C i) (j:Int)=if i=j then (if getN C j=15 then 15 else getN C j-1) else getN C j:=by
 by_cases hi:0<=i/\i<C.length
 ·obtain ⟨k,rfl⟩:=Qv hi.1;have b:k<C.length:=Qa;rw [C1 h];by_cases a:C[k]=15\/C[k]=0
  ·rw [(R3 b a).2,C1 h];by_cases e:k=j
   ·subst e;rw [if_pos rfl];rcases a with a | a
    ·rw [a,if_pos rfl]
    ·rw [a,if_neg Qd]
   ·rw [if_neg Qa]
  ·rw [(R6 b (λe=>a (.inl e)) (λe=>a (.inr e))).2,C1 (by simpa using h)];by_cases e:k=j
   ·subst e;rw [if_pos rfl,if_neg (λe=>a (.inl e)),List.getElem_set_self]
   ·rw [if_neg Qa,List.getElem_set_ne e]
 ·rw [(Rz hi).2,if_neg (by rintro rfl;omega)]
theorem I3:∀(L:List Int) (C:List Nat) (j:Nat),j<C.length->getN C (j:Int)<=15->getN (remL C L) (j:Int)=if getN C j=15 then 15 else getN C j-L.count (j:Int)
 | [],C,j,h,c=>by
  show getN C j=_;split
  ·assumption
  ·simp
 | a::L,C,j,h,c=>by
  have hd:=Zz4 C a j h (by rw [C1 h] at c;exact c);show getN (remL (Ax C a) L) j=_;have d:j<(Ax C a).length:=by rw [L5];exact h
  by_cases e:a=(j:Int)
  ·have f:(a::L).count (j:Int)=L.count (j:Int)+1:=by rw [List.count_cons,if_pos (by simp [e])]
   rw [if_pos e] at hd;rw [f];by_cases b:getN C (j:Int)=15
   ·rw [if_pos b] at hd;rw [I3 L (Ax C a) j d Qa,if_pos b,if_pos hd]
   ·rw [if_neg b] at hd;rw [I3 L (Ax C a) j d Qa,if_neg b,if_neg Qa,hd];omega
  ·have f:(a::L).count (j:Int)=L.count (j:Int):=by rw [List.count_cons,if_neg (by simpa using e),Nat.add_zero]
   rw [if_neg e] at hd;rw [f,I3 L (Ax C a) j d Qa,hd]
def Em (h:Nat) (m:Int) (i:Nat):Int:=redI ((h+i*(mixN h ||| 1))%18446744073709551616) m
def C2 (h:Nat) (m:Int) (k:Nat):List Int:=(List.range k).map (Em h m)
theorem G2 (h:Nat) (m:Int) (k:Nat):(C2 h m k).length=k:=by simp [C2]
theorem R8 (h:Nat) (m:Int) (k:Nat):C2 h m (k+1)=C2 h m k++[Em h m k]:=by simp [C2,List.range_succ]
theorem Zmn (h:Nat) (m:Int) (i:Nat):0<=Em h m i:=Py _ _
theorem Zx3 (h:Nat) (m:Int) (i:Nat) (a:1<=m):Em h m i<m:=Pz (W64.mk (Nat.mod_lt _ Qd)) a
def En (h:Nat) (k m:Int):List Int:=if m<1 then [] else C2 h m (min k.toNat 16)
theorem Zoj {h:Nat} {k m:Int} (a:m<1):En h k m=[]:=if_pos a
theorem Zq4 {h:Nat} {k m:Int} (a:k<1):En h k m=[]:=by
 unfold En;split
 ·rfl
 ·rw [show k.toNat=0 by omega];rfl
theorem Zoi {h:Nat} {k m:Int} (a:¬m<1):En h k m=C2 h m (min k.toNat 16):=if_neg a
theorem or_one (x:Nat) (h:W64 x):bits BinOp.or IntKind.u64 (x:Int) 1=((x ||| 1:Nat):Int):=bits_or_u64_nat x 1 h.lt Qa
theorem Z16 (x:Nat) (h:W64 x):W64 (x ||| 1):=Nat.or_lt_two_pow h Qd
end
section
open M
def bh:List Rt->Ky->Nat
 | [],_=>0
 | a::l,k=>if An a.k k then bh l k+1 else 0
theorem Eo:∀(l:List Rt) (k:Ky),bh l k<=l.length
 | [],_=>Qn _
 | a::l,k=>by unfold bh;have:=Eo l k;split<;>simp<;>omega
theorem L9:∀(l:List Rt) (k:Ky) (i:Nat) (h:i<l.length),i<bh l k->An l[i].k k=true
 | a::l,k,i,h,b=>by
  unfold bh at b;split at b
  ·rename_i ha;cases i with
   | zero=>simpa using ha
   | succ i=>simpa using L9 l k i (by simpa using h) Qa
  ·omega
theorem Ma:∀(l:List Rt) (k:Ky),Sorted l->∀(i:Nat) (h:i<l.length),bh l k<=i->An l[i].k k=false
 | a::l,k,e,i,h,c=>by
  have d:=List.pairwise_cons.1 e;unfold bh at c;split at c
  ·cases i with
   | zero=>omega
   | succ i=>simpa using Ma l k d.2 i (by simpa using h) Qa
  ·rename_i ha;rw [Bool.not_eq_true] at ha;cases i with
   | zero=>simpa using ha
   | succ i=>
    have hi:i<l.length:=by simpa using h
    cases b:An (l[i]'hi).k k with
    | false=>simpa using b
    | true=>have:=D4 (d.1 _ (Qp hi)) b;rw [ha] at this;cases this
theorem Mb (l:List Rt) (k:Ky) (b:Sorted l) (i:Nat) (h:i<l.length):(!An l[i].k k)=decide (bh l k<=i):=by
 by_cases a:bh l k<=i
 ·rw [Ma l k b i h a,decide_eq_true a];rfl
 ·rw [L9 l k i h Qa,decide_eq_false a];rfl
theorem I4 (a:Rt) (l:List Rt) (k:Ky):Al (a::l) k=if a.k=k then some 0 else (Al l k).map (· + 1):=by
 unfold Al;rw [List.findIdx?_cons];by_cases h:a.k=k
 ·rw [if_pos h,decide_eq_true h];rfl
 ·rw [if_neg h,decide_eq_false h];rfl
theorem D6:∀(l:List Rt) (k:Ky),Sorted l->(∀i,Al l k=some i->i=bh l k/\∃h:i<l.length,l[i].k=k)/\(Al l k=none->∀(h:bh l k<l.length),l[bh l k].k≠k)
 | [],k,_=>⟨λi h=>by simp [Al] at h,λ_ h=>absurd h Qf⟩
 | a::l,k,r=>by
  have q:=List.pairwise_cons.1 r;have n:=D6 l k q.2;rw [I4];by_cases m:a.k=k
  ·rw [if_pos m];have f:bh (a::l) k=0:=by unfold bh;rw [m,Bf];rfl
   refine ⟨λi h => ?_,λh=>by cases h⟩;injection h with h;subst h;exact ⟨f.symm,Qf,m⟩
  ·rw [if_neg m];cases o:An a.k k with
   | true=>
    have f:bh (a::l) k=bh l k+1:=by show (if An a.k k=true then bh l k+1 else 0)=_;rw [o];rfl
    refine ⟨λi h => ?_,λh b => ?_⟩
    ·rw [Option.map_eq_some_iff] at h;obtain ⟨j,p,rfl⟩:=h;obtain ⟨e,d,c⟩:=n.1 j p;exact ⟨by rw [f,e],by simpa using d,by simpa using c⟩
    ·rw [Option.map_eq_none_iff] at h;have:=n.2 h (by rw [f] at b;simpa using b);simpa [f] using this
   | false=>
    have f:bh (a::l) k=0:=by show (if An a.k k=true then bh l k+1 else 0)=_;rw [o];rfl
    have s:An k a.k=true:=by rw [Fu m,o];rfl
    refine ⟨λi h => ?_,λh b=>by simpa [f] using m⟩;rw [Option.map_eq_some_iff] at h;obtain ⟨j,p,rfl⟩:=h;obtain ⟨e,d,c⟩:=n.1 j p;have:=D4 s (q.1 _ (Qp d));rw [c,Bf] at this;cases this
theorem Mc:∀(l:List Rt) (r:Rt),Al l r.k=none->Ak l r=l.take (bh l r.k)++r::l.drop (bh l r.k)
 | [],r,_=>rfl
 | a::l,r,h=>by
  rw [I4] at h;have b:a.k≠r.k:=λe=>by rw [if_pos e] at h;cases h
  rw [if_neg b,Option.map_eq_none_iff] at h;unfold Ak bh;split
  ·rw [Mc l r h];rfl
  ·rfl
theorem Md:∀(l:List Rt) (r:Rt) (i:Nat),Sorted l->Al l r.k=some i->Ak l r=l.set i r
 | [],r,i,_,h=>by simp [Al] at h
 | a::l,r,i,m,h=>by
  have e:=List.pairwise_cons.1 m;rw [I4] at h;by_cases b:a.k=r.k
  ·rw [if_pos b] at h;injection h with h;subst h;unfold Ak;rw [b,Bf];simp
  ·rw [if_neg b,Option.map_eq_some_iff] at h;obtain ⟨j,f,rfl⟩:=h;obtain ⟨-,d,c⟩:=(D6 l r.k e.2).1 j f;have n:An a.k r.k=true:=by
    have:=e.1 _ (Qp d)
    rwa [c] at this
   unfold Ak;rw [n,Md l r j e.2 f];rfl
theorem R9 {l:List Rt} {k:Ky} (h:Al l k=none):outS l k=l:=Cz (Iw (by rw [h];rfl))
theorem I5:∀(l:List Rt) (k:Ky) (i:Nat),Sorted l->Al l k=some i->outS l k=l.eraseIdx i
 | [],k,i,_,h=>by simp [Al] at h
 | a::l,k,i,f,h=>by
  have d:=List.pairwise_cons.1 f;rw [I4] at h;by_cases b:a.k=k
  ·rw [if_pos b] at h;injection h with h;subst h;have:outS (a::l) k=outS l k:=by simp [outS,b]
   rw [this,Cz]
   ·rfl
   ·intro c;unfold Aa at c;rw [List.mem_map] at c;obtain ⟨q,m,e⟩:=c;have:=d.1 q m;rw [b,e,Bf] at this;cases this
  ·rw [if_neg b,Option.map_eq_some_iff] at h;obtain ⟨j,n,rfl⟩:=h;have:outS (a::l) k=a::outS l k:=by simp [outS,b]
   rw [this,I5 l k j d.2 n];rfl
def stI (l:List Rt) (k:Ky):Int:=
 match Al l k with
 | some i=>(i:Int)
 | none => -1
theorem I6 {l:List Rt} {k:Ky} {i:Nat} (h:Al l k=some i):stI l k=i:=by unfold stI;rw [h]
theorem G3 {l:List Rt} {k:Ky} (h:Al l k=none):stI l k = -1:=by unfold stI;rw [h]
def A3 (T:Tab) (r:Rt):Option Tab:=
 if (getC (T.bk (T.x1 r.k)) r.k).isSome then some (T.set (T.x1 r.k) ((putC (T.bk (T.x1 r.k)) r.k r.v).getD (T.bk (T.x1 r.k))))
 else if (getC (T.bk (T.x2 r.k)) r.k).isSome then some (T.set (T.x2 r.k) ((putC (T.bk (T.x2 r.k)) r.k r.v).getD (T.bk (T.x2 r.k))))
 else if (Al T.st r.k).isSome then some { T with st:=Ak T.st r }
 else none
def fresh (T:Tab) (r:Rt):Tab×Option Rt:=
 match putC (T.bk (T.x1 r.k)) r.k r.v with
 | some C=>(T.set (T.x1 r.k) C,none)
 | none=>
  match putC (T.bk (T.x2 r.k)) r.k r.v with
  | some C=>(T.set (T.x2 r.k) C,none)
  | none=>Ba 16 0 T (T.x2 r.k) r
theorem I7 (T:Tab) (r:Rt):Cx T r=match A3 T r with | some T'=>(T',none) | none=>fresh T r:=by
 unfold Cx A3 fresh;split
 ·rfl
 ·split
  ·rfl
  ·split<;>rfl
def Cc (T:Tab):Prop:=∀i,i<T.B.length->∀q,some q∈T.bk i->q.k.good
theorem Inv.goodT {T:Tab} (H:Inv T):Cc T:=λ_ hi q a=>H.good q (Ej hi a)
theorem mem_set {C:List Pl} {j:Nat} {x:Pl} {q:Rt} (h:some q∈C.set j x):some q∈C\/x=some q:=(List.mem_or_eq_of_mem_set h).imp id Eq.symm
theorem Z56 {C:List Pl} {k:Ky} {v:Int} {q:Rt} (h:some q∈(putC C k v).getD C):some q∈C\/q=⟨k,v⟩:=by
 unfold putC at h;split at h
 ·exact (mem_set h).imp id (λe=>by injection e with e;exact e.symm)
 ·split at h
  ·exact (mem_set h).imp id (λe=>by injection e with e;exact e.symm)
  ·exact .inl h
theorem Cc.set {T:Tab} (H:Cc T) {i:Nat} (hi:i<T.B.length) {C:List Pl} (h:∀q,some q∈C->q.k.good):Cc (T.set i C):=by
 intro k b q a;rw [Cn] at b;rw [Gt T i hi] at a;split at a
 ·exact h q a
 ·exact H k b q a
theorem Cc.put {T:Tab} (H:Cc T) {i:Nat} (hi:i<T.B.length) {r:Rt} (a:r.k.good):Cc (T.set i ((putC (T.bk i) r.k r.v).getD (T.bk i))):=
 H.set hi λq b=>(Z56 b).elim (H i hi q) (λe=>e▸a)
theorem Zwh:(⟨0,0,0⟩:Ky).good:=⟨W64.mk Qd,W64.mk Qd⟩
theorem Zwx {C:List Pl} {j:Nat} {k:Ky} {v:Int}:(∃q,C.getD j none=some q/\Bo C (j:Int) k v=some (q,C.set j (some ⟨k,v⟩)))\/Bo C (j:Int) k v=none:=by
 unfold Bo;rw [if_pos Qa,Int.toNat_natCast];cases h:C.getD j none with
 | none=>exact .inr rfl
 | some q=>exact .inl ⟨q,rfl,rfl⟩
theorem Z28 {C:List Pl} {j:Nat} {q:Rt} (h:C.getD j none=some q):some q∈C:=by
 rw [List.getD_eq_getElem?_getD] at h;cases e:C[j]? with
 | none=>rw [e] at h;cases h
 | some x=>rw [e] at h;simp only [Option.getD_some] at h;subst h;exact List.mem_of_getElem? e
theorem Cc.kick {T:Tab} (H:Cc T) {b:Nat} (a:b<T.B.length) (i:Nat) {r:Rt} (d:r.k.good):(kOut T b i r).k.good/\Cc (kTab T b i r):=by
 unfold kOut kTab;rcases Zwx (C:=T.bk b) (j:=i%4) (k:=r.k) (v:=r.v) with ⟨q,f,e⟩ | e
 ·rw [e];exact ⟨H b a q (Z28 f),H.set a λp c=>(mem_set c).elim (H b a p) (λe=>by injection e with e;exact e▸d)⟩
 ·rw [e];exact ⟨Zwh,H.set a λp c=>H b a p c⟩
theorem Sa {f i:Nat} {T:Tab} {b:Nat} {r:Rt} {C:List Pl} (h:putC ((kTab T b i r).bk (kNew T b i r)) (kOut T b i r).k (kOut T b i r).v=some C):Ba (f+1) i T b r=((kTab T b i r).set (kNew T b i r) C,none):=by show (match putC ((kTab T b i r).bk (kNew T b i r)) (kOut T b i r).k (kOut T b i r).v with | some C=>_ | none=>_)=_;rw [h]
theorem Sb {f i:Nat} {T:Tab} {b:Nat} {r:Rt} (h:putC ((kTab T b i r).bk (kNew T b i r)) (kOut T b i r).k (kOut T b i r).v=none):Ba (f+1) i T b r=Ba f (i+1) (kTab T b i r) (kNew T b i r) (kOut T b i r):=by show (match putC ((kTab T b i r).bk (kNew T b i r)) (kOut T b i r).k (kOut T b i r).v with | some C=>_ | none=>_)=_;rw [h]
theorem Sc {T:Tab} {r:Rt} (H:Inv T):(A3 T r=none↔r.k∉Aa (Ab T)):=by
 have f:=@Lp T H r.k;unfold A3;constructor
 ·intro h;split at h
  ·cases h
  ·rename_i n;split at h
   ·cases h
   ·rename_i m;split at h
    ·cases h
    ·rename_i l;exact f (by simpa using n) (by simpa using m) (by simpa using l)
 ·intro h;have c:∀b,b<T.B.length->¬(getC (T.bk b) r.k).isSome=true:=by intro b j e;obtain ⟨i,hi,-,q,d,a,-⟩:=Gs e;exact h (a▸Db (Ej j (d▸Qp hi)))
  rw [if_neg (c _ (H.x1_lt r.k)),if_neg (c _ (H.x2_lt r.k)),if_neg];intro e;have:=Ix e;unfold Aa Ab at *
  rw [List.map_append] at h;exact h (List.mem_append_right _ this)
theorem Z1m {T:Tab} {r:Rt} {a:Tab} (h:A3 T r=some a):stay T r=(a,false):=by unfold stay;rw [I7,h]
theorem Me {T:Tab} {r:Rt} (h:A3 T r=none) (a:(fresh T r).2=none):stay T r=((fresh T r).1,false):=by unfold stay;rw [I7,h];simp only [a]
theorem Zw4 {T:Tab} {r q:Rt} (h:A3 T r=none) (a:(fresh T r).2=some q):stay T r=({ (fresh T r).1 with st:=Ak (fresh T r).1.st q },true):=by unfold stay;rw [I7,h];simp only [a]
theorem Zro {T:Tab} {r:Rt} (h:A3 T r=none):Cx T r=fresh T r:=by rw [I7,h]
theorem Z5s {L:List Rt} {r:Rt} (b:(Aa L).Nodup) (h:r.k∈Aa L):(r::outS L r.k).length=L.length:=by unfold Aa at h;rw [List.mem_map] at h;obtain ⟨q,a,e⟩:=h;have:=(E4 b a).length_eq;rw [e] at this;rw [this];rfl
theorem Sd {T:Tab} {r:Rt} (H:Inv T) (a:r.k.good) (h:A3 T r≠none):(Ab (stay T r).1).length=(Ab T).length:=by have:=(Fv H r a).all.length_eq;rw [this];exact Z5s H.keys (Classical.byContradiction λb=>h ((Sc H).2 b))
theorem Se {T:Tab} {r:Rt} (H:Inv T) (a:r.k.good) (h:A3 T r=none):(Ab (stay T r).1).length=(Ab T).length+1:=by have:=(Fv H r a).all.length_eq;rw [this,Cz ((Sc H).1 h)];rfl
theorem I8 (T:Tab):T.st.length<=(Ab T).length:=by unfold Ab;rw [Qo];omega
theorem Zv0 {T:Tab} {r:Rt} (H:Inv T) (b:r.k.good) (h:A3 T r=none):Inv (fresh T r).1/\(fresh T r).1.B.length=T.B.length/\(fresh T r).1.st.length=T.st.length/\∀q,(fresh T r).2=some q->q.k.good/\q.k∉Aa (Ab (fresh T r).1):=by have:=Re H r b;rw [Zro h] at this;exact ⟨this.inv,this.like.n,this.st,λq a=>⟨(this.left q a).1,(this.left q a).2.1⟩⟩
theorem Zrq {T:Tab} {k:Ky} (h:k∉Aa (Ab T)):Al T.st k=none:=by
 cases e:Al T.st k with
 | none=>rfl
 | some i=>have:=Ix (by rw [e];rfl:(Al T.st k).isSome=true);exact absurd (by unfold Ab Aa at *;rw [List.map_append];exact List.mem_append_right _ this) h
theorem G4 (d:Nat) {T:Tab} {r:Rt} (h:grows (stay T r)=false):putF d T r=(stay T r).1:=by
 cases d with
 | zero=>rfl
 | succ d=>unfold putF;rw [h];rfl
theorem Zxx (d:Nat) {T:Tab} {r:Rt} (h:grows (stay T r)=true):putF (d+1) T r=(Ab (stay T r).1).foldl (putF d) (grown (stay T r).1):=by show (if grows (stay T r)=true then _ else _)=_;rw [if_pos h]
theorem Zrr {l:List Rt} {k:Ky} {i:Nat} (h:Al l k=some i):∃hi:i<l.length,(l.find? λr=>decide (r.k=k))=some l[i]/\l[i].k=k:=by unfold Al at h;rw [List.findIdx?_eq_some_iff_getElem] at h;obtain ⟨hi,a,c⟩:=h;refine ⟨hi,?_,of_decide_eq_true a⟩;rw [List.find?_eq_some_iff_getElem];exact ⟨a,i,hi,rfl,λj b=>by have:=c j b;simpa using this⟩
theorem Sf {L:List Rt} {k:Ky} {q:Rt}:q∈outS L k↔q∈L/\q.k≠k:=by unfold outS;rw [List.mem_filter];simp
theorem Sg {L:List Rt} (c:(Aa L).Nodup) {a b:Rt} (ha:a∈L) (d:b∈L) (h:a.k=b.k):a=b:=by
 have:=(E4 c d).mem_iff.1 ha;rcases List.mem_cons.1 this with e | e
 ·exact e
 ·exact absurd h (Sf.1 e).2
theorem get_mem {T:Tab} (H:Inv T) {r:Rt} (h:r∈Ab T):getT T r.k=some r.v:=by
 have hit:∀b,b<T.B.length->∀v,getC (T.bk b) r.k=some v->v=r.v:=by intro b n v e;obtain ⟨i,hi,-,q,l,c,a⟩:=Gs (by rw [e];rfl:(getC (T.bk b) r.k).isSome=true);rw [e] at a;injection a with a;rw [a,Sg H.keys (Ej n (l▸Qp hi)) h c]
 unfold getT;cases j:getC (T.bk (T.x1 r.k)) r.k with
 | some v=>exact congrArg some (hit _ (H.x1_lt _) v j)
 | none=>
  cases f:getC (T.bk (T.x2 r.k)) r.k with
  | some v=>exact congrArg some (hit _ (H.x2_lt _) v f)
  | none=>
   cases d:Al T.st r.k with
   | none=>exact absurd (Db h) (Lp H (by rw [j];rfl) (by rw [f];rfl) (by rw [d];rfl))
   | some i=>obtain ⟨hi,e,m⟩:=Zrr d;show (List.find? _ _).map _=_;rw [e,Sg H.keys (show T.st[i]∈Ab T from List.mem_append_right _ (Qp hi)) h m];rfl
structure Hold (T:Tab) (n:Nat) (K:Nat->Ky) (V:Nat->Int):Prop where
 inv:Inv T
 len:(Ab T).length=n
 mem:∀j,j<n->(⟨K j,V j⟩:Rt)∈Ab T
 all:∀r∈Ab T,∃j,j<n/\r.k=K j
theorem Hold.empty {s n:Nat} (b:W64 s) (e:1<=n) (d:n<=65536) (K:Nat->Ky) (V:Nat->Int):Hold (A2 s n) 0 K V:=
 ⟨Ls b e d,by rw [Ek];rfl,λj c=>absurd c Qa,λr a=>by rw [Ek] at a;cases a⟩
theorem Hold.get {T:Tab} {n:Nat} {K:Nat->Ky} {V:Nat->Int} (H:Hold T n K V) {j:Nat} (a:j<n):getT T (K j)=some (V j):=by have h:=get_mem H.inv (H.mem j a);exact h
theorem Z2y {L:List Rt} {k:Ky} (h:(Aa L).Nodup):(Aa (outS L k)).Nodup:=by
 unfold Aa outS at *
 exact h.sublist (List.filter_sublist.map _)
theorem Si {l:List Rt} {k:Ky}:(outS l k).length<l.length↔k∈Aa l:=by
 constructor
 ·intro h;exact Classical.byContradiction λb=>by rw [Cz b] at h;omega
 ·intro h;unfold Aa at h;rw [List.mem_map] at h;obtain ⟨r,a,e⟩:=h;unfold outS;rw [List.length_filter_lt_length_iff_exists];exact ⟨r,a,by simp [e]⟩
theorem Sj {T:Tab} (H:Inv T) {b:Nat} (c:b<T.B.length) {k:Ky} {j:Nat} (a:j<(T.bk b).length) {q:Rt} (d:(T.bk b)[j]=some q) (f:q.k=k) :
 Inv (T.set b ((T.bk b).set j none))/\(Ab (T.set b ((T.bk b).set j none))).Perm (outS (Ab T) k)/\k∈Aa (Ab T):=by
 have h:=Z0m H c a d;rw [f] at h;exact ⟨H.place c a (λr e=>by cases e) h.1,h.2,f▸Db (Ej c (d▸Qp a))⟩
theorem Mf {T:Tab} (H:Inv T) (k:Ky):Inv (delT T k).1/\(Ab (delT T k).1).Perm (outS (Ab T) k)/\((delT T k).2=true↔k∈Aa (Ab T)):=by
 unfold delT;rcases Ra (T.bk (T.x1 k)) k with ⟨p,s⟩ | ⟨j,m,q,p,d,l⟩
 ·rw [p];rcases Ra (T.bk (T.x2 k)) k with ⟨o,n2⟩ | ⟨j,m,q,o,d,l⟩
  ·rw [o];have b:k∉Aa (T.B.flatMap allC):=by
    intro f;unfold Aa at f;rw [List.mem_map] at f;obtain ⟨r,a,rfl⟩:=f;rw [List.mem_flatMap] at a;obtain ⟨C,t,a⟩:=a;obtain ⟨i,hi,rfl⟩:=List.getElem_of_mem t;unfold allC at a;rw [List.mem_filterMap] at a;obtain ⟨x,c,e⟩:=a;simp only [id] at e;subst e;rw [<-E3 T i hi] at c;rcases H.home i hi r c with e | e
    ·subst e;exact Iv s r c rfl
    ·subst e;exact Iv n2 r c rfl
   have n:Ab { T with st:=outS T.st k }=outS (Ab T) k:=by
    show T.B.flatMap allC++outS T.st k=outS (T.B.flatMap allC++T.st) k;have:=Cz b;unfold outS at *
    rw [List.filter_append,this]
   refine ⟨⟨H.lo,H.hi,H.four,H.word,λr a => ?_,H.home,?_,Cm k H.sort⟩,by rw [n],?_⟩
   ·rw [n] at a;exact H.good r (Sf.1 a).1
   ·rw [n];exact Z2y H.keys
   ·rw [decide_eq_true_iff,Si];unfold Ab Aa at *
    rw [List.map_append,List.mem_append];exact ⟨.inr,λh=>h.resolve_left b⟩
  ·rw [o];have h:=Sj H (H.x2_lt k) m d l;exact ⟨h.1,h.2.1,λ_=>h.2.2,λ_=>rfl⟩
 ·rw [p];have h:=Sj H (H.x1_lt k) m d l;exact ⟨h.1,h.2.1,λ_=>h.2.2,λ_=>rfl⟩
structure Kept (T:Tab) (N:List Rt):Prop where
 inv:Inv T
 sort:Sorted N
 all:(Ab T).Perm N
theorem Kept.empty {s n:Nat} (a:W64 s) (c:1<=n) (b:n<=65536):Kept (A2 s n) []:=⟨Ls a c b,List.Pairwise.nil,by rw [Ek]⟩
theorem Kept.len {T:Tab} {N:List Rt} (H:Kept T N):(Ab T).length=N.length:=H.all.length_eq
theorem Kept.put {T:Tab} {N:List Rt} (H:Kept T N) (d:Nat) (r:Rt) (a:r.k.good):Kept (putF d T r) (Ak N r):=by have h:=Lw d T r H.inv a;exact ⟨h.inv,Cb r H.sort,(h.all.trans ((It H.all r.k).cons r)).trans (Cl r H.sort).symm⟩
theorem Kept.del {T:Tab} {N:List Rt} (H:Kept T N) (k:Ky):Kept (delT T k).1 (outS N k):=by have h:=Mf H.inv k;exact ⟨h.1,Cm k H.sort,h.2.1.trans (It H.all k)⟩
theorem Kept.del_tells {T:Tab} {N:List Rt} (H:Kept T N) (k:Ky):((delT T k).2=true↔k∈Aa N):=by rw [(Mf H.inv k).2.2];exact (Cy H.all).mem_iff
theorem Kept.get {T:Tab} {N:List Rt} (H:Kept T N) {r:Rt} (a:r∈N):getT T r.k=some r.v:=get_mem H.inv (H.all.mem_iff.2 a)
theorem Kept.sorted {T:Tab} {N M:List Rt} (H:Kept T N) (b:Sorted M) (a:M.Perm (Ab T)):M=N:=Iu b H.sort (a.trans H.all)
def Cp (h l:Nat) (n:Nat):List Bool:=(List.range n).map λi=>bitN h l i
theorem Cq (h l n:Nat):(Cp h l n).length=n:=by simp [Cp]
theorem Fw {h l n i:Nat} (hi:i<n):(Cp h l n)[i]'(by rw [Cq];exact hi)=bitN h l i:=by simp [Cp]
theorem Mg {h l j f n:Nat} (a:W64 h) (b:W64 l) (c:W64 j) (d:W64 f) (q:n<=128):Cp h l n=Cp j f n↔cutW h n=cutW j n/\cutW l (n-64)=cutW f (n-64):=by
 constructor
 ·intro e;have m:∀i,i<n->bitN h l i=bitN j f i:=λi hi=>by have:=congrArg (λL=>L[i]?) e;simp only [Qr (show i<(Cp h l n).length by rw [Cq];exact hi),Qr (show i<(Cp j f n).length by rw [Cq];exact hi),Fw hi] at this;exact Option.some.inj this
  refine Zs _ _ _ _ (a.cut _) (b.cut _) (c.cut _) (d.cut _) λi _ => ?_;rw [O2,O2];by_cases h:i<n
  ·rw [m i h]
  ·simp [h]
 ·rintro ⟨p,o⟩;refine List.ext_getElem (by rw [Cq,Cq]) λi k r => ?_;rw [Cq] at k;rw [Fw k,Fw k];unfold bitN;by_cases hi:i<64
  ·rw [if_pos hi,if_pos hi];have:=congrArg (λw=>w.testBit (63-i)) p;simp only [Fi,show 64-n<=63-i by omega,decide_true,Bool.true_and] at this;exact this
  ·rw [if_neg hi,if_neg hi,if_pos Qa,if_pos Qa];have:=congrArg (λw=>w.testBit (127-i)) o;simp only [Fi,show 64-(n-64)<=127-i by omega,decide_true,Bool.true_and] at this;exact this
def Fx (k:Ky):List Bool:=Cp k.h k.l k.n.toNat
def Fy (k:Ky):Prop:=Ap k.h k.l k.n=true
theorem Sk {d c m:Nat} (a:W64 d) (b:W64 c):(cutK d c m).good:=⟨W64.cut _ a,W64.cut _ b⟩
theorem Sl {k a:Ky} (g:k.good) (f:a.good) (r:Fy k) (i:Fy a) (h:Fx k=Fx a):k=a:=by
 have e:=(Fj _ _ _).1 r;have d:=(Fj _ _ _).1 i;have b:=congrArg List.length h;unfold Fx at b h;rw [Cq,Cq] at b;have o:k.n=a.n:=Qa;rw [<-b] at h;have c:=(Mg g.1 g.2 f.1 f.2 Qa).1 h;obtain ⟨s,q,p⟩:=k;obtain ⟨m,l,j⟩:=a;simp only at *
 subst o;rw [e.2.2.1,d.2.2.1,e.2.2.2,d.2.2.2] at c;rw [c.1,c.2]
inductive Tr where
 | nil
 | node (v:Option Int) (l r:Tr)
def Tr.get:Tr->List Bool->Option Int
 | .nil,_=>none
 | .node v _ _,[]=>v
 | .node _ l r,b::p=>if b then r.get p else l.get p
def Tr.put:Tr->List Bool->Int->Tr
 | .nil,[],x => .node (some x) .nil .nil
 | .nil,b::p,x=>if b then .node none .nil (Tr.put .nil p x) else .node none (Tr.put .nil p x) .nil
 | .node _ l r,[],x => .node (some x) l r
 | .node v l r,b::p,x=>if b then .node v l (r.put p x) else .node v (l.put p x) r
def Tr.del:Tr->List Bool->Tr
 | .nil,_ => .nil
 | .node _ l r,[] => .node none l r
 | .node v l r,b::p=>if b then .node v l (r.del p) else .node v (l.del p) r
theorem Tr.get_nil (p:List Bool):Tr.nil.get p=none:=by cases p<;>rfl
theorem Tr.get_put:∀(t:Tr) (p q:List Bool) (x:Int),(t.put p x).get q=if q=p then some x else t.get q
 | .nil,[],[],x=>rfl
 | .nil,[],c::q,x=>by rw [if_neg Qf];cases c<;>exact Tr.get_nil q
 | .nil,b::p,[],x=>by rw [if_neg Qf];unfold Tr.put;cases b<;>rfl
 | .nil,b::p,c::q,x=>by have a:=Tr.get_put .nil p q x;rw [Tr.get_nil] at a;unfold Tr.put;cases b<;>cases c<;>simp [Tr.get,Tr.get_nil,a]
 | .node v l r,[],[],x=>rfl
 | .node v l r,[],c::q,x=>by rw [if_neg Qf];rfl
 | .node v l r,b::p,[],x=>by rw [if_neg Qf];unfold Tr.put;cases b<;>rfl
 | .node v l r,b::p,c::q,x=>by have e:=Tr.get_put l p q x;have d:=Tr.get_put r p q x;unfold Tr.put;cases b<;>cases c<;>simp [Tr.get,e,d]
theorem Tr.get_del:∀(t:Tr) (p q:List Bool),(t.del p).get q=if q=p then none else t.get q
 | .nil,p,q=>by unfold Tr.del;rw [Tr.get_nil];split<;>rfl
 | .node v l r,[],[]=>rfl
 | .node v l r,[],c::q=>by rw [if_neg Qf];rfl
 | .node v l r,b::p,[]=>by rw [if_neg Qf];unfold Tr.del;cases b<;>rfl
 | .node v l r,b::p,c::q=>by have d:=Tr.get_del l p q;have a:=Tr.get_del r p q;unfold Tr.del;cases b<;>cases c<;>simp [Tr.get,d,a]
def Tr.sub:Tr->List Bool->Tr
 | t,[]=>t
 | .nil,_::_ => .nil
 | .node _ l r,b::p=>if b then r.sub p else l.sub p
theorem Tr.sub_zero (t:Tr):t.sub []=t:=by cases t<;>rfl
def Dc (N:List Rt) (k:Ky):Option Int:=(N.find? λr=>decide (r.k=k)).map Rt.v
theorem G5 {N:List Rt} (b:(Aa N).Nodup) {k:Ky} {x:Int}:Dc N k=some x↔(⟨k,x⟩:Rt)∈N:=by
 unfold Dc
 induction N with
 | nil=>simp
 | cons a N ih=>
  have c:a.k∉Aa N/\(Aa N).Nodup:=by
   unfold Aa at *
   rw [List.map_cons,List.nodup_cons] at b;exact b
  rw [List.find?_cons];by_cases e:a.k=k
  ·simp only [e,decide_true,Option.map_some,Option.some.injEq,List.mem_cons];constructor
   ·intro h;left;rw [<-h,<-e]
   ·rintro (h | h)
    ·rw [<-h]
    ·exact absurd (by rw [e];exact Db h) c.1
  ·simp only [e,decide_false,List.mem_cons];rw [ih c.2];constructor
   ·exact .inr
   ·rintro (h | h)
    ·exact absurd (by rw [<-h]) e
    ·exact h
theorem Mh {N:List Rt} {k:Ky}:Dc N k=none↔k∉Aa N:=by unfold Dc Aa;rw [Option.map_eq_none_iff,List.find?_eq_none];simp
theorem Z3t {N:List Rt} (h:Sorted N) (r:Rt) (k:Ky):Dc (Ak N r) k=if k=r.k then some r.v else Dc N k:=by
 have f:=Cb r h;have b:=Cl r h;by_cases e:k=r.k
 ·rw [if_pos e,G5 f.nodup];refine b.mem_iff.2 ?_;rw [e];exact List.mem_cons_self
 ·rw [if_neg e];cases a:Dc N k with
  | none=>
   rw [Mh] at a ⊢;intro c;unfold Aa at c a;rw [List.mem_map] at c;obtain ⟨q,i,rfl⟩:=c;rcases List.mem_cons.1 (b.mem_iff.1 i) with d | d
   ·exact e (by rw [d])
   ·exact a (List.mem_map_of_mem (A6.1 d).1)
  | some x=>rw [G5 f.nodup];rw [G5 h.nodup] at a;exact b.mem_iff.2 (List.mem_cons_of_mem _ (A6.2 ⟨a,e⟩))
theorem Z62 {N:List Rt} (h:Sorted N) (c k:Ky):Dc (outS N c) k=if k=c then none else Dc N k:=by
 have f:Sorted (outS N c):=List.Pairwise.filter _ h;by_cases e:k=c
 ·rw [if_pos e,Mh];intro a;unfold Aa at a;rw [List.mem_map] at a;obtain ⟨q,d,i⟩:=a;exact (A6.1 d).2 (i.trans e)
 ·rw [if_neg e];cases b:Dc N k with
  | none=>rw [Mh] at b ⊢;intro a;unfold Aa at a b;rw [List.mem_map] at a;obtain ⟨q,d,rfl⟩:=a;exact b (List.mem_map_of_mem (A6.1 d).1)
  | some x=>rw [G5 f.nodup];rw [G5 h.nodup] at b;exact A6.2 ⟨b,e⟩
structure TrOf (t:Tr) (N:List Rt):Prop where
 sort:Sorted N
 good:∀r∈N,r.k.good
 right:∀r∈N,Fy r.k
 has:∀k:Ky,k.good->Fy k->t.get (Fx k)=Dc N k
theorem TrOf.empty:TrOf .nil []:=⟨List.Pairwise.nil,λ_ h=>(by cases h),λ_ h=>(by cases h),λk _ _=>Tr.get_nil _⟩
theorem TrOf.put {t:Tr} {N:List Rt} (H:TrOf t N) (r:Rt) (g:r.k.good) (d:Fy r.k):TrOf (t.put (Fx r.k) r.v) (Ak N r):=by
 refine ⟨Cb r H.sort,λq a => ?_,λq a => ?_,λk c b => ?_⟩
 ·rcases Li H.sort a with e | e
  ·rw [e];exact g
  ·exact H.good q e
 ·rcases Li H.sort a with e | e
  ·rw [e];exact d
  ·exact H.right q e
 ·rw [Tr.get_put,Z3t H.sort,H.has k c b];by_cases e:k=r.k
  ·rw [if_pos e,if_pos (by rw [e])]
  ·rw [if_neg e,if_neg (λh=>e (Sl c g b d h))]
theorem TrOf.del {t:Tr} {N:List Rt} (H:TrOf t N) (a:Ky) (g:a.good) (f:Fy a):TrOf (t.del (Fx a)) (outS N a):=by
 refine ⟨List.Pairwise.filter _ H.sort,λq b=>H.good q (A6.1 b).1,λq b=>H.right q (A6.1 b).1,λk d c => ?_⟩;rw [Tr.get_del,Z62 H.sort,H.has k d c];by_cases e:k=a
 ·rw [if_pos e,if_pos (by rw [e])]
 ·rw [if_neg e,if_neg (λh=>e (Sl d g c f h))]
end
end Go.Proofs.YtpdphfgpdgadpaaGreat

import Derived.Shelf.GgSortMore.Stable
import Derived.Test.YtpdphfgpdgadpaaGreatProg
import Derived.Test.YtpdphfgpdgadpaaGreatReg6
import Derived.Test.YtpdphfgpdgadpaaGreatRT1
import Derived.RangeFuncNested
import Derived.RangeFuncBound
import Derived.OwnWalkIn
import Derived.TacticsInMore
import Derived.LoopNIn
import Derived.LoopIn
set_option linter.unusedSimpArgs false
set_option linter.unusedVariables false
open Go.Proofs.Tryz
namespace Go.Proofs
open YtpdphfgpdgadpaaGreat(Qa Qb Qe Qf Qn Qo Qq Qs Qt Qu)
open Go.Shelf
def Tryz.laysStb_ren:Go.Shelf.Ren:=⟨λ| 8=>26 | 13=>39 | 14=>40 | 16=>42 | 15=>41 | 29=>65 | 30=>66 | 42=>81 | 49=>95 | n=>n,λ| 20=>20 | 26=>68 | 36=>89 | 0=>0 | 38=>91 | 42=>95 | 3=>3 | 4=>4 | 47=>28 | 17=>17 | 33=>86 | 34=>87 | 89=>223 | 12=>12 | 56=>215 | 82=>216 | 5=>5 | 83=>217 | 84=>218 | 85=>219 | 86=>220 | 87=>221 | n=>n,λ| n=>n⟩
theorem Tryz.laysStb:Go.Proofs.LaysGt.n8 prog Tryz.laysStb_ren:={
 mixed:=Qb
 f8:=func26.trans (congrArg some Qb)
 f13:=func39.trans (congrArg some Qb)
 f14:=func40.trans (congrArg some Qb)
 f15:=func41.trans (congrArg some Qb)
 f16:=func42.trans (congrArg some Qb)
 f29:=func65.trans (congrArg some Qb)
 f30:=func66.trans (congrArg some Qb)
 f42:=func81.trans (congrArg some Qb)
 f49:=func95.trans (congrArg some Qb)
 t0:=underlying0
 a0:=Tryz.isAgg0
 z0:=Tryz.sizeOf0
 v0:=Tryz.zeroValue0
 i0:=Qb
 t3:=underlying3
 a3:=Tryz.isAgg3
 z3:=Tryz.sizeOf3
 v3:=Tryz.zeroValue3
 i3:=Qb
 t4:=underlying4
 a4:=Tryz.isAgg4
 z4:=Tryz.sizeOf4
 v4:=Tryz.zeroValue4
 i4:=Qb
 t5:=underlying5
 a5:=Tryz.isAgg5
 z5:=Tryz.sizeOf5
 v5:=Tryz.zeroValue5
 i5:=Qb
 t12:=underlying12
 a12:=Tryz.isAgg12
 z12:=Tryz.sizeOf12
 v12:=Tryz.zeroValue12
 i12:=Qb
 t17:=underlying17
 a17:=Tryz.isAgg17
 z17:=Tryz.sizeOf17
 v17:=Tryz.zeroValue17
 i17:=Qb
 t20:=underlying20
 a20:=Tryz.isAgg20
 z20:=Tryz.sizeOf20
 v20:=Tryz.zeroValue20
 i20:=Qb
 t26:=underlying68
 a26:=Tryz.isAgg68
 z26:=Tryz.sizeOf68
 v26:=Tryz.zeroValue68
 i26:=Qb
 t33:=underlying86
 a33:=Tryz.isAgg86
 z33:=Tryz.sizeOf86
 v33:=Tryz.zeroValue86
 i33:=Qb
 t34:=underlying87
 a34:=Tryz.isAgg87
 z34:=Tryz.sizeOf87
 v34:=Tryz.zeroValue87
 i34:=Qb
 t36:=underlying89
 a36:=Tryz.isAgg89
 z36:=Tryz.sizeOf89
 v36:=Tryz.zeroValue89
 i36:=Qb
 t38:=underlying91
 a38:=Tryz.isAgg91
 z38:=Tryz.sizeOf91
 v38:=Tryz.zeroValue91
 i38:=Qb
 t42:=underlying95
 a42:=Tryz.isAgg95
 z42:=Tryz.sizeOf95
 v42:=Tryz.zeroValue95
 i42:=Qb
 t47:=underlying28
 a47:=Tryz.isAgg28
 z47:=Tryz.sizeOf28
 v47:=Tryz.zeroValue28
 i47:=Qb
 t56:=underlying215
 a56:=Tryz.isAgg215
 z56:=Tryz.sizeOf215
 v56:=Tryz.zeroValue215
 i56:=Qb
 t82:=underlying216
 a82:=Tryz.isAgg216
 z82:=Tryz.sizeOf216
 v82:=Tryz.zeroValue216
 i82:=Qb
 t83:=underlying217
 a83:=Tryz.isAgg217
 z83:=Tryz.sizeOf217
 v83:=Tryz.zeroValue217
 i83:=Qb
 t84:=underlying218
 a84:=Tryz.isAgg218
 z84:=Tryz.sizeOf218
 v84:=Tryz.zeroValue218
 i84:=Qb
 t85:=underlying219
 a85:=Tryz.isAgg219
 z85:=Tryz.sizeOf219
 v85:=Tryz.zeroValue219
 i85:=Qb
 t86:=underlying220
 a86:=Tryz.isAgg220
 z86:=Tryz.sizeOf220
 v86:=Tryz.zeroValue220
 i86:=Qb
 t87:=underlying221
 a87:=Tryz.isAgg221
 z87:=Tryz.sizeOf221
 v87:=Tryz.zeroValue221
 i87:=Qb
 t89:=underlying223
 a89:=Tryz.isAgg223
 z89:=Tryz.sizeOf223
 v89:=Tryz.zeroValue223
 i89:=by kernel_rfl }
end Go.Proofs
namespace Go.Proofs.YtpdphfgpdgadpaaGreat
section
open Go Go.RowKit Go.Sort M
section
variable {P:Program} {ops:Array Oper} {md:Region.Mode} {C:World->Prop} {Q:Exit->Act->World->Prop} {S:World->Prop} {pre:Nat->Bool}
end
end
section
open Go Go.RowKit
section
variable {P:Program} {Q:Exit->Act->World->Prop} {a:Act} {w:World} {l n:Nat}
def Vx (Q:Exit->Act->World->Prop):Exit->Act->World->Prop
 | .normal,a,w=>Q .normal a w
 | _,_,_=>False
theorem Vx.normal (h:Q .normal a w):Vx Q .normal a w:=h
end
end
section
open Go.Sort M
def ltR (a b:Rt):Bool:=An a.k b.k
theorem Vy:SWO ltR:=by
 refine ⟨λx=>Bf _,λx y z h g=>D4 h g,λx y z h g => ?_⟩;unfold ltR at *
 cases a:An x.k z.k with
 | false=>rfl
 | true=>
  by_cases e:y.k=z.k
  ·rw [e] at h;rw [h] at a;cases a
  ·have b:=Fu e;rw [g] at b;have:=D4 a b;rw [h] at this;cases this
end
section
open Go.Sort
set_option linter.unusedSectionVars false
section
variable {α:Type} [Inhabited α] {lt:α->α->Bool}
def eqv (lt:α->α->Bool) (x y:α):Bool := !lt x y && !lt y x
def Stb (lt:α->α->Bool) (X Y:List α):Prop:=X.Perm Y/\∀x,X.filter (eqv lt x)=Y.filter (eqv lt x)
def Asc (lt:α->α->Bool) (X:List α):Prop:=X.Pairwise λa b=>lt b a=false
theorem Stb.refl (X:List α):Stb lt X X:=⟨List.Perm.refl _,λ_=>rfl⟩
theorem Stb.trans {X Y Z:List α} (h:Stb lt X Y) (g:Stb lt Y Z):Stb lt X Z:=⟨h.1.trans g.1,λx=>(h.2 x).trans (g.2 x)⟩
theorem Stb.append {X Y b a:List α} (h:Stb lt X b) (g:Stb lt Y a):Stb lt (X++Y) (b++a):=⟨h.1.append g.1,λx=>by rw [List.filter_append,List.filter_append,h.2,g.2]⟩
theorem Stb.len {X Y:List α} (h:Stb lt X Y):X.length=Y.length:=h.1.length_eq
theorem Stb.swap (f:SWO lt) {U V:List α} (h:∀u∈U,∀v∈V,lt v u=true):Stb lt (U++V) (V++U):=by
 refine ⟨List.perm_append_comm,λx => ?_⟩;rw [List.filter_append,List.filter_append];by_cases c:∃u∈U,eqv lt x u=true
 ·obtain ⟨u,c,a⟩:=c;have:V.filter (eqv lt x)=[]:=by rw [List.filter_eq_nil_iff];intro v e b;simp only [eqv,Qq,Bool.not_eq_true'] at a b;have:=f.ntrans v x u b.2 a.1;rw [h u c v e] at this;cases this
  rw [this];simp
 ·have:U.filter (eqv lt x)=[]:=by rw [List.filter_eq_nil_iff];exact λu d a=>c ⟨u,d,a⟩
  rw [this];simp
theorem asymm (a:SWO lt) {x y:α} (h:lt x y=true):lt y x=false:=by
 cases g:lt y x with
 | false=>rfl
 | true=>have:=a.trans x y x h g;rw [a.irrefl] at this;cases this
theorem Z1j (d:Array α) (i j:Nat) (hi:i<d.size) (c:j<d.size):swp d i j=swp d j i:=by
 apply Array.ext (by simp [swp]);intro k l h;have f:=swp_get d hi c k;have e:=swp_get d c hi k;rw [getElem!_pos (swp d i j) k l] at f;rw [getElem!_pos (swp d j i) k h] at e;rw [f,e];by_cases a:k=i
 ·by_cases b:k=j
  ·subst a;rw [b]
  ·rw [if_neg b,if_pos a,if_pos a]
 ·by_cases b:k=j
  ·rw [if_pos b,if_neg a,if_pos b]
  ·rw [if_neg b,if_neg a,if_neg a,if_neg b]
theorem F9 (P Q:List α) (x:α) (p:Nat) (a:p=P.length):(P++x::Q).toArray[p]! = x:=by subst a;simp
theorem Nq (P Q S:List α) (x y:α) (p q:Nat) (a:p=P.length) (b:q=P.length+1+Q.length) :
 swp (P++x::(Q++y::S)).toArray p q=(P++y::(Q++x::S)).toArray:=by
 have d:(P++x::(Q++y::S)).toArray[p]! = x:=F9 _ _ _ _ a;have c:(P++x::(Q++y::S)).toArray[q]! = y:=by have:=F9 (P++x::Q) S y q Qe;simpa using this
 unfold swp;rw [d,c];subst a b;rw [List.setIfInBounds_toArray,List.setIfInBounds_toArray];congr 1;rw [List.set_append_right _ _ (Qn _),Nat.sub_self,List.set_cons_zero,List.set_append_right _ _ Qa];rw [show P.length+1+Q.length-P.length=Q.length+1 from by omega,List.set_cons_succ,List.set_append_right _ _ (Qn _),Nat.sub_self,List.set_cons_zero]
theorem Vz (P Q S:List α) (x y:α) (p q:Nat) (b:p=P.length) (a:q=P.length+1+Q.length) :
 swp (P++x::(Q++y::S)).toArray q p=(P++y::(Q++x::S)).toArray:=by
 rw [Z1j _ _ _ Qe Qe];exact Nq P Q S x y p q b a
theorem V0 (p:SWO lt) (P:List α) (x:α):∀(n:Nat) (X Y:List α) (a j:Nat),X.length=n->a=P.length->j=P.length+n ->
 ∃f d,X=f++d/\insInner lt a j (P++(X++x::Y)).toArray=(P++(f++x::(d++Y))).toArray/\(∀z∈d,lt x z=true)/\∀z,f.getLast? = some z->lt x z=false
 | 0,X,Y,a,j,i,ha,o=>by obtain rfl:=List.eq_nil_of_length_eq_zero i;refine ⟨[],[],rfl,?_,Qf,Qf⟩;rw [insInner_stop lt a j _ (.inl Qa)];simp
 | n+1,X,Y,a,j,i,ha,o=>by
  obtain ⟨b,z,rfl⟩:∃b z,X=b++[z]:=⟨X.dropLast,X.getLast (by intro e;simp [e] at i),(List.dropLast_concat_getLast _).symm⟩;have k:b.length=n:=by simpa using i
  have u:P++((b++[z])++x::Y)=(P++b)++z::([]++x::Y):=Qf;have m:(P++((b++[z])++x::Y)).toArray[j]! = x:=by have:=F9 (P++(b++[z])) Y x j Qe;simpa using this
  have l:(P++((b++[z])++x::Y)).toArray[j-1]! = z:=by have:=F9 (P++b) (x::Y) z (j-1) Qe;simpa using this
  cases h:lt x z with
  | false=>
   refine ⟨b++[z],[],Qf,?_,Qf,?_⟩
   ·rw [insInner_stop lt a j _ (.inr (by rw [m,l];exact h))];simp
   ·intro y c;simp at c;subst c;exact h
  | true=>
   rw [insInner_go lt a j _ Qa (by rw [m,l];exact h),u,Vz (P++b) [] Y z x (j-1) j Qe Qe];obtain ⟨f,d,t,s,r,q⟩:=V0 p P x n b (z::Y) a (j-1) k ha Qa;refine ⟨f,d++[z],by rw [t];simp,?_,?_,q⟩
   ·have e:(P++b)++x::([]++z::Y)=P++(b++x::(z::Y)):=Qf;rw [e,s];simp
   ·intro y c;rcases List.mem_append.1 c with c | c
    ·exact r y c
    ·simp at c;subst c;exact h
theorem V3 {x:α} {X:List α} (h:Asc lt X) (a:∀z∈X,lt z x=false):Asc lt (x::X):=List.pairwise_cons.2 ⟨a,h⟩
theorem Bw {X Y:List α}:Asc lt (X++Y)↔Asc lt X/\Asc lt Y/\∀x∈X,∀y∈Y,lt y x=false:=List.pairwise_append
theorem V4 (k:SWO lt) (P:List α):∀(n:Nat) (f c Y:List α) (a b i:Nat),c.length=n->a=P.length->i=P.length+f.length->b=P.length+f.length+n->Asc lt f ->
 ∃R,insOuter lt a b i (P++(f++(c++Y))).toArray=(P++(R++Y)).toArray/\Asc lt R/\Stb lt (f++c) R
 | 0,f,c,Y,a,b,i,j,ha,hi,r,o=>by obtain rfl:=List.eq_nil_of_length_eq_zero j;rw [insOuter_stop lt a b i _ Qa];exact ⟨f,Qf,o,by simpa using Stb.refl _⟩
 | n+1,f,c,Y,a,b,i,j,ha,hi,r,o=>by
  cases c with
  | nil=>simp at j
  | cons x c=>
   simp only [Qt,Nat.add_right_cancel_iff] at j;rw [insOuter_go lt a b i _ Qa];obtain ⟨U1,U2,F,E,s,D⟩:=V0 k P x f.length f (c++Y) a i rfl ha hi;have e:P++(f++(x::c++Y))=P++(f++x::(c++Y)):=Qf;rw [e,E];subst F;obtain ⟨p,s2,t⟩:=Bw.1 o;have low:∀z∈U1,lt x z=false:=by
    intro z d;cases l:U1.getLast? with
    | none=>rw [List.getLast?_eq_none_iff] at l;rw [l] at d;cases d
    | some y=>
     have h:=D y l;obtain ⟨W,rfl⟩:=List.getLast?_eq_some_iff.1 l;rcases List.mem_append.1 d with d | d
     ·exact k.ntrans x y z h ((Bw.1 p).2.2 z d y Qf)
     ·simp at d;subst d;exact h
   have m:Asc lt (U1++x::U2):=Bw.2 ⟨p,V3 s2 λz d=>asymm k (s z d),λz d y h=>by
    rcases List.mem_cons.1 h with rfl | h
    ·exact low z d
    ·exact t z d y h⟩
   obtain ⟨R,B,A,w⟩:=V4 k P n (U1++x::U2) c Y a b (i+1) j ha (by simp at hi ⊢;omega) (by simp at r ⊢;omega) m;refine ⟨R,?_,A,Stb.trans ?_ w⟩
   ·rw [<-B];simp
   ·have:(U1++U2)++x::c=U1++((U2++[x])++c):=Qf;rw [this];have:(U1++x::U2)++c=U1++(([x]++U2)++c):=Qf;rw [this];exact (Stb.refl U1).append ((Stb.swap k λu C v q=>by simp at q;subst q;exact s u C).append (Stb.refl c))
theorem V5 (d:SWO lt) (P X Y:List α) (a b:Nat) (ha:a=P.length) (c:b=P.length+X.length) :
 ∃R,insertionSort lt (P++(X++Y)).toArray a b=(P++(R++Y)).toArray/\Asc lt R/\Stb lt X R:=by
 unfold insertionSort;cases X with
 | nil=>exact ⟨[],by rw [insOuter_stop lt a b _ _ (by simp at c;omega)],List.Pairwise.nil,Stb.refl _⟩
 | cons x X=>obtain ⟨R,h,f,e⟩:=V4 d P X.length [x] X Y a b (a+1) rfl ha Qe (by simp at c ⊢;omega) (by unfold Asc;simp);exact ⟨R,by simpa using h,f,by simpa using e⟩
theorem Nr (d:SWO lt) {U1 U2 V1 V2 R1 R2:List α} (h:Asc lt (U1++U2)) (f:Asc lt (V1++V2)) (i:∀u∈U1,∀v∈V2,lt v u=false) (e:∀u∈U2,∀v∈V1,lt v u=true)
 (c:Stb lt (U1++V1) R1) (s2:Stb lt (U2++V2) R2) (m:Asc lt R1) (l:Asc lt R2):Asc lt (R1++R2)/\Stb lt ((U1++U2)++(V1++V2)) (R1++R2):=by
 constructor
 ·refine Bw.2 ⟨m,l,λx b y a => ?_⟩;rcases List.mem_append.1 (c.1.mem_iff.2 b) with b | b<;>rcases List.mem_append.1 (s2.1.mem_iff.2 a) with a | a
  ·exact (Bw.1 h).2.2 x b y a
  ·exact i x b y a
  ·exact asymm d (e y a x b)
  ·exact (Bw.1 f).2.2 x b y a
 ·have k:(U1++U2)++(V1++V2)=U1++((U2++V1)++V2):=Qf;have j:U1++((V1++U2)++V2)=(U1++V1)++(U2++V2):=Qf;rw [k];refine ((Stb.refl U1).append ((Stb.swap d e).append (Stb.refl V2))).trans ?_;rw [j];exact c.append s2
theorem V6 {A X B:List α} {x:α} (h:x∈X):∃c,A.length<=c/\c<A.length+X.length/\(A++(X++B)).toArray[c]! = x:=by obtain ⟨i,hi,rfl⟩:=List.mem_iff_getElem.1 h;refine ⟨A.length+i,Qa,Qa,?_⟩;rw [getElem!_pos _ _ Qe];simp [List.getElem_append_right,List.getElem_append_left,hi]
theorem Ew (d:SWO lt) {A X B:List α} (h:Asc lt X) {i j:Nat} (k:A.length<=i) (l:i<=j) (f:j<A.length+X.length):lt (A++(X++B)).toArray[j]! (A++(X++B)).toArray[i]! = false:=by
 have g:∀c,A.length<=c->(hc:c<A.length+X.length)->(A++(X++B)).toArray[c]! = X[c-A.length]:=by intro c a b;rw [getElem!_pos _ _ Qe];simp only [List.getElem_toArray];rw [List.getElem_append_right a,List.getElem_append_left Qa]
 rw [g i k Qa,g j Qa f];by_cases e:i=j
 ·subst e;exact d.irrefl _
 ·exact List.pairwise_iff_getElem.1 h (i-A.length) (j-A.length) Qa Qa Qa
structure Bs (f:Nat->Bool) (lo hi i j:Nat):Prop where
 h1:lo<=i
 h2:i<=j
 h3:j<=hi
 low:∀c,lo<=c->c<i->f c=true
 high:∀c,j<=c->c<hi->f c=false
theorem Bs.start (f:Nat->Bool) {lo hi:Nat} (h:lo<=hi):Bs f lo hi lo hi:=⟨Qn _,h,Qn _,λc b a=>Qa,λc b a=>Qa⟩
theorem Bs.up {f:Nat->Bool} {lo hi i j h:Nat} (B:Bs f lo hi i j) (mono:∀c e,lo<=c->c<=e->e<hi->f e=true->f c=true) (k:i<=h) (d:h<j) (a:f h=true):Bs f lo hi (h+1) j:=by have:=B.h1;have:=B.h3;exact ⟨Qa,Qa,B.h3,λc b c2=>mono c h b Qa Qa a,B.high⟩
theorem Bs.down {f:Nat->Bool} {lo hi i j h:Nat} (B:Bs f lo hi i j) (mono:∀c e,lo<=c->c<=e->e<hi->f e=true->f c=true) (d:i<=h) (l:h<j) (a:f h=false):Bs f lo hi i h:=by
 have:=B.h1;have:=B.h3;refine ⟨B.h1,d,Qa,B.low,λc k c2 => ?_⟩;cases b:f c with
 | false=>rfl
 | true=>have:=mono h c Qa k c2 b;rw [a] at this;cases this
end
end
section
open Go.Sort M
instance:Inhabited Ky:=⟨⟨0,0,0⟩⟩
def Ay:List Rt->List Rt
 | []=>[]
 | [r]=>[r]
 | r::q::l=>if q.k=r.k then Ay (q::l) else r::Ay (q::l)
def lst (l:List Rt) (k:Ky):Option Rt:=(l.filter λr=>decide (r.k=k)).getLast?
theorem Z2p (l:List Rt) (r:Rt) (k:Ky):lst (l++[r]) k=if r.k=k then some r else lst l k:=by
 unfold lst;rw [List.filter_append];by_cases h:r.k=k
 ·simp [h]
 ·simp [h]
theorem Dt {L:List Rt} {r q:Rt} (h:Sorted L):q∈Ak L r↔q=r\/(q∈L/\q.k≠r.k):=by rw [(Cl r h).mem_iff,List.mem_cons,A6]
theorem Ns (l:List Rt) (r:Rt):Af (l++[r])=Ak (Af l) r:=by unfold Af;rw [List.foldl_append];rfl
theorem Cj (l:List Rt):Sorted (Af l)/\∀q,q∈Af l↔lst l q.k=some q:=by
 suffices H:∀(n:Nat) (l:List Rt),l.length=n->Sorted (Af l)/\∀q,q∈Af l↔lst l q.k=some q from H l.length l rfl;intro n
 induction n with
 | zero=>intro l b;obtain rfl:=List.eq_nil_of_length_eq_zero b;exact ⟨List.Pairwise.nil,λq=>by simp [Af,lst]⟩
 | succ n ih=>
  intro l b;obtain ⟨l,r,rfl⟩:∃d r,l=d++[r]:=⟨l.dropLast,l.getLast (by intro e;simp [e] at b),(List.dropLast_concat_getLast _).symm⟩;obtain ⟨c,f⟩:=ih l (by simpa using b);rw [Ns];refine ⟨Cb r c,λq => ?_⟩;rw [Dt c,Z2p];by_cases h:r.k=q.k
  ·rw [if_pos h];constructor
   ·rintro (rfl | ⟨-,a⟩)
    ·rfl
    ·exact absurd h.symm a
   ·intro e;exact .inl (Option.some.inj e).symm
  ·rw [if_neg h,<-f q];constructor
   ·rintro (rfl | ⟨a,-⟩)
    ·exact absurd rfl h
    ·exact a
   ·intro a;exact .inr ⟨a,λe=>h e.symm⟩
theorem Nt (r:Rt) (l:List Rt) (k:Ky) (h:r.k≠k):lst (r::l) k=lst l k:=by unfold lst;rw [List.filter_cons_of_neg (by simpa using h)]
theorem Z2q (r q:Rt) (l:List Rt) (k:Ky) (h:q.k=r.k):lst (r::q::l) k=lst (q::l) k:=by
 by_cases e:r.k=k
 ·unfold lst;rw [List.filter_cons_of_pos (by simpa using e),List.filter_cons_of_pos (l:=l) (a:=q) (by simpa using h.trans e)];rw [List.getLast?_cons_cons]
 ·exact Nt r _ k e
theorem Z2r {l:List Rt} {k:Ky} (h:∀z∈l,z.k≠k):lst l k=none:=by unfold lst;rw [List.filter_eq_nil_iff.2 (λz a=>by simpa using h z a)];rfl
theorem Z37 {r q:Rt} {l:List Rt} (h:Asc ltR (r::q::l)) (f:q.k≠r.k):∀z∈q::l,An r.k z.k=true:=by
 obtain ⟨m,j⟩:=List.pairwise_cons.1 h;have d:An r.k q.k=true:=by have:=Fu (a:=q.k) (b:=r.k) f;rw [this];have:=m q Qf;unfold ltR at this;rw [this];rfl
 intro z c;rcases List.mem_cons.1 c with rfl | c
 ·exact d
 ·have i:=(List.pairwise_cons.1 j).1 z c;cases e:An r.k z.k with
  | true=>rfl
  | false=>have:=Vy.ntrans r z q e i;unfold ltR at this;rw [d] at this;cases this
theorem V7:∀{M:List Rt},Asc ltR M->Sorted (Ay M)/\(∀q∈Ay M,q∈M)/\∀q,q∈Ay M↔lst M q.k=some q
 | [],_=>⟨List.Pairwise.nil,by simp [Ay],λq=>by simp [Ay,lst]⟩
 | [r],_=>by
  refine ⟨by simp [Ay,Sorted],by simp [Ay],λq => ?_⟩;unfold Ay;by_cases h:r.k=q.k
  ·have:lst [r] q.k=some r:=by simp [lst,h]
   rw [this];simp;exact eq_comm
  ·rw [Nt r [] q.k h];simp [lst];rintro rfl;exact h rfl
 | r::q::l,h=>by
  obtain ⟨m,j⟩:=List.pairwise_cons.1 h;obtain ⟨f,c,d⟩:=V7 j;unfold Ay;by_cases b:q.k=r.k
  ·rw [if_pos b];exact ⟨f,λz a=>List.mem_cons_of_mem _ (c z a),λz=>by rw [Z2q r q l _ b];exact d z⟩
  ·rw [if_neg b];have i:=Z37 h b;refine ⟨List.pairwise_cons.2 ⟨λz a=>i z (c z a),f⟩,λz a => ?_,λz => ?_⟩
   ·rcases List.mem_cons.1 a with rfl | a
    ·simp
    ·exact List.mem_cons_of_mem _ (c z a)
   ·have none:lst (q::l) r.k=none:=Z2r λz a e=>by have:=i z a;rw [e,Bf] at this;cases this
    rw [List.mem_cons,d z];by_cases e:r.k=z.k
    ·rw [<-e,none];have:lst (r::q::l) r.k=some r:=by unfold lst at none ⊢;rw [List.filter_cons_of_pos Qf,List.getLast?_eq_none_iff.1 none];rfl
     rw [this];constructor
     ·rintro (rfl | e)
      ·rfl
      ·cases e
     ·intro e;exact .inl (Option.some.inj e).symm
    ·rw [Nt r _ _ e];constructor
     ·rintro (rfl | h)
      ·exact absurd rfl e
      ·exact h
     ·exact .inr
theorem Z6s (x y:Rt):eqv ltR x y=decide (y.k=x.k):=by
 unfold eqv ltR;by_cases h:y.k=x.k
 ·rw [h,Bf];simp
 ·rw [Fu h];simp [h]
theorem Z59 {l M:List Rt} (h:Stb ltR l M) (q:Rt):lst M q.k=lst l q.k:=by have:=h.2 q;have e:(eqv ltR q)=λr=>decide (r.k=q.k):=funext λr=>Z6s q r;rw [e] at this;unfold lst;rw [this]
theorem J5 {L:List Rt} (h:Sorted L):L.Nodup:=List.Pairwise.imp (λ{a b} c e=>by rw [e,Bf] at c;cases c) h
theorem Z2x {l M:List Rt} (h:Asc ltR M) (b:Stb ltR l M):Ay M=Af l:=by obtain ⟨a,-,c⟩:=V7 h;obtain ⟨b1,b2⟩:=Cj l;refine Iu a b1 ((List.perm_ext_iff_of_nodup (J5 a) (J5 b1)).2 λq => ?_);rw [c q,b2 q,Z59 b q]
theorem V8 (M:List Rt) (i:Nat) (hi:i<M.length):Ay (M.drop i)=(if h:i+1<M.length then (if M[i+1].k=M[i].k then [] else [M[i]]) else [M[i]])++Ay (M.drop (i+1)):=by
 rw [List.drop_eq_getElem_cons hi];by_cases h:i+1<M.length
 ·rw [dif_pos h,List.drop_eq_getElem_cons h];have a:∀(r q:Rt) (l:List Rt),Ay (r::q::l)=if q.k=r.k then Ay (q::l) else r::Ay (q::l):=λ_ _ _=>rfl
  rw [a];by_cases e:M[i+1].k=M[i].k
  ·rw [if_pos e,if_pos e,List.nil_append]
  ·rw [if_neg e,if_neg e];rfl
 ·rw [dif_neg h,List.drop_eq_nil_of_le Qa];rfl
theorem Nu:∀M:List Rt,(Ay M).length<=M.length
 | []=>by simp [Ay]
 | [r]=>by simp [Ay]
 | r::q::l=>by have:=Nu (q::l);unfold Ay;split<;>simp at * <;> omega
end
section
open Go.Sort
set_option linter.unusedSectionVars false
section
variable {α:Type} [Inhabited α] {lt:α->α->Bool}
def f1 (lt:α->α->Bool) (L:List α) (a c:Nat):Bool:=lt L.toArray[c]! L.toArray[a]!
theorem Z6o (f:SWO lt) {A U V B L:List α} (e:L=A++(U++(V++B))) (k:Asc lt V) (a m b:Nat) (p:m=A.length+U.length) (q:b=m+V.length):∀c e,m<=c->c<=e->e<b->f1 lt L a e=true->f1 lt L a c=true:=by
 intro c n s l r d;unfold f1 at d ⊢;have o:L=(A++U)++(V++B):=by rw [e];simp
 have:=Ew (A:=A++U) (B:=B) f k (i:=c) (j:=n) Qe l Qe;rw [<-o] at this;cases h:lt L.toArray[c]! L.toArray[a]! with
 | true=>rfl
 | false=>have:=f.ntrans _ _ _ this h;rw [d] at this;cases this
theorem take_at {A X B:List α} {k:Nat} {x:α} (h:x∈X.take k):∃c,A.length<=c/\c<A.length+k/\c<A.length+X.length/\(A++(X++B)).toArray[c]! = x:=by obtain ⟨c,d,b,a⟩:=V6 (A:=A) (B:=X.drop k++B) h;rw [Qs] at b;refine ⟨c,d,Qa,Qa,?_⟩;rw [<-a];congr 2;rw [<-Qu (X.take k),List.take_append_drop]
theorem J6 {A X B:List α} {k:Nat} {x:α} (h:x∈X.drop k):∃c,A.length+k<=c/\c<A.length+X.length/\(A++(X++B)).toArray[c]! = x:=by
 have a:k<=X.length:=by refine Nat.le_of_not_lt λa => ?_;rw [List.drop_eq_nil_of_le Qa] at h;cases h
 obtain ⟨c,e,d,b⟩:=V6 (A:=A++X.take k) (B:=B) h;simp only [Qo,Qs,List.length_drop] at e d;refine ⟨c,Qa,Qa,?_⟩;rw [<-b];congr 2;rw [Qu,<-Qu (X.take k),List.take_append_drop]
theorem Z19 (p:SWO lt) {A V B L:List α} {u:α} (e:L=A++([u]++(V++B))) (a m b i:Nat) (ha:a=A.length) (n:m=A.length+1) (o:b=m+V.length) (S:Bs (f1 lt L a) m b i i) :
 (∀v∈V.take (i-m),lt v u=true)/\∀v∈V.drop (i-m),lt v u=false:=by
 have k:L.toArray[a]! = u:=by rw [e];exact F9 A _ u a ha
 have l:L=(A++[u])++(V++B):=by rw [e];simp
 have:=S.h1;constructor<;>intro v j
 ·obtain ⟨c,h,f,-,d⟩:=take_at (A:=A++[u]) (B:=B) j;rw [<-l] at d;simp only [Qo,List.length_singleton] at h f;have:=S.low c Qa Qa;unfold f1 at this
  rwa [d,k] at this
 ·obtain ⟨c,h,f,d⟩:=J6 (A:=A++[u]) (B:=B) j;rw [<-l] at d;simp only [Qo,List.length_singleton] at h f;have:=S.high c Qa Qa;unfold f1 at this
  rwa [d,k] at this
def f2 (lt:α->α->Bool) (L:List α) (m c:Nat):Bool := !lt L.toArray[m]! L.toArray[c]!
theorem Z6n (d:SWO lt) {A U B L:List α} (e:L=A++(U++B)) (f:Asc lt U) (a m:Nat) (ha:a=A.length) (l:m=A.length+U.length):∀c e,a<=c->c<=e->e<m->f2 lt L m e=true->f2 lt L m c=true:=by intro c k o h n b;unfold f2 at b ⊢;rw [Bool.not_eq_true'] at b ⊢;have:=Ew (A:=A) (B:=B) d f (i:=c) (j:=k) Qa h Qa;rw [<-e] at this;exact d.ntrans _ _ _ b this
theorem Z79 {A U B L:List α} {v:α} (e:L=A++(U++([v]++B))) (a m i:Nat) (ha:a=A.length) (k:m=A.length+U.length) (S:Bs (f2 lt L m) a m i i) :
 (∀u∈U.take (i-a),lt v u=false)/\∀u∈U.drop (i-a),lt v u=true:=by
 have d:L.toArray[m]! = v:=by have:=F9 (A++U) B v m Qe;rw [e];simpa using this
 have:=S.h1;constructor<;>intro u f
 ·obtain ⟨c,j,h,-,b⟩:=take_at (A:=A) (B:=[v]++B) f;rw [<-e] at b;have:=S.low c Qa Qa;unfold f2 at this;rw [b,d,Bool.not_eq_true'] at this;exact this
 ·obtain ⟨c,j,h,b⟩:=J6 (A:=A) (B:=[v]++B) f;rw [<-e] at b;have:=S.high c Qa Qa;unfold f2 at this;rw [b,d,Bool.not_eq_false'] at this;exact this
def f3 (lt:α->α->Bool) (L:List α) (p c:Nat):Bool := !lt L.toArray[p-c]! L.toArray[c]!
structure Sy (a m b mid lo r0:Nat):Prop where
 am:a<m
 mb:m<b
 half:mid=(a+b)/2
 way:(mid<m/\lo=mid+m-b/\r0=mid)\/(m<=mid/\lo=a/\r0=m)
theorem Sy.le {a m b c lo r0:Nat} (Y:Sy a m b c lo r0):a<=lo/\lo<=r0/\r0<=m/\r0<=c:=by have:=Y.am;have:=Y.mb;have:=Y.half;have:=Y.way;omega
theorem Sy.in1 {a m b d lo r0 c:Nat} (Y:Sy a m b d lo r0) (f:lo<=c) (e:c<r0):a<=c/\c<m/\m<=d+m-1-c/\d+m-1-c<b:=by have:=Y.am;have:=Y.mb;have:=Y.half;have:=Y.way;omega
theorem Z6m (f:SWO lt) {A U V B L:List α} (e:L=A++(U++(V++B))) (n:Asc lt U) (l:Asc lt V) {a m b d lo r0:Nat} (Y:Sy a m b d lo r0) (ha:a=A.length) (w:m=A.length+U.length) (x:b=m+V.length) :
 ∀c e,lo<=c->c<=e->e<r0->f3 lt L (d+m-1) e=true->f3 lt L (d+m-1) c=true:=by
 intro c k q p o h;unfold f3 at h ⊢;rw [Bool.not_eq_true'] at h ⊢;have t:=Y.in1 q Qa;have s:=Y.in1 (c:=k) Qa o;have u:=Ew (A:=A) (B:=V++B) f n (i:=c) (j:=k) Qa p Qa;have v:=Ew (A:=A++U) (B:=B) f l (i:=d+m-1-k) (j:=d+m-1-c) Qe Qa Qe;rw [<-e] at u;have r:L=(A++U)++(V++B):=by rw [e];simp
 rw [<-r] at v;exact f.ntrans _ _ _ (f.ntrans _ _ _ v h) u
theorem Zwv (k:SWO lt) {A U V B L:List α} (e:L=A++(U++(V++B))) (D:Asc lt U) (C:Asc lt V) {a m b f lo r0 s:Nat} (Y:Sy a m b f lo r0) (ha:a=A.length) (Q:m=A.length+U.length) (R:b=m+V.length) (S:Bs (f3 lt L (f+m-1)) lo r0 s s) :
 (a<=s/\s<=m/\s<=f/\m<=f+m-s/\f+m-s<=b)/\(∀u∈U.take (s-a),∀v∈V.drop (f+m-s-m),lt v u=false)/\∀u∈U.drop (s-a),∀v∈V.take (f+m-s-m),lt v u=true:=by
 have b1:=S.h1;have b2:=S.h3;have O:=Y.am;have N:=Y.mb;have K:=Y.half;have J:=Y.way;have q:L=(A++U)++(V++B):=by rw [e];simp
 refine ⟨Qa,λu t v r => ?_,λu t v r => ?_⟩
 ·obtain ⟨c,I,F,-,o⟩:=take_at (A:=A) (B:=V++B) t;obtain ⟨d,z,w,p⟩:=J6 (A:=A++U) (B:=B) r;rw [<-e] at o;rw [<-q] at p;simp only [Qo] at z w;have n:lo<=s-1:=Qa;have l:=S.low (s-1) n Qa;have E:=Y.in1 n Qa;unfold f3 at l;rw [Bool.not_eq_true'] at l;have x:=Ew (A:=A) (B:=V++B) k D (i:=c) (j:=s-1) Qa Qa Qa;have y:=Ew (A:=A++U) (B:=B) k C (i:=f+m-1-(s-1)) (j:=d) Qe Qa Qe;rw [<-e] at x;rw [<-q] at y;rw [o] at x;rw [p] at y;exact k.ntrans _ _ _ (k.ntrans _ _ _ y l) x
 ·obtain ⟨c,I,F,o⟩:=J6 (A:=A) (B:=V++B) t;obtain ⟨d,z,w,-,p⟩:=take_at (A:=A++U) (B:=B) r;rw [<-e] at o;rw [<-q] at p;simp only [Qo] at z w;have n:s<r0:=Qa;have l:=S.high s Qa n;have E:=Y.in1 b1 n;unfold f3 at l;rw [Bool.not_eq_false'] at l;have x:=Ew (A:=A) (B:=V++B) k D (i:=s) (j:=c) Qa Qa Qa;have y:=Ew (A:=A++U) (B:=B) k C (i:=d) (j:=f+m-1-s) Qe Qa Qe;rw [<-e] at x;rw [<-q] at y;rw [o] at x;rw [p] at y;cases h:lt v u with
  | true=>rfl
  | false=>have:=k.ntrans _ _ _ (k.ntrans _ _ _ y h) x;rw [l] at this;cases this
inductive Bl (lt:α->α->Bool) (b:Nat):List α->Prop
 | last {X:List α}:X.length<=b->Asc lt X->Bl lt b X
 | more {X R:List α}:X.length=b->Asc lt X->Bl lt b R->Bl lt b (X++R)
theorem Bl.asc {b:Nat} {X:List α} (h:Bl lt b X) (a:X.length<=b):Asc lt X:=by
 induction h with
 | last _ h=>exact h
 | @more X R h1 h2 h3 ih=>have:R=[]:=List.eq_nil_of_length_eq_zero (by simp at a;omega);subst this;simpa using h2
theorem Bl.one {b:Nat} {X:List α} (h:Bl lt b X) (a:b<=X.length):∃Y R,X=Y++R/\Y.length=b/\Asc lt Y/\Bl lt b R:=by
 cases h with
 | last h1 h2=>exact ⟨X,[],Qf,Qa,h2,.last Qf List.Pairwise.nil⟩
 | @more Y R h1 h2 h3=>exact ⟨Y,R,rfl,h1,h2,h3⟩
def Pre (lt:α->α->Bool) (b:Nat) (P:List α):Prop:=∀R,Bl lt b R->Bl lt b (P++R)
theorem Pre.nil (b:Nat):Pre lt b []:=λR h=>by simpa using h
theorem Pre.next {b:Nat} {P X:List α} (h:Pre lt b P) (c:X.length=b) (a:Asc lt X):Pre lt b (P++X):=λR d=>by have:=h _ (Bl.more c a d);simpa using this
theorem Zu7 {P X Q Y S:List α} {x y:α} (p q:Nat) (a:p=P.length) (b:q=P.length+1+X.length+Q.length) :
 swp (P++(x::X++(Q++(y::Y++S)))).toArray p q=((P++[y])++(X++((Q++[x])++(Y++S)))).toArray:=by
 have e:P++(x::X++(Q++(y::Y++S)))=P++x::((X++Q)++y::(Y++S)):=Qf;rw [e,Nq P (X++Q) (Y++S) x y p q a Qe];simp
theorem Zx6 {P S:List α} {x y:α} (p q:Nat) (a:p=P.length) (b:q=P.length+1):swp (P++(x::y::S)).toArray p q=(P++(y::x::S)).toArray:=by have:=Nq P [] S x y p q a Qe;simpa using this
theorem Zvg {P S:List α} {x y:α} (p q:Nat) (a:p=P.length) (b:q=P.length+1):swp (P++(x::y::S)).toArray q p=(P++(y::x::S)).toArray:=by have:=Vz P [] S x y p q a Qe;simpa using this
end
end
end Go.Proofs.YtpdphfgpdgadpaaGreat

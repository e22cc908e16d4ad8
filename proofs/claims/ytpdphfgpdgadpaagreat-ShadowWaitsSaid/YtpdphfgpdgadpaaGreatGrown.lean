import Derived.Test.YtpdphfgpdgadpaaGreatM12b
set_option linter.unusedSimpArgs false
set_option linter.unusedVariables false
open Go.Proofs.Tryz
namespace Go.Proofs.YtpdphfgpdgadpaaGreat
section
open M
def cutK (b a m:Nat):Ky:=⟨cutW b m,cutW a (m-64),(m:Int)⟩
theorem P3 (w n:Nat):cutW (cutW w n) n=cutW w n:=by unfold cutW;rw [Nat.mul_div_cancel _ (Nat.two_pow_pos _)]
theorem Ei (k:Ky) (e d:Nat):hasB k.h k.l k.n e d=true↔∃m:Nat,m<=128/\k=cutK e d m:=by
 unfold hasB Ap;simp only [Qq,decide_eq_true_eq];constructor
 ·rintro ⟨⟨c,f,-,-⟩,b,a⟩;refine ⟨k.n.toNat,Qa,?_⟩;obtain ⟨h,l,n⟩:=k;simp only at c f b a;unfold cutK;simp only;rw [b,a,Int.toNat_of_nonneg c]
 ·rintro ⟨m,i,rfl⟩;unfold cutK;simp only [Int.toNat_natCast];exact ⟨⟨Qa,Qa,P3 _ _,P3 _ _⟩,trivial,trivial⟩
def lngI (L:List Rt) (c:Rt->Bool):Nat->Option Nat
 | 0=>none
 | j+1=>
  match lngI L c j with
  | none=>if c (L.getD j ⟨⟨0,0,0⟩,0⟩)=true then some j else none
  | some b=>if c (L.getD j ⟨⟨0,0,0⟩,0⟩)=true/\(L.getD b ⟨⟨0,0,0⟩,0⟩).k.n<(L.getD j ⟨⟨0,0,0⟩,0⟩).k.n then some j else some b
theorem getD_at {L:List Rt} {i:Nat} (h:i<L.length):L.getD i ⟨⟨0,0,0⟩,0⟩=L[i]:=by rw [List.getD_eq_getElem?_getD,Qr h];rfl
def LngOk (L:List Rt) (c:Rt->Bool) (j:Nat):Option Nat->Prop
 | none=>∀i (h:i<L.length),i<j->c L[i]=false
 | some b=>∃a:b<L.length,b<j/\c L[b]=true/\∀i (h:i<L.length),i<j->c L[i]=true->L[i].k.n<=L[b].k.n
theorem Gq (L:List Rt) (c:Rt->Bool):∀j,j<=L.length->LngOk L c j (lngI L c j)
 | 0,_=>λi _ h=>absurd h Qa
 | j+1,u=>by
  have m:=Gq L c j Qa;have p:j<L.length:=Qa;unfold lngI;rw [getD_at p];cases e:lngI L c j with
  | none=>
   rw [e] at m;have m:∀i (h:i<L.length),i<j->c L[i]=false:=m;by_cases f:c L[j]=true
   ·simp only [f,if_true];refine ⟨p,Qa,f,λi hi o d => ?_⟩;by_cases a:i=j
    ·subst a;exact Int.le_refl _
    ·rw [m i hi Qa] at d;cases d
   ·simp only [f];intro i hi o;by_cases a:i=j
    ·subst a;simpa using f
    ·exact m i hi Qa
  | some b=>
   rw [e] at m;obtain ⟨r,s,q,l⟩:=m;simp only [getD_at r];by_cases f:c L[j]=true/\L[b].k.n<L[j].k.n
   ·rw [if_pos f];refine ⟨p,Qa,f.1,λi hi o d => ?_⟩;by_cases a:i=j
    ·subst a;exact Int.le_refl _
    ·have:=l i hi Qa d;omega
   ·rw [if_neg f];refine ⟨r,Qa,q,λi hi o d => ?_⟩;by_cases a:i=j
    ·subst a;by_cases t:L[b].k.n<L[i].k.n
     ·exact absurd ⟨d,t⟩ f
     ·omega
    ·exact l i hi Qa d
def Aw (b a:Nat) (low high:Int) (r:Rt):Bool:=decide (low<r.k.n)&&(decide (r.k.n<=high)&&hasB r.k.h r.k.l r.k.n b a)
def depV (N:List Rt) (b a m:Nat):Option Int:=(N.find? λr=>decide (r.k=cutK b a m)).map Rt.v
def As (D:Nat->Option Int) (low high:Int):Nat->Option Nat
 | 0=>none
 | f+1=>if low<(f:Int)/\(f:Int)<=high/\(D f).isSome=true then some f else As D low high f
theorem Gr {D:Nat->Option Int} {low high:Int}:∀{f:Nat},As D low high f=none↔∀m,m<f->¬(low<(m:Int)/\(m:Int)<=high/\(D m).isSome=true)
 | 0=>⟨λ_ m h=>absurd h Qa,λ_=>rfl⟩
 | f+1=>by
  unfold As;split
  ·rename_i h;exact ⟨λe=>by (cases e),λg=>absurd h (g f Qa)⟩
  ·rename_i h;rw [Gr (f:=f)];refine ⟨λg m a => ?_,λg m a=>g m Qa⟩;by_cases e:m=f
   ·subst e;exact h
   ·exact g m Qa
theorem D5 {D:Nat->Option Int} {low high:Int} {b:Nat}:∀{f:Nat},As D low high f=some b↔b<f/\(low<(b:Int)/\(b:Int)<=high/\(D b).isSome=true)/\∀m,b<m->m<f->¬(low<(m:Int)/\(m:Int)<=high/\(D m).isSome=true)
 | 0=>⟨λe=>by (cases e),λh=>absurd h.1 Qa⟩
 | f+1=>by
  unfold As;split
  ·rename_i h;constructor
   ·intro e;injection e with e;subst e;exact ⟨Qa,h,λm i a=>absurd a Qa⟩
   ·rintro ⟨i,a,c⟩;by_cases e:b=f
    ·rw [e]
    ·exact absurd h (c f Qa Qa)
  ·rename_i h;rw [D5 (f:=f)];constructor
   ·rintro ⟨i,a,c⟩;refine ⟨Qa,a,λm d j => ?_⟩;by_cases e:m=f
    ·subst e;exact h
    ·exact c m d Qa
   ·rintro ⟨i,a,c⟩;have k:b≠f:=λe=>h (e▸a);exact ⟨Qa,a,λm d j=>c m d Qa⟩
theorem Lj {N:List Rt} {b a m:Nat}:(depV N b a m).isSome=true↔∃r∈N,r.k=cutK b a m:=by unfold depV;rw [Option.isSome_map,List.find?_isSome];simp
theorem P4 {N:List Rt} (f:(Aa N).Nodup) {b a m:Nat} {r:Rt} (d:r∈N) (l:r.k=cutK b a m):depV N b a m=some r.v:=by
 unfold depV;cases e:N.find? (λr=>decide (r.k=cutK b a m)) with
 | none=>rw [List.find?_eq_none] at e;exact absurd (decide_eq_true l) (e r d)
 | some q=>
  have n:=List.mem_of_find?_eq_some e;have c:q.k=cutK b a m:=by simpa using List.find?_some e
  obtain ⟨i,hi,rfl⟩:=List.getElem_of_mem d;obtain ⟨j,o,rfl⟩:=List.getElem_of_mem n;have:i=j:=by unfold Aa at f;exact (List.getElem_inj (xs:=N.map Rt.k) (h₀:=by simpa using hi) (h₁:=by simpa using o) f).1 (by simp [l,c])
  subst this;rfl
theorem Lk {N:List Rt} (c a:Nat) (low high:Int) :
 (lngI N (Aw c a low high) N.length=none/\As (depV N c a) low high 129=none) \/
 ∃b,∃t:b<N.length,∃m:Nat,lngI N (Aw c a low high) N.length=some b/\As (depV N c a) low high 129=some m/\N[b].k=cutK c a m:=by
 have f:=Gq N (Aw c a low high) N.length (Qn _);have s:∀r:Rt,Aw c a low high r=true↔low<r.k.n/\r.k.n<=high/\∃m:Nat,m<=128/\r.k=cutK c a m:=λr=>by unfold Aw;simp only [Qq,decide_eq_true_eq,Ei]
 cases e:lngI N (Aw c a low high) N.length with
 | none=>rw [e] at f;have f:∀i (h:i<N.length),i<N.length->Aw c a low high N[i]=false:=f;refine .inl ⟨rfl,Gr.2 λm z h => ?_⟩;obtain ⟨r,p,d⟩:=Lj.1 h.2.2;obtain ⟨i,hi,rfl⟩:=List.getElem_of_mem p;have w:=f i hi hi;have u:=(s N[i]).2 ⟨by rw [d];exact h.1,by rw [d];exact h.2.1,m,Qa,d⟩;rw [w] at u;cases u
 | some b=>
  rw [e] at f;obtain ⟨t,-,q,l⟩:=f;obtain ⟨w,u,m,z,d⟩:=(s N[b]).1 q;have A:N[b].k.n=(m:Int):=by rw [d];rfl
  refine .inr ⟨b,t,m,rfl,D5.2 ⟨Qa,⟨Qa,Qa,Lj.2 ⟨_,Qp t,d⟩⟩,λm' y x h => ?_⟩,d⟩;obtain ⟨r,p,o⟩:=Lj.1 h.2.2;obtain ⟨i,hi,rfl⟩:=List.getElem_of_mem p;have j:N[i].k.n=(m':Int):=by rw [o];rfl
  have:=l i hi hi ((s N[i]).2 ⟨by rw [j];exact h.1,by rw [j];exact h.2.1,m',Qa,o⟩);omega
theorem P5 {k:Ky} {r:Rt}:hasK k (some r)=true↔r.k=k:=by simp [hasK]
theorem Iv {C:List Pl} {k:Ky} (h:C.findIdx? (hasK k)=none):∀r,some r∈C->r.k≠k:=by intro r a e;have:=(List.findIdx?_eq_none_iff.1 h) _ a;rw [P5.2 e] at this;cases this
theorem P6 {C:List Pl} {k:Ky} (h:getC C k=none):C.findIdx? (hasK k)=none:=by
 rcases C8 (hasK k) C with ⟨i,hi,a,-,b⟩ | ⟨a,-⟩
 ·rw [Ld hi a b] at h;cases h
 ·exact a
theorem Ll {C:List Pl} {k:Ky} {i:Nat} (hi:i<C.length) (h:hasK k C[i]=true):∃q,C[i]=some q/\q.k=k:=by
 cases e:C[i] with
 | none=>rw [e] at h;cases h
 | some q=>exact ⟨q,rfl,P5.1 (e▸h)⟩
theorem Gs {C:List Pl} {k:Ky} (h:(getC C k).isSome=true):∃i,∃hi:i<C.length,C.findIdx? (hasK k)=some i/\∃q,C[i]=some q/\q.k=k/\getC C k=some q.v:=by
 rcases C8 (hasK k) C with ⟨i,hi,a,-,b⟩ | ⟨a,-⟩
 ·obtain ⟨q,e,c⟩:=Ll hi b;exact ⟨i,hi,a,q,e,c,by rw [Ld hi a b,e];rfl⟩
 ·rw [Po a] at h;cases h
theorem P7 {C:List Pl} {k:Ky} {v:Int} {i:Nat} (h:C.findIdx? (hasK k)=some i):putC C k v=some (C.set i (some ⟨k,v⟩)):=by unfold putC;rw [h]
theorem Zxy {C b:List Pl} {k:Ky} {v:Int} (c:C.findIdx? (hasK k)=none) (h:putC C k v=some b):∃j,∃e:j<C.length,b=C.set j (some ⟨k,v⟩)/\C[j]=none:=by
 unfold putC at h;rw [c] at h;rcases C8 Option.isNone C with ⟨i,hi,a,-,d⟩ | ⟨a,-⟩
 ·simp only [a,Option.some.injEq] at h;exact ⟨i,hi,h.symm,by simpa using d⟩
 ·simp only [a] at h;cases h
theorem P8 {C:List Pl} {k:Ky} {v:Int} (h:putC C k v=none):C.findIdx? (hasK k)=none/\∀x∈C,x.isSome=true:=by
 unfold putC at h;rcases C8 (hasK k) C with ⟨i,hi,a,-,d⟩ | ⟨a,-⟩
 ·simp only [a] at h;cases h
 ·refine ⟨a,?_⟩;simp only [a] at h;rcases C8 Option.isNone C with ⟨i,hi,b,-,d⟩ | ⟨b,-⟩
  ·simp only [b] at h;cases h
  ·intro x c;have:=(List.findIdx?_eq_none_iff.1 b) x c;cases x with
   | none=>cases this
   | some r=>rfl
theorem Ra (C:List Pl) (k:Ky):(takeC C k=none/\C.findIdx? (hasK k)=none)\/∃j,∃d:j<C.length,∃q,takeC C k=some (C.set j none)/\C[j]=some q/\q.k=k:=by
 unfold takeC;rcases C8 (hasK k) C with ⟨i,hi,a,-,c⟩ | ⟨a,-⟩
 ·obtain ⟨q,e,b⟩:=Ll hi c;exact .inr ⟨i,hi,q,by rw [a],e,b⟩
 ·exact .inl ⟨by rw [a],a⟩
theorem Zup {C:List Pl} {i:Nat} (hi:i<C.length) (a:∀x∈C,x.isSome=true) (k:Ky) (v:Int):∃q,C[i]=some q/\Bo C (i:Int) k v=some (q,C.set i (some ⟨k,v⟩)):=by obtain ⟨q,e⟩:=Option.isSome_iff_exists.1 (a _ (Qp hi));refine ⟨q,e,?_⟩;unfold Bo;rw [if_pos Qa,Int.toNat_natCast,List.getD_eq_getElem?_getD,Qr hi,e];rfl
structure Inv (T:Tab):Prop where
 lo:1<=T.B.length
 hi:T.B.length<=65536
 four:∀i,i<T.B.length->(T.bk i).length=4
 word:W64 T.s
 good:∀r∈Ab T,r.k.good
 home:∀i,i<T.B.length->∀r,some r∈T.bk i->i=T.x1 r.k\/i=T.x2 r.k
 keys:(Aa (Ab T)).Nodup
 sort:Sorted T.st
theorem Inv.x1_lt {T:Tab} (H:Inv T) (k:Ky):T.x1 k<T.B.length:=P0 H.lo
theorem Inv.x2_lt {T:Tab} (H:Inv T) (k:Ky):T.x2 k<T.B.length:=P1 H.lo
theorem Gt (T:Tab) (i:Nat) (hi:i<T.B.length) (C:List Pl) (k:Nat):(T.set i C).bk k=if k=i then C else T.bk k:=by
 unfold Tab.bk Tab.set;simp only [List.getD_eq_getElem?_getD,List.getElem?_set];by_cases e:i=k
 ·subst e;rw [if_pos rfl,if_pos hi,if_pos rfl];rfl
 ·rw [if_neg e,if_neg (λx=>e x.symm)]
theorem Cn (T:Tab) (i:Nat) (C:List Pl):(T.set i C).B.length=T.B.length:=List.length_set
theorem Z7t (T:Tab) (i:Nat) (C:List Pl) (k:Ky):(T.set i C).x1 k=T.x1 k:=by unfold Tab.x1;rw [Cn];rfl
theorem Z7s (T:Tab) (i:Nat) (C:List Pl) (k:Ky):(T.set i C).x2 k=T.x2 k:=by unfold Tab.x2;rw [Cn];rfl
theorem Ej {T:Tab} {i:Nat} (hi:i<T.B.length) {r:Rt} (h:some r∈T.bk i):r∈Ab T:=by unfold Ab;rw [E3 T i hi] at h;refine List.mem_append_left _ (List.mem_flatMap.2 ⟨T.B[i],Qp hi,?_⟩);unfold allC;exact List.mem_filterMap.2 ⟨some r,h,rfl⟩
theorem Z2h {T:Tab} {r:Rt} (h:r∈Ab T):(∃i,i<T.B.length/\some r∈T.bk i)\/r∈T.st:=by
 unfold Ab at h;rw [List.mem_append,List.mem_flatMap] at h;rcases h with ⟨C,b,h⟩ | h
 ·obtain ⟨i,hi,rfl⟩:=List.getElem_of_mem b;unfold allC at h;rw [List.mem_filterMap] at h;obtain ⟨x,a,e⟩:=h;simp only [id] at e;subst e;exact .inl ⟨i,hi,by rw [E3 T i hi];exact a⟩
 ·exact .inr h
theorem Inv.place {T:Tab} (H:Inv T) {i:Nat} (hi:i<T.B.length) {j:Nat} (l:j<(T.bk i).length) {x:Pl} (d:∀r,x=some r->r.k.good/\(i=T.x1 r.k\/i=T.x2 r.k))
 (f:(Aa (Ab (T.set i ((T.bk i).set j x)))).Nodup):Inv (T.set i ((T.bk i).set j x)):=by
 refine ⟨by rw [Cn];exact H.lo,by rw [Cn];exact H.hi,λk a => ?_,H.word,λr b => ?_,λk a r b => ?_,f,H.sort⟩
 ·rw [Cn] at a;rw [Gt T i hi];split
  ·rw [List.length_set];exact H.four i hi
  ·exact H.four k a
 ·have c:=(Gp T i hi j l x).mem_iff.1 (List.mem_append_right _ b);rw [List.mem_append] at c;rcases c with c | c
  ·exact (d r (by simpa using c)).1
  ·exact H.good r c
 ·rw [Cn] at a;rw [Z7t,Z7s];rw [Gt T i hi] at b;split at b
  ·rename_i e;rcases List.mem_or_eq_of_mem_set b with h | h
   ·exact e▸H.home i hi r h
   ·exact e▸(d r h.symm).2
  ·exact H.home k a r b
theorem Z0k {T:Tab} (H:Inv T) {i:Nat} (hi:i<T.B.length) {j:Nat} (f:j<(T.bk i).length) {q r:Rt} (l:(T.bk i)[j]=some q) (h:q.k=r.k) :
 (Aa (Ab (T.set i ((T.bk i).set j (some r))))).Nodup/\(Ab (T.set i ((T.bk i).set j (some r)))).Perm (r::outS (Ab T) r.k):=by
 have a:=Gp T i hi j f (some r);rw [l] at a;have e:=Cy a;have b:(Aa (Ab (T.set i ((T.bk i).set j (some r))))).Perm (Aa (Ab T)):=by
  unfold Aa at *
  simp only [Option.toList_some,List.singleton_append,List.map_cons,h] at e;exact (List.perm_cons _).1 e
 have d:=b.nodup_iff.2 H.keys;refine ⟨d,?_⟩;have m:r∈Ab (T.set i ((T.bk i).set j (some r))):=by refine Ej (i:=i) (by rw [Cn];exact hi) ?_;rw [Gt T i hi,if_pos rfl];exact List.mem_set f _
 have c:=It a r.k;have o:outS ((some q).toList++Ab (T.set i ((T.bk i).set j (some r)))) r.k=outS (Ab (T.set i ((T.bk i).set j (some r)))) r.k:=by simp [outS,h]
 have n:outS ((some r).toList++Ab T) r.k=outS (Ab T) r.k:=by simp [outS]
 rw [o,n] at c;exact (E4 d m).trans (c.cons r)
theorem Z0l {T:Tab} (H:Inv T) {i:Nat} (hi:i<T.B.length) {j:Nat} (c:j<(T.bk i).length) {r:Rt} (b:(T.bk i)[j]=none) (d:r.k∉Aa (Ab T)) :
 (Aa (Ab (T.set i ((T.bk i).set j (some r))))).Nodup/\(Ab (T.set i ((T.bk i).set j (some r)))).Perm (r::Ab T):=by
 have a:=Gp T i hi j c (some r);rw [b] at a;simp only [Option.toList_none,List.nil_append,Option.toList_some,List.singleton_append] at a;refine ⟨(Cy a).nodup_iff.2 ?_,a⟩;unfold Aa at *
 rw [List.map_cons,List.nodup_cons];exact ⟨d,H.keys⟩
theorem Z0m {T:Tab} (H:Inv T) {i:Nat} (hi:i<T.B.length) {j:Nat} (e:j<(T.bk i).length) {q:Rt} (d:(T.bk i)[j]=some q) :
 (Aa (Ab (T.set i ((T.bk i).set j none)))).Nodup/\(Ab (T.set i ((T.bk i).set j none))).Perm (outS (Ab T) q.k):=by
 have a:=Gp T i hi j e none;rw [d] at a;simp only [Option.toList_none,List.nil_append,Option.toList_some,List.singleton_append] at a;have b:=(Cy a).nodup_iff.2 H.keys;unfold Aa at b;rw [List.map_cons,List.nodup_cons] at b;refine ⟨b.2,?_⟩;have c:=It a q.k;have f:outS (q::Ab (T.set i ((T.bk i).set j none))) q.k=Ab (T.set i ((T.bk i).set j none)):=by rw [show outS (q::Ab (T.set i ((T.bk i).set j none))) q.k=outS (Ab (T.set i ((T.bk i).set j none))) q.k by simp [outS]];exact Cz b.1
 rw [f] at c;exact c
theorem Z0j {T:Tab} (H:Inv T) {i:Nat} (hi:i<T.B.length) {j:Nat} (d:j<(T.bk i).length) {q r:Rt} (c:(T.bk i)[j]=some q) (e:r.k∉Aa (Ab T)) :
 (Aa (Ab (T.set i ((T.bk i).set j (some r))))).Nodup/\(q::Ab (T.set i ((T.bk i).set j (some r)))).Perm (r::Ab T)/\q.k∉Aa (Ab (T.set i ((T.bk i).set j (some r)))):=by
 have a:=Gp T i hi j d (some r);rw [c] at a;simp only [Option.toList_some,List.singleton_append] at a;have b:(Aa (q::Ab (T.set i ((T.bk i).set j (some r))))).Nodup:=by
  refine (Cy a).nodup_iff.2 ?_;unfold Aa at *
  rw [List.map_cons,List.nodup_cons];exact ⟨e,H.keys⟩
 unfold Aa at *
 rw [List.map_cons,List.nodup_cons] at b;exact ⟨b.2,a,b.1⟩
theorem Lm {T:Tab} (H:Inv T) {i:Nat} (hi:i<T.B.length) {j:Nat} (b:j<(T.bk i).length) {r:Rt} (d:r.k.good) (c:i=T.x1 r.k\/i=T.x2 r.k) (a:(Aa (Ab (T.set i ((T.bk i).set j (some r))))).Nodup):Inv (T.set i ((T.bk i).set j (some r))):=
 H.place hi b (λq e=>by injection e with e;subst e;exact ⟨d,c⟩) a
structure Like (T T':Tab):Prop where
 s:T'.s=T.s
 n:T'.B.length=T.B.length
theorem Like.refl (T:Tab):Like T T:=⟨rfl,rfl⟩
theorem Like.trans {a b c:Tab} (h:Like a b) (k:Like b c):Like a c:=⟨k.s.trans h.s,k.n.trans h.n⟩
theorem Like.set (T:Tab) (i:Nat) (C:List Pl):Like T (T.set i C):=⟨rfl,Cn T i C⟩
theorem Like.x1 {T a:Tab} (h:Like T a) (k:Ky):a.x1 k=T.x1 k:=by unfold Tab.x1;rw [h.s,h.n]
theorem Like.x2 {T a:Tab} (h:Like T a) (k:Ky):a.x2 k=T.x2 k:=by unfold Tab.x2;rw [h.s,h.n]
theorem Ln (T:Tab) (k:Ky) (b:Nat):T.other k b=T.x1 k\/T.other k b=T.x2 k:=by
 unfold Tab.other;split
 ·exact .inr rfl
 ·exact .inl rfl
theorem Inv.other_lt {T:Tab} (H:Inv T) (k:Ky) (b:Nat):T.other k b<T.B.length:=by
 rcases Ln T k b with h | h<;>rw [h]
 ·exact H.x1_lt k
 ·exact H.x2_lt k
structure Gu (T:Tab) (r:Rt) (p:Tab×Option Rt):Prop where
 inv:Inv p.1
 like:Like T p.1
 st:p.1.st=T.st
 all:(p.2.toList++Ab p.1).Perm (r::Ab T)
theorem Zv1 {T:Tab} (H:Inv T) {r:Rt} (a:r.k∉Aa (Ab T)):(Aa (r::Ab T)).Nodup:=by
 unfold Aa at *
 rw [List.map_cons,List.nodup_cons];exact ⟨a,H.keys⟩
theorem Gu.left {T:Tab} (H:Inv T) {r q:Rt} {p:Tab×Option Rt} (h:Gu T r p) (c:r.k.good) (d:r.k∉Aa (Ab T)) (b:p.2=some q):q.k.good/\q.k∉Aa (Ab p.1)/\(q::Ab p.1).Perm (r::Ab T):=by
 have ha:=h.all;rw [b] at ha;have ha:(q::Ab p.1).Perm (r::Ab T):=ha;refine ⟨?_,?_,ha⟩
 ·have:=ha.mem_iff.1 (List.mem_cons_self ..);rw [List.mem_cons] at this;rcases this with rfl | e
  ·exact c
  ·exact H.good q e
 ·have a:=(Cy ha).nodup_iff.2 (Zv1 H d);unfold Aa at a ⊢;rw [List.map_cons,List.nodup_cons] at a;exact a.1
theorem Lo {T:Tab} (H:Inv T) {b:Nat} (a:b<T.B.length) {r:Rt} (o:r.k.good) (d:r.k∉Aa (Ab T)) (n:b=T.x1 r.k\/b=T.x2 r.k) {C:List Pl} (h:putC (T.bk b) r.k r.v=some C):Gu T r (T.set b C,none):=by
 have m:(T.bk b).findIdx? (hasK r.k)=none:=by
  rcases C8 (hasK r.k) (T.bk b) with ⟨i,hi,-,-,p⟩ | ⟨s,-⟩
  ·obtain ⟨q,e,f⟩:=Ll hi p;exact absurd (f▸Db (Ej a (e▸Qp hi))) d
  ·exact s
 obtain ⟨j,c,rfl,l⟩:=Zxy m h;have:=Z0l H a c l d;exact ⟨Lm H a c o n this.1,Like.set _ _ _,rfl,this.2⟩
theorem Rb:∀(f i:Nat) (T:Tab) (b:Nat) (r:Rt),Inv T->b<T.B.length->r.k.good->r.k∉Aa (Ab T)->(b=T.x1 r.k\/b=T.x2 r.k)->putC (T.bk b) r.k r.v=none->Gu T r (Ba f i T b r)
 | 0,_,T,_,r,H,_,_,_,_,_=>⟨H,Like.refl T,rfl,List.Perm.refl _⟩
 | f+1,i,T,b,r,H,j,z,A,y,x=>by
  have u:=H.four b j;obtain ⟨q,p,o⟩:=Zup (i:=i%4) (by rw [u];exact Nat.mod_lt _ Qd) (P8 x).2 r.k r.v;have s:kOut T b i r=q:=by unfold kOut;rw [o];rfl
  have m:kTab T b i r=T.set b ((T.bk b).set (i%4) (some r)):=by unfold kTab;rw [o];rfl
  have n:i%4<(T.bk b).length:=by rw [u];exact Nat.mod_lt _ Qd
  obtain ⟨w,c2,c3⟩:=Z0j H j n p A;have l:=Lm H j n z y w;rw [<-m] at l w c2 c3;have t:Like T (kTab T b i r):=by rw [m];exact Like.set _ _ _
  have a:(kTab T b i r).st=T.st:=by rw [m];rfl
  have c:q.k.good:=H.good q (Ej j (p▸Qp n));have h:=l.other_lt q.k b;have d:=Ln (kTab T b i r) q.k b;have D:kNew T b i r=(kTab T b i r).other q.k b:=by unfold kNew;rw [s]
  unfold Ba;rw [s,D];cases e:putC ((kTab T b i r).bk ((kTab T b i r).other q.k b)) q.k q.v with
  | some C=>have:=Lo l h c c3 d e;exact ⟨this.inv,t.trans this.like,a▸this.st,this.all.trans c2⟩
  | none=>have:=Rb f (i+1) (kTab T b i r) ((kTab T b i r).other q.k b) q l h c c3 d e;exact ⟨this.inv,t.trans this.like,a▸this.st,this.all.trans c2⟩
theorem Iw {l:List Rt} {k:Ky} (h:(Al l k).isSome=false):k∉Aa l:=by
 intro a;unfold Aa at a;rw [List.mem_map] at a;obtain ⟨q,b,rfl⟩:=a;cases e:Al l q.k with
 | none=>unfold Al at e;have:=(List.findIdx?_eq_none_iff.1 e) q b;simp at this
 | some i=>rw [e] at h;cases h
theorem Ix {l:List Rt} {k:Ky} (h:(Al l k).isSome=true):k∈Aa l:=by obtain ⟨i,e⟩:=Option.isSome_iff_exists.1 h;unfold Al at e;obtain ⟨hi,a,-⟩:=List.findIdx?_eq_some_iff_getElem.1 e;rw [decide_eq_true_eq] at a;exact a▸Db (Qp hi)
theorem Lp {T:Tab} (H:Inv T) {k:Ky} (j:(getC (T.bk (T.x1 k)) k).isSome=false) (h:(getC (T.bk (T.x2 k)) k).isSome=false) (f:(Al T.st k).isSome=false):k∉Aa (Ab T):=by
 intro a;unfold Aa at a;rw [List.mem_map] at a;obtain ⟨q,d,rfl⟩:=a;rcases Z2h d with ⟨i,hi,b⟩ | c
 ·have m:getC (T.bk (T.x1 q.k)) q.k=none:=by simpa using j
  have l:getC (T.bk (T.x2 q.k)) q.k=none:=by simpa using h
  rcases H.home i hi q b with e | e
  ·exact Iv (P6 m) q (e▸b) rfl
  ·exact Iv (P6 l) q (e▸b) rfl
 ·exact Iw f (Db c)
theorem Rc {T:Tab} (H:Inv T) {q:Rt} (f:q.k.good) (i:q.k∉Aa (T.B.flatMap allC)):Inv { T with st:=Ak T.st q }/\(Ab { T with st:=Ak T.st q }).Perm (q::outS (Ab T) q.k):=by
 have d:=Cl q H.sort;have b:(Ab { T with st:=Ak T.st q }).Perm (q::outS (Ab T) q.k):=by
  unfold Ab;have:outS (T.B.flatMap allC++T.st) q.k=T.B.flatMap allC++outS T.st q.k:=by unfold outS;rw [List.filter_append];exact congrArg (· ++ _) (Cz i)
  rw [this];exact (d.append_left _).trans List.perm_middle
 refine ⟨⟨H.lo,H.hi,H.four,H.word,λr a => ?_,H.home,?_,Cb q H.sort⟩,b⟩
 ·have:=b.mem_iff.1 a;rw [List.mem_cons] at this;rcases this with rfl | h
  ·exact f
  ·exact H.good r (A6.1 h).1
 ·refine (Cy b).nodup_iff.2 ?_;unfold Aa;rw [List.map_cons,List.nodup_cons];refine ⟨λc => ?_,?_⟩
  ·rw [List.mem_map] at c;obtain ⟨r,a,e⟩:=c;exact (A6.1 a).2 e
  ·exact (H.keys.sublist (List.Sublist.map Rt.k List.filter_sublist))
theorem Z3g {T:Tab} (H:Inv T) {k:Ky} (h:k∈Aa T.st):k∉Aa (T.B.flatMap allC):=by intro a;have:=H.keys;unfold Ab Aa at this;rw [List.map_append,List.nodup_append] at this;exact this.2.2 k a k h rfl
theorem Z3f {T:Tab} {k:Ky} (h:k∉Aa (Ab T)):k∉Aa (T.B.flatMap allC):=by
 intro a;refine h ?_;unfold Ab Aa at *
 rw [List.map_append];exact List.mem_append_left _ a
theorem Zze {l:List Rt} {q:Rt} (h:Sorted l) (a:q.k∈Aa l):(Ak l q).length=l.length:=by have d:=(Cl q h).length_eq;unfold Aa at a;rw [List.mem_map] at a;obtain ⟨r,c,e⟩:=a;have b:=(E4 h.nodup c).length_eq;rw [e] at b;simp only [Qt] at d b;omega
theorem Zvv {l:List Rt} {q:Rt} (h:Sorted l) (b:q.k∉Aa l):(Ak l q).length=l.length+1:=by have a:=(Cl q h).length_eq;rw [Cz b] at a;simpa using a
structure Lq (T:Tab) (r:Rt) (p:Tab×Option Rt):Prop where
 inv:Inv p.1
 like:Like T p.1
 st:p.1.st.length=T.st.length
 all:(p.2.toList++Ab p.1).Perm (r::outS (Ab T) r.k)
 left:∀q,p.2=some q->q.k.good/\q.k∉Aa (Ab p.1)/\r.k∉Aa (Ab T)/\(∀x∈T.bk (T.x1 r.k),x.isSome=true)
theorem Re {T:Tab} (H:Inv T) (r:Rt) (e:r.k.good):Lq T r (Cx T r):=by
 have i:=H.x1_lt r.k;have d:=H.x2_lt r.k;have same:∀b,b<T.B.length->(b=T.x1 r.k\/b=T.x2 r.k)->(getC (T.bk b) r.k).isSome=true->Lq T r (T.set b ((putC (T.bk b) r.k r.v).getD (T.bk b)),none):=by intro b c z h;obtain ⟨j,o,hi,q,a,n,-⟩:=Gs h;rw [P7 hi];have:=Z0k H c o a n;exact ⟨Lm H c o e z this.1,Like.set _ _ _,rfl,this.2,λq a=>by cases a⟩
 unfold Cx;split
 ·rename_i h;exact same _ i (.inl rfl) h
 ·rename_i t;split
  ·rename_i h;exact same _ d (.inr rfl) h
  ·rename_i s;split
   ·rename_i m;have:=Rc H e (Z3g H (Ix m));exact ⟨this.1,⟨rfl,rfl⟩,Zze H.sort (Ix m),this.2,λq a=>by cases a⟩
   ·rename_i m;rw [Bool.not_eq_true] at t s m;have f:=Lp H t s m;have y:=Cz f;have conv:∀p:Tab×Option Rt,Gu T r p->(p.2=none\/∀x∈T.bk (T.x1 r.k),x.isSome=true)->Lq T r p:=λp c l=>
     ⟨c.inv,c.like,by rw [c.st],by rw [y];exact c.all,λq a=>⟨(c.left H e f a).1,(c.left H e f a).2.1,f,by
      rcases l with l | l
      ·rw [l] at a;cases a
      ·exact l⟩⟩
    cases w:putC (T.bk (T.x1 r.k)) r.k r.v with
    | some C=>exact conv _ (Lo H i e f (.inl rfl) w) (.inl rfl)
    | none=>
     simp only;cases u:putC (T.bk (T.x2 r.k)) r.k r.v with
     | some C=>exact conv _ (Lo H d e f (.inr rfl) u) (.inl rfl)
     | none=>exact conv _ (Rb 16 0 T (T.x2 r.k) r H d e f (.inr rfl) u) (.inr (P8 w).2)
structure Z8z (T:Tab) (r:Rt) (p:Tab×Bool):Prop where
 inv:Inv p.1
 like:Like T p.1
 all:(Ab p.1).Perm (r::outS (Ab T) r.k)
 no:p.2=false->p.1.st.length=T.st.length
 yes:p.2=true->p.1.st.length=T.st.length+1/\r.k∉Aa (Ab T)/\(∀x∈T.bk (T.x1 r.k),x.isSome=true)
theorem Fv {T:Tab} (H:Inv T) (r:Rt) (j:r.k.good):Z8z T r (stay T r):=by
 have h:=Re H r j;unfold stay;cases e:(Cx T r).2 with
 | none=>have ha:=h.all;rw [e] at ha;exact ⟨h.inv,h.like,ha,λ_=>h.st,λx=>by cases x⟩
 | some q=>
  have ha:=h.all;rw [e] at ha;obtain ⟨f,a,d,c⟩:=h.left q e;have b:=Rc h.inv f (Z3f a);rw [Cz a] at b;refine ⟨b.1,⟨h.like.s,h.like.n⟩,b.2.trans ha,λx=>(by simp at x),λ_=>⟨?_,d,c⟩⟩;have:q.k∉Aa (Cx T r).1.st:=by
   intro i;refine a ?_;unfold Ab Aa at *
   rw [List.map_append];exact List.mem_append_right _ i
  show (Ak (Cx T r).1.st q).length=_;rw [Zvv h.inv.sort this,h.st]
theorem Lr (s n i:Nat) (h:i<n):(A2 s n).bk i=[none,none,none,none]:=by rw [E3 _ i (by simpa [A2] using h)];simp [A2]
theorem Ek (s n:Nat):Ab (A2 s n)=[]:=by unfold Ab A2;rw [List.append_nil];refine List.flatMap_eq_nil_iff.2 λC a => ?_;rw [List.eq_of_mem_replicate a];rfl
theorem Ls {s n:Nat} (b:W64 s) (e:1<=n) (d:n<=65536):Inv (A2 s n):=by
 have c:(A2 s n).B.length=n:=by simp [A2]
 refine ⟨Qa,Qa,λi hi=>by rw [Lr s n i Qa];rfl,b,λr a => ?_,λi hi r a => ?_,?_,List.Pairwise.nil⟩
 ·rw [Ek] at a;cases a
 ·rw [Lr s n i Qa] at a;simp at a
 ·rw [Ek];exact List.nodup_nil
structure Gv (T:Tab) (r:Rt) (T':Tab):Prop where
 inv:Inv T'
 all:(Ab T').Perm (r::outS (Ab T) r.k)
 len:T.B.length<=T'.B.length
theorem Lt {f:Tab->Rt->Tab} (i:∀T r,Inv T->r.k.good->Gv T r (f T r)):∀(l:List Rt) (T:Tab),Inv T->(∀r∈l,r.k.good)->(Aa (l++Ab T)).Nodup->Inv (l.foldl f T)/\(Ab (l.foldl f T)).Perm (l++Ab T)/\T.B.length<=(l.foldl f T).B.length
 | [],T,H,_,_=>⟨H,List.Perm.refl _,Qn _⟩
 | a::l,T,H,e,d=>by
  have h:=i T a H (e a Qf);have n:a.k∉Aa (Ab T):=by
   unfold Aa at *
   rw [List.cons_append,List.map_cons,List.nodup_cons] at d;exact λm=>d.1 (by rw [List.map_append];exact List.mem_append_right _ m)
  have ha:=h.all;rw [Cz n] at ha;have b:(l++Ab (f T a)).Perm (a::l++Ab T):=(ha.append_left l).trans List.perm_middle;have c:=Lt i l (f T a) h.inv (λr j=>e r (by simp [j])) ((Cy b).nodup_iff.2 d);exact ⟨c.1,c.2.1.trans b,Qw h.len c.2.2⟩
theorem Rf {T:Tab} (H:Inv T) (r:Rt) (a:r.k.good):Gv T r (stay T r).1:=by have h:=Fv H r a;exact ⟨h.inv,h.all,by rw [h.like.n];exact Qn _⟩
theorem Lu {T:Tab} (H:Inv T):Inv (grown T)/\(grown T).B.length=min (2*T.B.length) 65536:=by have:=H.lo;have:=H.hi;refine ⟨Ls (Ca _) Qa Qa,?_⟩;simp [grown,A2]
theorem Lw:∀(d:Nat) (T:Tab) (r:Rt),Inv T->r.k.good->Gv T r (putF d T r)
 | 0,T,r,H,a=>Rf H r a
 | d+1,T,r,H,a=>by
  have h:=Fv H r a;unfold putF;split
  ·have c:=Lu h.inv;have b:Ab (grown (stay T r).1)=[]:=Ek _ _;have:=Lt (f:=putF d) (λT r H a=>Lw d T r H a) (Ab (stay T r).1) (grown (stay T r).1) c.1 (λq e=>h.inv.good q e) (by rw [b,List.append_nil];exact h.inv.keys);rw [b,List.append_nil] at this;refine ⟨this.1,this.2.1.trans h.all,?_⟩;have i:=this.2.2;rw [c.2] at i;have l:=h.like.n;have j:=H.hi;omega
  ·exact Rf H r a
end
section
namespace M
def dg (b:Nat):List Nat->Nat
 | []=>0
 | a::l=>2^b*dg b l+a
theorem Rh {b:Nat}:∀{l:List Nat},(∀a∈l,a<2^b)->dg b l<2^(b*l.length)
 | [],_=>by simp [dg]
 | a::l,h=>by have e:=h a Qf;have d:=Rh (b:=b) (l:=l) (λx c=>h x (by simp [c]));rw [Qt,Nat.mul_add,Nat.mul_one,Nat.pow_add];show 2^b*dg b l+a<_;have:2^b*(dg b l+1)<=2^b*2^(b*l.length):=Nat.mul_le_mul_left _ d;rw [Nat.mul_add,Nat.mul_one] at this;rw [Nat.mul_comm (2^(b*l.length))];omega
theorem Ri {b:Nat}:∀{l:List Nat} (k:Nat) (d:k<l.length),(∀a∈l,a<2^b)->dg b l/2^(b*k)%2^b=l[k]
 | a::l,0,_,h=>by have c:=h a Qf;simp only [Nat.mul_zero,Nat.pow_zero,Nat.div_one,List.getElem_cons_zero];show (2^b*dg b l+a)%2^b=a;rw [Nat.mul_add_mod,Nat.mod_eq_of_lt c]
 | a::l,k+1,d,h=>by have c:=h a Qf;have f:=Ri (b:=b) (l:=l) k (by simpa using d) (λx e=>h x (by simp [e]));rw [Nat.mul_add,Nat.mul_one,Nat.add_comm (b*k),Nat.pow_add,<-Nat.div_div_eq_div_mul];show (2^b*dg b l+a)/2^b/_%_=_;rw [Nat.mul_add_div (Nat.two_pow_pos b),Nat.div_eq_of_lt c,Nat.add_zero,f];simp
theorem Rj {b:Nat}:∀{l:List Nat} (k v:Nat) (c:k<l.length),dg b (l.set k v)+l[k]*2^(b*k)=dg b l+v*2^(b*k)
 | a::l,0,v,_=>by show 2^b*dg b l+v+a*_=2^b*dg b l+a+v*_;simp;omega
 | a::l,k+1,v,c=>by
  have e:=Rj (b:=b) (l:=l) k v (by simpa using c);show 2^b*dg b (l.set k v)+a+(a::l)[k+1]*_=2^b*dg b l+a+v*_;rw [List.getElem_cons_succ,Nat.mul_add,Nat.mul_one,Nat.add_comm (b*k),Nat.pow_add];have:2^b*(dg b (l.set k v)+l[k]'(by simpa using c)*2^(b*k))=2^b*(dg b l+v*2^(b*k)):=by rw [e]
  rw [Nat.mul_add,Nat.mul_add] at this;have d:∀x:Nat,x*(2^b*2^(b*k))=2^b*(x*2^(b*k)):=λx=>by rw [Nat.mul_left_comm]
  rw [d,d];omega
def popN:Nat->Nat->Nat
 | 0,_=>0
 | k+1,x=>x%2+popN k (x/2)
def by1 (a:Nat):Nat:=(a/2 &&& 85)+(a &&& 85)
def by2 (a:Nat):Nat:=(a/4 &&& 51)+(a &&& 51)
def by3 (a:Nat):Nat:=a/16+a%16
theorem t1:∀(a:Fin 256) (c:Fin 2),(128*c.val+a.val/2) &&& 85=a.val/2 &&& 85/\by1 a.val<256:=by decide +kernel
theorem t2:∀(a:Fin 256) (c:Fin 4),(64*c.val+a.val/4) &&& 51=a.val/4 &&& 51/\by2 a.val<256:=by decide +kernel
theorem t3:∀a:Fin 256,by2 (by1 a.val)/16<=4/\by2 (by1 a.val)%16<=4/\by3 (by2 (by1 a.val))=popN 8 a.val:=by decide +kernel
theorem and15 (a:Nat):a &&& 15=a%16:=Nat.and_two_pow_sub_one_eq_mod a 4
end M
namespace M
def nibL (C:List Nat) (j:Nat):List Nat:=(List.range 16).map λi=>C.getD (16*j+i) 0
def Bt (C:List Nat) (j:Nat):Nat:=dg 4 (nibL C j)
def Dk (C:List Nat):List Nat:=(List.range ((C.length+15)/16)).map (Bt C)
theorem Gw (C:List Nat) (j:Nat):(nibL C j).length=16:=by simp [nibL]
theorem Gx (C:List Nat) (j i:Nat) (h:i<(nibL C j).length):(nibL C j)[i]=C.getD (16*j+i) 0:=by simp [nibL]
theorem getD_lt {C:List Nat} (h:∀c∈C,c<=15) (i:Nat):C.getD i 0<16:=by
 rw [List.getD_eq_getElem?_getD];by_cases hi:i<C.length
 ·rw [Qr hi];have:=h C[i] (Qp hi);show C[i]<16;omega
 ·rw [List.getElem?_eq_none Qa];decide
theorem Rk {C:List Nat} (h:∀c∈C,c<=15) (j:Nat):∀a∈nibL C j,a<2^4:=by intro a ha;unfold nibL at ha;rw [List.mem_map] at ha;obtain ⟨i,-,rfl⟩:=ha;exact getD_lt h _
theorem Iy {C:List Nat} (h:∀c∈C,c<=15) (j:Nat):Bt C j<18446744073709551616:=by
 have:=Rh (Rk h j)
 rwa [Gw] at this
theorem Z07 {C:List Nat} (h:∀c∈C,c<=15) (k:Nat):Bt C (k/16)/2^(4*(k%16))%16=C.getD k 0:=by
 have a:k%16<(nibL C (k/16)).length:=by rw [Gw];omega
 have:=Ri (k%16) a (Rk h (k/16));rw [Gx,show 16*(k/16)+k%16=k by omega] at this;exact this
theorem Rl {C:List Nat} {k v i:Nat} (a:k<C.length):(C.set k v).getD i 0=if i=k then v else C.getD i 0:=by
 rw [List.getD_eq_getElem?_getD,List.getElem?_set,List.getD_eq_getElem?_getD];split
 ·rename_i h;subst h;simp [a]
 ·rename_i h;rw [if_neg (λe=>h e.symm)]
theorem Z2a (C:List Nat) (k v:Nat) (a:k<C.length):nibL (C.set k v) (k/16)=(nibL C (k/16)).set (k%16) v:=by
 apply List.ext_getElem
 ·rw [List.length_set,Gw,Gw]
 ·intro i c b;rw [Gx,Rl a,List.getElem_set];have:(16*(k/16)+i=k)↔(k%16=i):=Qa;by_cases e:k%16=i
  ·rw [if_pos (this.2 e),if_pos e]
  ·rw [if_neg (λx=>e (this.1 x)),if_neg e,Gx]
theorem Z2b (C:List Nat) (k v j:Nat) (a:k<C.length) (b:j≠k/16):nibL (C.set k v) j=nibL C j:=by unfold nibL;apply List.map_congr_left;intro i hi;rw [List.mem_range] at hi;rw [Rl a,if_neg Qa]
theorem Rm (C:List Nat) (k v:Nat) (a:k<C.length):Bt (C.set k v) (k/16)+C[k]*2^(4*(k%16))=Bt C (k/16)+v*2^(4*(k%16)):=by
 unfold Bt;rw [Z2a C k v a];have c:k%16<(nibL C (k/16)).length:=by rw [Gw];omega
 have:=Rj (b:=4) (k%16) v c;rw [Gx,show 16*(k/16)+k%16=k by omega,List.getD_eq_getElem?_getD,Qr a] at this;exact this
theorem Lx (C:List Nat):(Dk C).length=(C.length+15)/16:=by simp [Dk]
theorem Gy (C:List Nat) (j:Nat) (h:j<(C.length+15)/16):(Dk C)[j]? = some (Bt C j):=by simp [Dk,h]
theorem Zuj (C:List Nat) (k v:Nat) (b:k<C.length):(Dk C).set (k/16) (Bt (C.set k v) (k/16))=Dk (C.set k v):=by
 apply List.ext_getElem?;intro j;rw [List.getElem?_set,Lx];by_cases a:j<(C.length+15)/16
 ·rw [Gy (C.set k v) j (by rw [List.length_set];exact a)];by_cases e:k/16=j
  ·rw [if_pos e,if_pos Qa,e]
  ·rw [if_neg e,Gy C j a];unfold Bt;rw [Z2b C k v j b (λh=>e h.symm)]
 ·rw [List.getElem?_eq_none (l:=Dk (C.set k v)) (by rw [Lx,List.length_set];omega)];split
  ·rw [if_neg Qa]
  ·rw [List.getElem?_eq_none (by rw [Lx];omega)]
theorem Rn (b:Nat):∀n,dg b (List.replicate n 0)=0
 | 0=>rfl
 | n+1=>by show 2^b*dg b (List.replicate n 0)+0=0;rw [Rn b n];rfl
theorem Zqf (n:Nat):Dk (List.replicate n 0)=List.replicate ((n+15)/16) 0:=by
 unfold Dk;rw [List.length_replicate];apply List.ext_getElem?;intro j;by_cases a:j<(n+15)/16
 ·simp only [List.getElem?_map,List.getElem?_range a,Option.map_some];rw [List.getElem?_replicate,if_pos a];congr 1;unfold Bt;rw [show nibL (List.replicate n 0) j=List.replicate 16 0 from ?_,Rn];apply List.ext_getElem
  ·simp [nibL]
  ·intro i c b;rw [Gx,List.getElem_replicate,List.getD_eq_getElem?_getD,List.getElem?_replicate];split<;>rfl
 ·rw [List.getElem?_eq_none Qe,List.getElem?_eq_none Qe]
def all4 (a:Nat):Nat:=if a=15 then 1 else 0
theorem t4:∀(a:Fin 16) (c:Fin 8),(((((a.val &&& (8*(c.val%2)+a.val/2)) &&& (4*(c.val%4)+a.val/4)) &&& (2*c.val+a.val/8)) &&& 1)=all4 a.val)/\popN 4 (all4 a.val)=all4 a.val:=by decide +kernel
end M
end
section
open Go.RowKit Go.Sort M
theorem andN (a b:Nat) (ha:a<18446744073709551616) (c:b<18446744073709551616):bits BinOp.and IntKind.u64 (a:Int) (b:Int)=((a &&& b:Nat):Int):=bits_and_u64_nat a b ha c
theorem wrapN (n:Nat) (h:n<18446744073709551616):IntKind.u64.wrap (n:Int)=(n:Int):=by rw [IntKind.wrap_u64];omega
theorem Ly (i:Int) (b:0<=i) (a:i<=65536):Aj prog 141 #[.int .i64 i] (.int .i64 (4*(i.toNat%16):Nat)):=by intro w;go_enter func141,ntmps141;go_wp2;go_ret;refine ⟨Bc ?_,Qg⟩;omega
end
section
open Go.RowKit Go.Sort
theorem C0 {w w':World} (a:Below w.heap.size w w'):w.grownBy w' none:=⟨a.os,a.tape,a.output,a.size,λk b _=>a.block k b⟩
end
end Go.Proofs.YtpdphfgpdgadpaaGreat

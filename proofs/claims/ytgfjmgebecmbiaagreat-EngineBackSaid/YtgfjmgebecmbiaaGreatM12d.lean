/-
  Plain mathematics of tables of buckets: what a put, and a delete, makes of all that a table has; what is found. No condition but those that stand in each.
-/
import Derived.Test.YtgfjmgebecmbiaaGreatM12
set_option linter.unusedSimpArgs false
set_option linter.unusedVariables false
namespace Go.Proofs.YtgfjmgebecmbiaaGreat
open M
def keysR (L:List Rt):List Ky:=L.map Rt.k
theorem keysR_perm {L M:List Rt} (h:L.Perm M):(keysR L).Perm (keysR M):=h.map _
theorem allC_cons (x:Pl) (C:List Pl):allC (x::C)=x.toList++allC C:=by
 cases x<;>rfl
theorem set_perm:∀(C:List Pl) (i:Nat) (hi:i<C.length) (x:Pl),(C[i].toList++allC (C.set i x)).Perm (x.toList++allC C)
 | y::C,0,_,x=>by
  show (y.toList++allC (x::C)).Perm (x.toList++allC (y::C))
  rw [allC_cons,allC_cons]
  exact List.perm_append_comm_assoc _ _ _
 | y::C,i+1,hi,x=>by
  have ih:=set_perm C i (by simpa using hi) x
  show ((C[i]'(by simpa using hi)).toList++allC (y::C.set i x)).Perm (x.toList++allC (y::C))
  rw [allC_cons,allC_cons,List.perm_iff_count]
  intro a
  have:=ih.count_eq a
  simp only [List.count_append] at *
  omega
theorem setB_perm:∀(B:List (List Pl)) (i:Nat) (hi:i<B.length) (C:List Pl),(allC B[i]++(B.set i C).flatMap allC).Perm (allC C++B.flatMap allC)
 | D::B,0,_,C=>by
  show (allC D++(C::B).flatMap allC).Perm (allC C++(D::B).flatMap allC)
  rw [List.flatMap_cons,List.flatMap_cons]
  exact List.perm_append_comm_assoc _ _ _
 | D::B,i+1,hi,C=>by
  have ih:=setB_perm B i (by simpa using hi) C
  show (allC (B[i]'(by simpa using hi))++(D::B.set i C).flatMap allC).Perm (allC C++(D::B).flatMap allC)
  rw [List.flatMap_cons,List.flatMap_cons,List.perm_iff_count]
  intro a
  have:=ih.count_eq a
  simp only [List.count_append] at *
  omega
theorem bk_at (T:Tab) (i:Nat) (hi:i<T.B.length):T.bk i=T.B[i]:=by
 unfold Tab.bk
 rw [List.getD_eq_getElem?_getD,List.getElem?_eq_getElem hi]
 rfl
theorem cont_set (T:Tab) (i:Nat) (hi:i<T.B.length) (j:Nat) (hj:j<(T.bk i).length) (x:Pl):((T.bk i)[j].toList++contT (T.set i ((T.bk i).set j x))).Perm (x.toList++contT T):=by
 have h1:=setB_perm T.B i hi ((T.bk i).set j x)
 have h2:=set_perm (T.bk i) j hj x
 rw [<-bk_at T i hi] at h1
 rw [List.perm_iff_count]
 intro a
 have e1:=h1.count_eq a
 have e2:=h2.count_eq a
 unfold contT Tab.set
 simp only [List.count_append] at *
 omega
theorem split_key:∀{L:List Rt} {r:Rt},(keysR L).Nodup->r∈L->L.Perm (r::outS L r.k)
 | a::L,r,hn,hm=>by
  unfold keysR at hn
  rw [List.map_cons,List.nodup_cons] at hn
  have hin:∀q∈L,q.k≠a.k:=fun q hq e=>hn.1 (e▸List.mem_map_of_mem hq)
  rw [List.mem_cons] at hm
  rcases hm with rfl | hm
  ·have:outS (r::L) r.k=L:=by
    unfold outS
    rw [List.filter_cons_of_neg (by simp),List.filter_eq_self.2 (fun q hq=>by simpa using hin q hq)]
   rw [this]
  ·have ne:a.k≠r.k:=fun e=>hin r hm e.symm
   have:outS (a::L) r.k=a::outS L r.k:=by
    unfold outS
    rw [List.filter_cons_of_pos (by simpa using ne)]
   rw [this]
   exact ((split_key hn.2 hm).cons a).trans (List.Perm.swap _ _ _)
theorem outS_perm {L M:List Rt} (h:L.Perm M) (k:Ky):(outS L k).Perm (outS M k):=h.filter _
theorem outS_self {L:List Rt} {k:Ky} (h:k∉keysR L):outS L k=L:=by
 unfold outS
 refine List.filter_eq_self.2 fun q hq => ?_
 simp only [decide_eq_true_eq]
 intro e
 exact h (List.mem_map.2 ⟨q,hq,e⟩)
theorem mem_outS {L:List Rt} {k:Ky} {q:Rt}:q∈outS L k↔q∈L/\q.k≠k:=by simp [outS]
theorem mem_keys {L:List Rt} {q:Rt} (h:q∈L):q.k∈keysR L:=List.mem_map_of_mem h
theorem lessK_irr (a:Ky):lessK a a=false:=lessB_self _ _ _
theorem lessK_trans {a b c:Ky} (h:lessK a b=true) (g:lessK b c=true):lessK a c=true:=lessB_trans _ _ _ _ _ _ _ _ _ h g
theorem lessK_total {a b:Ky} (h:a≠b):lessK b a = !lessK a b:=lessB_total _ _ _ _ _ _ (fun ⟨e1,e2,e3⟩=>h (by cases a;cases b;simp_all))
def Sorted (L:List Rt):Prop:=L.Pairwise fun a b=>lessK a.k b.k=true
theorem Sorted.nodup {L:List Rt} (h:Sorted L):(keysR L).Nodup:=by
 unfold keysR List.Nodup
 rw [List.pairwise_map]
 refine List.Pairwise.imp (fun {a b} hab e => ?_) h
 rw [e,lessK_irr] at hab
 cases hab
theorem intoS_perm:∀{L:List Rt} (r:Rt),Sorted L->(intoS L r).Perm (r::outS L r.k)
 | [],r,_=>by simp [intoS,outS]
 | a::L,r,h=>by
  have h1:=List.pairwise_cons.1 h
  unfold intoS
  split
  ·rename_i hl
   have ne:a.k≠r.k:=fun e=>by rw [e,lessK_irr] at hl;cases hl
   have:outS (a::L) r.k=a::outS L r.k:=by
    unfold outS
    rw [List.filter_cons_of_pos (by simpa using ne)]
   rw [this]
   exact ((intoS_perm r h1.2).cons a).trans (List.Perm.swap _ _ _)
  ·rename_i hl
   split
   ·rename_i he
    have:outS (a::L) r.k=L:=by
     unfold outS
     rw [List.filter_cons_of_neg (by simp [he])]
     refine List.filter_eq_self.2 fun q hq => ?_
     simp only [decide_eq_true_eq]
     intro e
     have:=h1.1 q hq
     rw [e,he,lessK_irr] at this
     cases this
    rw [this]
   ·rename_i he
    rw [outS_self]
    intro hm
    unfold keysR at hm
    rw [List.mem_map] at hm
    obtain ⟨q,hq,e⟩:=hm
    rw [List.mem_cons] at hq
    rcases hq with rfl | hq
    ·exact he e
    ·have:=h1.1 q hq
     rw [e] at this
     exact hl this
theorem intoS_mem {L:List Rt} {r q:Rt} (h:Sorted L) (hq:q∈intoS L r):q=r\/q∈L:=by
 have:=(intoS_perm r h).mem_iff.1 hq
 rw [List.mem_cons] at this
 exact this.imp id (fun h=>(mem_outS.1 h).1)
theorem intoS_sorted:∀{L:List Rt} (r:Rt),Sorted L->Sorted (intoS L r)
 | [],r,_=>by simp [intoS,Sorted]
 | a::L,r,h=>by
  have h1:=List.pairwise_cons.1 h
  unfold intoS
  split
  ·rename_i hl
   refine List.pairwise_cons.2 ⟨fun q hq => ?_,intoS_sorted r h1.2⟩
   rcases intoS_mem h1.2 hq with rfl | hq
   ·exact hl
   ·exact h1.1 q hq
  ·rename_i hl
   split
   ·rename_i he
    exact List.pairwise_cons.2 ⟨fun q hq=>by rw [<-he];exact h1.1 q hq,h1.2⟩
   ·rename_i he
    have hr:lessK r.k a.k=true:=by
     rw [lessK_total he]
     simpa using hl
    refine List.pairwise_cons.2 ⟨fun q hq => ?_,h⟩
    rw [List.mem_cons] at hq
    rcases hq with rfl | hq
    ·exact hr
    ·exact lessK_trans hr (h1.1 q hq)
theorem outS_sorted {L:List Rt} (k:Ky) (h:Sorted L):Sorted (outS L k):=List.Pairwise.filter _ h
theorem sorted_eq:∀{L M:List Rt},Sorted L->Sorted M->L.Perm M->L=M
 | [],M,_,_,h=>by rw [List.nil_perm.1 h]
 | a::L,[],_,_,h=>absurd h.length_eq (by simp)
 | a::L,b::M,hL,hM,h=>by
  have hl:=List.pairwise_cons.1 hL
  have hm:=List.pairwise_cons.1 hM
  have e:a=b:=by
   have h1:a∈b::M:=h.mem_iff.1 (by simp)
   have h2:b∈a::L:=h.mem_iff.2 (by simp)
   rw [List.mem_cons] at h1 h2
   rcases h1 with rfl | h1
   ·rfl
   ·rcases h2 with e | h2
    ·exact e.symm
    ·have:=lessK_trans (hl.1 b h2) (hm.1 a h1)
     rw [lessK_irr] at this
     cases this
  subst e
  rw [sorted_eq hl.2 hm.2 ((List.perm_cons a).1 h)]
def cutK (ah al m:Nat):Ky:=⟨cutW ah m,cutW al (m-64),(m:Int)⟩
theorem cutW_cut (w n:Nat):cutW (cutW w n) n=cutW w n:=by
 unfold cutW
 rw [Nat.mul_div_cancel _ (Nat.two_pow_pos _)]
theorem has_cutK (k:Ky) (ah al:Nat):hasB k.h k.l k.n ah al=true↔∃m:Nat,m<=128/\k=cutK ah al m:=by
 unfold hasB rightB
 simp only [Bool.and_eq_true,decide_eq_true_eq]
 constructor
 ·rintro ⟨⟨h1,h2,-,-⟩,h3,h4⟩
  refine ⟨k.n.toNat,by omega,?_⟩
  obtain ⟨h,l,n⟩:=k
  simp only at h1 h2 h3 h4
  unfold cutK
  simp only
  rw [h3,h4,Int.toNat_of_nonneg h1]
 ·rintro ⟨m,hm,rfl⟩
  unfold cutK
  simp only [Int.toNat_natCast]
  exact ⟨⟨by omega,by omega,cutW_cut _ _,cutW_cut _ _⟩,trivial,trivial⟩
def lngI (L:List Rt) (c:Rt->Bool):Nat->Option Nat
 | 0=>none
 | j+1=>
  match lngI L c j with
  | none=>if c (L.getD j ⟨⟨0,0,0⟩,0⟩)=true then some j else none
  | some b=>if c (L.getD j ⟨⟨0,0,0⟩,0⟩)=true/\(L.getD b ⟨⟨0,0,0⟩,0⟩).k.n<(L.getD j ⟨⟨0,0,0⟩,0⟩).k.n then some j else some b
theorem getD_at {L:List Rt} {i:Nat} (h:i<L.length):L.getD i ⟨⟨0,0,0⟩,0⟩=L[i]:=by
 rw [List.getD_eq_getElem?_getD,List.getElem?_eq_getElem h]
 rfl
def LngOk (L:List Rt) (c:Rt->Bool) (j:Nat):Option Nat->Prop
 | none=>∀i (h:i<L.length),i<j->c L[i]=false
 | some b=>∃hb:b<L.length,b<j/\c L[b]=true/\∀i (h:i<L.length),i<j->c L[i]=true->L[i].k.n<=L[b].k.n
theorem lng_ok (L:List Rt) (c:Rt->Bool):∀j,j<=L.length->LngOk L c j (lngI L c j)
 | 0,_=>fun i _ h=>absurd h (by omega)
 | j+1,hj=>by
  have ih:=lng_ok L c j (by omega)
  have hjl:j<L.length:=by omega
  unfold lngI
  rw [getD_at hjl]
  cases e:lngI L c j with
  | none=>
   rw [e] at ih
   have ih:∀i (h:i<L.length),i<j->c L[i]=false:=ih
   by_cases hc:c L[j]=true
   ·simp only [hc,if_true]
    refine ⟨hjl,by omega,hc,fun i hi hlt hci => ?_⟩
    by_cases hij:i=j
    ·subst hij;exact Int.le_refl _
    ·rw [ih i hi (by omega)] at hci;cases hci
   ·simp only [hc]
    intro i hi hlt
    by_cases hij:i=j
    ·subst hij;simpa using hc
    ·exact ih i hi (by omega)
  | some b=>
   rw [e] at ih
   obtain ⟨hb,hbj,hcb,hmax⟩:=ih
   simp only [getD_at hb]
   by_cases hc:c L[j]=true/\L[b].k.n<L[j].k.n
   ·rw [if_pos hc]
    refine ⟨hjl,by omega,hc.1,fun i hi hlt hci => ?_⟩
    by_cases hij:i=j
    ·subst hij;exact Int.le_refl _
    ·have:=hmax i hi (by omega) hci;omega
   ·rw [if_neg hc]
    refine ⟨hb,by omega,hcb,fun i hi hlt hci => ?_⟩
    by_cases hij:i=j
    ·subst hij
     by_cases h2:L[b].k.n<L[i].k.n
     ·exact absurd ⟨hci,h2⟩ hc
     ·omega
    ·exact hmax i hi (by omega) hci
def candB (ah al:Nat) (low high:Int) (r:Rt):Bool:=decide (low<r.k.n)&&(decide (r.k.n<=high)&&hasB r.k.h r.k.l r.k.n ah al)
def depV (N:List Rt) (ah al m:Nat):Option Int:=(N.find? fun r=>decide (r.k=cutK ah al m)).map Rt.v
def bestM (D:Nat->Option Int) (low high:Int):Nat->Option Nat
 | 0=>none
 | f+1=>if low<(f:Int)/\(f:Int)<=high/\(D f).isSome=true then some f else bestM D low high f
theorem best_none {D:Nat->Option Int} {low high:Int}:∀{f:Nat},bestM D low high f=none↔∀m,m<f->¬(low<(m:Int)/\(m:Int)<=high/\(D m).isSome=true)
 | 0=>⟨fun _ m h=>absurd h (by omega),fun _=>rfl⟩
 | f+1=>by
  unfold bestM
  split
  ·rename_i h
   exact ⟨fun e=>by (cases e),fun g=>absurd h (g f (by omega))⟩
  ·rename_i h
   rw [best_none (f:=f)]
   refine ⟨fun g m hm => ?_,fun g m hm=>g m (by omega)⟩
   by_cases e:m=f
   ·subst e;exact h
   ·exact g m (by omega)
theorem best_some {D:Nat->Option Int} {low high:Int} {b:Nat}:∀{f:Nat},bestM D low high f=some b↔b<f/\(low<(b:Int)/\(b:Int)<=high/\(D b).isSome=true)/\∀m,b<m->m<f->¬(low<(m:Int)/\(m:Int)<=high/\(D m).isSome=true)
 | 0=>⟨fun e=>by (cases e),fun h=>absurd h.1 (by omega)⟩
 | f+1=>by
  unfold bestM
  split
  ·rename_i h
   constructor
   ·intro e
    injection e with e
    subst e
    exact ⟨by omega,h,fun m h1 h2=>absurd h2 (by omega)⟩
   ·rintro ⟨h1,h2,h3⟩
    by_cases e:b=f
    ·rw [e]
    ·exact absurd h (h3 f (by omega) (by omega))
  ·rename_i h
   rw [best_some (f:=f)]
   constructor
   ·rintro ⟨h1,h2,h3⟩
    refine ⟨by omega,h2,fun m hb hm => ?_⟩
    by_cases e:m=f
    ·subst e;exact h
    ·exact h3 m hb (by omega)
   ·rintro ⟨h1,h2,h3⟩
    have hbf:b≠f:=fun e=>h (e▸h2)
    exact ⟨by omega,h2,fun m hb hm=>h3 m hb (by omega)⟩
theorem dep_some {N:List Rt} {ah al m:Nat}:(depV N ah al m).isSome=true↔∃r∈N,r.k=cutK ah al m:=by
 unfold depV
 rw [Option.isSome_map,List.find?_isSome]
 simp
theorem dep_of {N:List Rt} (hn:(keysR N).Nodup) {ah al m:Nat} {r:Rt} (hr:r∈N) (hk:r.k=cutK ah al m):depV N ah al m=some r.v:=by
 unfold depV
 cases e:N.find? (fun r=>decide (r.k=cutK ah al m)) with
 | none=>
  rw [List.find?_eq_none] at e
  exact absurd (decide_eq_true hk) (e r hr)
 | some q=>
  have hq:=List.mem_of_find?_eq_some e
  have hqk:q.k=cutK ah al m:=by simpa using List.find?_some e
  obtain ⟨i,hi,rfl⟩:=List.getElem_of_mem hr
  obtain ⟨j,hj,rfl⟩:=List.getElem_of_mem hq
  have:i=j:=by
   unfold keysR at hn
   exact (List.getElem_inj (xs:=N.map Rt.k) (h₀:=by simpa using hi) (h₁:=by simpa using hj) hn).1 (by simp [hk,hqk])
  subst this
  rfl
theorem lng_best {N:List Rt} (ah al:Nat) (low high:Int) :
 (lngI N (candB ah al low high) N.length=none/\bestM (depV N ah al) low high 129=none) \/
 ∃b,∃hb:b<N.length,∃m:Nat,lngI N (candB ah al low high) N.length=some b/\bestM (depV N ah al) low high 129=some m/\N[b].k=cutK ah al m:=by
 have hl:=lng_ok N (candB ah al low high) N.length (Nat.le_refl _)
 have hc:∀r:Rt,candB ah al low high r=true↔low<r.k.n/\r.k.n<=high/\∃m:Nat,m<=128/\r.k=cutK ah al m:=fun r=>by
  unfold candB
  simp only [Bool.and_eq_true,decide_eq_true_eq,has_cutK]
 cases e:lngI N (candB ah al low high) N.length with
 | none=>
  rw [e] at hl
  have hl:∀i (h:i<N.length),i<N.length->candB ah al low high N[i]=false:=hl
  refine .inl ⟨rfl,best_none.2 fun m hm h => ?_⟩
  obtain ⟨r,hr,hk⟩:=dep_some.1 h.2.2
  obtain ⟨i,hi,rfl⟩:=List.getElem_of_mem hr
  have h1:=hl i hi hi
  have h2:=(hc N[i]).2 ⟨by rw [hk];exact h.1,by rw [hk];exact h.2.1,m,by omega,hk⟩
  rw [h1] at h2
  cases h2
 | some b=>
  rw [e] at hl
  obtain ⟨hb,-,hcb,hmax⟩:=hl
  obtain ⟨h1,h2,m,hm,hk⟩:=(hc N[b]).1 hcb
  have hkn:N[b].k.n=(m:Int):=by rw [hk];rfl
  refine .inr ⟨b,hb,m,rfl,best_some.2 ⟨by omega,⟨by omega,by omega,dep_some.2 ⟨_,List.getElem_mem hb,hk⟩⟩,fun m' hm' hm2 h => ?_⟩,hk⟩
  obtain ⟨r,hr,hk'⟩:=dep_some.1 h.2.2
  obtain ⟨i,hi,rfl⟩:=List.getElem_of_mem hr
  have hn':N[i].k.n=(m':Int):=by rw [hk'];rfl
  have:=hmax i hi hi ((hc N[i]).2 ⟨by rw [hn'];exact h.1,by rw [hn'];exact h.2.1,m',by omega,hk'⟩)
  omega
theorem hasK_some {k:Ky} {r:Rt}:hasK k (some r)=true↔r.k=k:=by simp [hasK]
theorem idx_none {C:List Pl} {k:Ky} (h:C.findIdx? (hasK k)=none):∀r,some r∈C->r.k≠k:=by
 intro r hr e
 have:=(List.findIdx?_eq_none_iff.1 h) _ hr
 rw [hasK_some.2 e] at this
 cases this
theorem getC_none {C:List Pl} {k:Ky} (h:getC C k=none):C.findIdx? (hasK k)=none:=by
 rcases idx_cases (hasK k) C with ⟨i,hi,h1,-,h3⟩ | ⟨h1,-⟩
 ·rw [getC_hit hi h1 h3] at h
  cases h
 ·exact h1
theorem hit_at {C:List Pl} {k:Ky} {i:Nat} (hi:i<C.length) (h:hasK k C[i]=true):∃q,C[i]=some q/\q.k=k:=by
 cases e:C[i] with
 | none=>rw [e] at h;cases h
 | some q=>exact ⟨q,rfl,hasK_some.1 (e▸h)⟩
theorem getC_some {C:List Pl} {k:Ky} (h:(getC C k).isSome=true):∃i,∃hi:i<C.length,C.findIdx? (hasK k)=some i/\∃q,C[i]=some q/\q.k=k/\getC C k=some q.v:=by
 rcases idx_cases (hasK k) C with ⟨i,hi,h1,-,h3⟩ | ⟨h1,-⟩
 ·obtain ⟨q,e,hq⟩:=hit_at hi h3
  exact ⟨i,hi,h1,q,e,hq,by rw [getC_hit hi h1 h3,e];rfl⟩
 ·rw [getC_miss h1] at h
  cases h
theorem putC_hit {C:List Pl} {k:Ky} {v:Int} {i:Nat} (h:C.findIdx? (hasK k)=some i):putC C k v=some (C.set i (some ⟨k,v⟩)):=by
 unfold putC
 rw [h]
theorem putC_some {C C':List Pl} {k:Ky} {v:Int} (hm:C.findIdx? (hasK k)=none) (h:putC C k v=some C'):∃j,∃hj:j<C.length,C'=C.set j (some ⟨k,v⟩)/\C[j]=none:=by
 unfold putC at h
 rw [hm] at h
 rcases idx_cases Option.isNone C with ⟨i,hi,h1,-,h3⟩ | ⟨h1,-⟩
 ·simp only [h1,Option.some.injEq] at h
  exact ⟨i,hi,h.symm,by simpa using h3⟩
 ·simp only [h1] at h
  cases h
theorem putC_none {C:List Pl} {k:Ky} {v:Int} (h:putC C k v=none):C.findIdx? (hasK k)=none/\∀x∈C,x.isSome=true:=by
 unfold putC at h
 rcases idx_cases (hasK k) C with ⟨i,hi,h1,-,h3⟩ | ⟨h1,-⟩
 ·simp only [h1] at h
  cases h
 ·refine ⟨h1,?_⟩
  simp only [h1] at h
  rcases idx_cases Option.isNone C with ⟨i,hi,h2,-,h3⟩ | ⟨h2,-⟩
  ·simp only [h2] at h
   cases h
  ·intro x hx
   have:=(List.findIdx?_eq_none_iff.1 h2) x hx
   cases x with
   | none=>cases this
   | some r=>rfl
theorem takeC_cases (C:List Pl) (k:Ky):(takeC C k=none/\C.findIdx? (hasK k)=none)\/∃j,∃hj:j<C.length,∃q,takeC C k=some (C.set j none)/\C[j]=some q/\q.k=k:=by
 unfold takeC
 rcases idx_cases (hasK k) C with ⟨i,hi,h1,-,h3⟩ | ⟨h1,-⟩
 ·obtain ⟨q,e,hq⟩:=hit_at hi h3
  exact .inr ⟨i,hi,q,by rw [h1],e,hq⟩
 ·exact .inl ⟨by rw [h1],h1⟩
theorem swapC_full {C:List Pl} {i:Nat} (hi:i<C.length) (hf:∀x∈C,x.isSome=true) (k:Ky) (v:Int):∃q,C[i]=some q/\swapC C (i:Int) k v=some (q,C.set i (some ⟨k,v⟩)):=by
 obtain ⟨q,e⟩:=Option.isSome_iff_exists.1 (hf _ (List.getElem_mem hi))
 refine ⟨q,e,?_⟩
 unfold swapC
 rw [if_pos (by omega),Int.toNat_natCast,List.getD_eq_getElem?_getD,List.getElem?_eq_getElem hi,e]
 rfl
structure Inv (T:Tab):Prop where
 lo:1<=T.B.length
 hi:T.B.length<=65536
 four:∀i,i<T.B.length->(T.bk i).length=4
 word:W64 T.s
 good:∀r∈contT T,r.k.good
 home:∀i,i<T.B.length->∀r,some r∈T.bk i->i=T.x1 r.k\/i=T.x2 r.k
 keys:(keysR (contT T)).Nodup
 sort:Sorted T.st
theorem Inv.x1_lt {T:Tab} (H:Inv T) (k:Ky):T.x1 k<T.B.length:=b1_lt H.lo
theorem Inv.x2_lt {T:Tab} (H:Inv T) (k:Ky):T.x2 k<T.B.length:=b2_lt H.lo
theorem bk_set (T:Tab) (i:Nat) (hi:i<T.B.length) (C:List Pl) (k:Nat):(T.set i C).bk k=if k=i then C else T.bk k:=by
 unfold Tab.bk Tab.set
 simp only [List.getD_eq_getElem?_getD,List.getElem?_set]
 by_cases e:i=k
 ·subst e
  rw [if_pos rfl,if_pos hi,if_pos rfl]
  rfl
 ·rw [if_neg e,if_neg (fun x=>e x.symm)]
theorem set_len (T:Tab) (i:Nat) (C:List Pl):(T.set i C).B.length=T.B.length:=List.length_set
theorem set_x1 (T:Tab) (i:Nat) (C:List Pl) (k:Ky):(T.set i C).x1 k=T.x1 k:=by unfold Tab.x1;rw [set_len];rfl
theorem set_x2 (T:Tab) (i:Nat) (C:List Pl) (k:Ky):(T.set i C).x2 k=T.x2 k:=by unfold Tab.x2;rw [set_len];rfl
theorem mem_bk {T:Tab} {i:Nat} (hi:i<T.B.length) {r:Rt} (h:some r∈T.bk i):r∈contT T:=by
 unfold contT
 rw [bk_at T i hi] at h
 refine List.mem_append_left _ (List.mem_flatMap.2 ⟨T.B[i],List.getElem_mem hi,?_⟩)
 unfold allC
 exact List.mem_filterMap.2 ⟨some r,h,rfl⟩
theorem mem_cont {T:Tab} {r:Rt} (h:r∈contT T):(∃i,i<T.B.length/\some r∈T.bk i)\/r∈T.st:=by
 unfold contT at h
 rw [List.mem_append,List.mem_flatMap] at h
 rcases h with ⟨C,hC,h⟩ | h
 ·obtain ⟨i,hi,rfl⟩:=List.getElem_of_mem hC
  unfold allC at h
  rw [List.mem_filterMap] at h
  obtain ⟨x,hx,e⟩:=h
  simp only [id] at e
  subst e
  exact .inl ⟨i,hi,by rw [bk_at T i hi];exact hx⟩
 ·exact .inr h
theorem Inv.place {T:Tab} (H:Inv T) {i:Nat} (hi:i<T.B.length) {j:Nat} (hj:j<(T.bk i).length) {x:Pl} (hx:∀r,x=some r->r.k.good/\(i=T.x1 r.k\/i=T.x2 r.k))
 (hk:(keysR (contT (T.set i ((T.bk i).set j x)))).Nodup):Inv (T.set i ((T.bk i).set j x)):=by
 refine ⟨by rw [set_len];exact H.lo,by rw [set_len];exact H.hi,fun k hkl => ?_,H.word,fun r hr => ?_,fun k hkl r hr => ?_,hk,H.sort⟩
 ·rw [set_len] at hkl
  rw [bk_set T i hi]
  split
  ·rw [List.length_set];exact H.four i hi
  ·exact H.four k hkl
 ·have hp:=(cont_set T i hi j hj x).mem_iff.1 (List.mem_append_right _ hr)
  rw [List.mem_append] at hp
  rcases hp with hp | hp
  ·exact (hx r (by simpa using hp)).1
  ·exact H.good r hp
 ·rw [set_len] at hkl
  rw [set_x1,set_x2]
  rw [bk_set T i hi] at hr
  split at hr
  ·rename_i e
   rcases List.mem_or_eq_of_mem_set hr with h | h
   ·exact e▸H.home i hi r h
   ·exact e▸(hx r h.symm).2
  ·exact H.home k hkl r hr
theorem cont_same {T:Tab} (H:Inv T) {i:Nat} (hi:i<T.B.length) {j:Nat} (hj:j<(T.bk i).length) {q r:Rt} (hq:(T.bk i)[j]=some q) (he:q.k=r.k) :
 (keysR (contT (T.set i ((T.bk i).set j (some r))))).Nodup/\(contT (T.set i ((T.bk i).set j (some r)))).Perm (r::outS (contT T) r.k):=by
 have hp:=cont_set T i hi j hj (some r)
 rw [hq] at hp
 have hk:=keysR_perm hp
 have hk2:(keysR (contT (T.set i ((T.bk i).set j (some r))))).Perm (keysR (contT T)):=by
  unfold keysR at *
  simp only [Option.toList_some,List.singleton_append,List.map_cons,he] at hk
  exact (List.perm_cons _).1 hk
 have hn:=hk2.nodup_iff.2 H.keys
 refine ⟨hn,?_⟩
 have hm:r∈contT (T.set i ((T.bk i).set j (some r))):=by
  refine mem_bk (i:=i) (by rw [set_len];exact hi) ?_
  rw [bk_set T i hi,if_pos rfl]
  exact List.mem_set hj _
 have ho:=outS_perm hp r.k
 have e1:outS ((some q).toList++contT (T.set i ((T.bk i).set j (some r)))) r.k=outS (contT (T.set i ((T.bk i).set j (some r)))) r.k:=by simp [outS,he]
 have e2:outS ((some r).toList++contT T) r.k=outS (contT T) r.k:=by simp [outS]
 rw [e1,e2] at ho
 exact (split_key hn hm).trans (ho.cons r)
theorem cont_more {T:Tab} (H:Inv T) {i:Nat} (hi:i<T.B.length) {j:Nat} (hj:j<(T.bk i).length) {r:Rt} (hq:(T.bk i)[j]=none) (he:r.k∉keysR (contT T)) :
 (keysR (contT (T.set i ((T.bk i).set j (some r))))).Nodup/\(contT (T.set i ((T.bk i).set j (some r)))).Perm (r::contT T):=by
 have hp:=cont_set T i hi j hj (some r)
 rw [hq] at hp
 simp only [Option.toList_none,List.nil_append,Option.toList_some,List.singleton_append] at hp
 refine ⟨(keysR_perm hp).nodup_iff.2 ?_,hp⟩
 unfold keysR at *
 rw [List.map_cons,List.nodup_cons]
 exact ⟨he,H.keys⟩
theorem cont_less {T:Tab} (H:Inv T) {i:Nat} (hi:i<T.B.length) {j:Nat} (hj:j<(T.bk i).length) {q:Rt} (hq:(T.bk i)[j]=some q) :
 (keysR (contT (T.set i ((T.bk i).set j none)))).Nodup/\(contT (T.set i ((T.bk i).set j none))).Perm (outS (contT T) q.k):=by
 have hp:=cont_set T i hi j hj none
 rw [hq] at hp
 simp only [Option.toList_none,List.nil_append,Option.toList_some,List.singleton_append] at hp
 have hn:=(keysR_perm hp).nodup_iff.2 H.keys
 unfold keysR at hn
 rw [List.map_cons,List.nodup_cons] at hn
 refine ⟨hn.2,?_⟩
 have ho:=outS_perm hp q.k
 have e1:outS (q::contT (T.set i ((T.bk i).set j none))) q.k=contT (T.set i ((T.bk i).set j none)):=by
  rw [show outS (q::contT (T.set i ((T.bk i).set j none))) q.k=outS (contT (T.set i ((T.bk i).set j none))) q.k by simp [outS]]
  exact outS_self hn.1
 rw [e1] at ho
 exact ho
theorem cont_swap {T:Tab} (H:Inv T) {i:Nat} (hi:i<T.B.length) {j:Nat} (hj:j<(T.bk i).length) {q r:Rt} (hq:(T.bk i)[j]=some q) (he:r.k∉keysR (contT T)) :
 (keysR (contT (T.set i ((T.bk i).set j (some r))))).Nodup/\(q::contT (T.set i ((T.bk i).set j (some r)))).Perm (r::contT T)/\q.k∉keysR (contT (T.set i ((T.bk i).set j (some r)))):=by
 have hp:=cont_set T i hi j hj (some r)
 rw [hq] at hp
 simp only [Option.toList_some,List.singleton_append] at hp
 have hn:(keysR (q::contT (T.set i ((T.bk i).set j (some r))))).Nodup:=by
  refine (keysR_perm hp).nodup_iff.2 ?_
  unfold keysR at *
  rw [List.map_cons,List.nodup_cons]
  exact ⟨he,H.keys⟩
 unfold keysR at *
 rw [List.map_cons,List.nodup_cons] at hn
 exact ⟨hn.2,hp,hn.1⟩
theorem inv_put {T:Tab} (H:Inv T) {i:Nat} (hi:i<T.B.length) {j:Nat} (hj:j<(T.bk i).length) {r:Rt} (hg:r.k.good) (hh:i=T.x1 r.k\/i=T.x2 r.k) (hk:(keysR (contT (T.set i ((T.bk i).set j (some r))))).Nodup):Inv (T.set i ((T.bk i).set j (some r))):=
 H.place hi hj (fun q e=>by injection e with e;subst e;exact ⟨hg,hh⟩) hk
structure Like (T T':Tab):Prop where
 s:T'.s=T.s
 n:T'.B.length=T.B.length
theorem Like.refl (T:Tab):Like T T:=⟨rfl,rfl⟩
theorem Like.trans {a b c:Tab} (h:Like a b) (k:Like b c):Like a c:=⟨k.s.trans h.s,k.n.trans h.n⟩
theorem Like.set (T:Tab) (i:Nat) (C:List Pl):Like T (T.set i C):=⟨rfl,set_len T i C⟩
theorem Like.x1 {T T':Tab} (h:Like T T') (k:Ky):T'.x1 k=T.x1 k:=by unfold Tab.x1;rw [h.s,h.n]
theorem Like.x2 {T T':Tab} (h:Like T T') (k:Ky):T'.x2 k=T.x2 k:=by unfold Tab.x2;rw [h.s,h.n]
theorem other_home (T:Tab) (k:Ky) (b:Nat):T.other k b=T.x1 k\/T.other k b=T.x2 k:=by
 unfold Tab.other
 split
 ·exact .inr rfl
 ·exact .inl rfl
theorem Inv.other_lt {T:Tab} (H:Inv T) (k:Ky) (b:Nat):T.other k b<T.B.length:=by
 rcases other_home T k b with h | h<;>rw [h]
 ·exact H.x1_lt k
 ·exact H.x2_lt k
structure Brought (T:Tab) (r:Rt) (p:Tab×Option Rt):Prop where
 inv:Inv p.1
 like:Like T p.1
 st:p.1.st=T.st
 all:(p.2.toList++contT p.1).Perm (r::contT T)
theorem fresh_keys {T:Tab} (H:Inv T) {r:Rt} (he:r.k∉keysR (contT T)):(keysR (r::contT T)).Nodup:=by
 unfold keysR at *
 rw [List.map_cons,List.nodup_cons]
 exact ⟨he,H.keys⟩
theorem Brought.left {T:Tab} (H:Inv T) {r q:Rt} {p:Tab×Option Rt} (h:Brought T r p) (hg:r.k.good) (he:r.k∉keysR (contT T)) (hq:p.2=some q):q.k.good/\q.k∉keysR (contT p.1)/\(q::contT p.1).Perm (r::contT T):=by
 have ha:=h.all
 rw [hq] at ha
 have ha:(q::contT p.1).Perm (r::contT T):=ha
 refine ⟨?_,?_,ha⟩
 ·have:=ha.mem_iff.1 (List.mem_cons_self ..)
  rw [List.mem_cons] at this
  rcases this with rfl | h1
  ·exact hg
  ·exact H.good q h1
 ·have hn:=(keysR_perm ha).nodup_iff.2 (fresh_keys H he)
  unfold keysR at hn ⊢
  rw [List.map_cons,List.nodup_cons] at hn
  exact hn.1
theorem brought_put {T:Tab} (H:Inv T) {b:Nat} (hb:b<T.B.length) {r:Rt} (hg:r.k.good) (he:r.k∉keysR (contT T)) (hh:b=T.x1 r.k\/b=T.x2 r.k) {C:List Pl} (h:putC (T.bk b) r.k r.v=some C):Brought T r (T.set b C,none):=by
 have hm:(T.bk b).findIdx? (hasK r.k)=none:=by
  rcases idx_cases (hasK r.k) (T.bk b) with ⟨i,hi,-,-,h3⟩ | ⟨h1,-⟩
  ·obtain ⟨q,e,hq⟩:=hit_at hi h3
   exact absurd (hq▸mem_keys (mem_bk hb (e▸List.getElem_mem hi))) he
  ·exact h1
 obtain ⟨j,hj,rfl,hn⟩:=putC_some hm h
 have:=cont_more H hb hj hn he
 exact ⟨inv_put H hb hj hg hh this.1,Like.set _ _ _,rfl,this.2⟩
theorem kicks_ok:∀(f i:Nat) (T:Tab) (b:Nat) (r:Rt),Inv T->b<T.B.length->r.k.good->r.k∉keysR (contT T)->(b=T.x1 r.k\/b=T.x2 r.k)->putC (T.bk b) r.k r.v=none->Brought T r (kicks f i T b r)
 | 0,_,T,_,r,H,_,_,_,_,_=>⟨H,Like.refl T,rfl,List.Perm.refl _⟩
 | f+1,i,T,b,r,H,hb,hg,he,hh,hp=>by
  have h4:=H.four b hb
  obtain ⟨q,hq,hs⟩:=swapC_full (i:=i%4) (by rw [h4];exact Nat.mod_lt _ (by decide)) (putC_none hp).2 r.k r.v
  have ho:kOut T b i r=q:=by unfold kOut;rw [hs];rfl
  have ht:kTab T b i r=T.set b ((T.bk b).set (i%4) (some r)):=by unfold kTab;rw [hs];rfl
  have hj:i%4<(T.bk b).length:=by rw [h4];exact Nat.mod_lt _ (by decide)
  obtain ⟨c1,c2,c3⟩:=cont_swap H hb hj hq he
  have H':=inv_put H hb hj hg hh c1
  rw [<-ht] at H' c1 c2 c3
  have hl:Like T (kTab T b i r):=by rw [ht];exact Like.set _ _ _
  have hst:(kTab T b i r).st=T.st:=by rw [ht];rfl
  have hqg:q.k.good:=H.good q (mem_bk hb (hq▸List.getElem_mem hj))
  have hnb:=H'.other_lt q.k b
  have hnh:=other_home (kTab T b i r) q.k b
  have hN:kNew T b i r=(kTab T b i r).other q.k b:=by unfold kNew;rw [ho]
  unfold kicks
  rw [ho,hN]
  cases e:putC ((kTab T b i r).bk ((kTab T b i r).other q.k b)) q.k q.v with
  | some C=>
   have:=brought_put H' hnb hqg c3 hnh e
   exact ⟨this.inv,hl.trans this.like,hst▸this.st,this.all.trans c2⟩
  | none=>
   have:=kicks_ok f (i+1) (kTab T b i r) ((kTab T b i r).other q.k b) q H' hnb hqg c3 hnh e
   exact ⟨this.inv,hl.trans this.like,hst▸this.st,this.all.trans c2⟩
theorem findS_none {l:List Rt} {k:Ky} (h:(findS l k).isSome=false):k∉keysR l:=by
 intro hm
 unfold keysR at hm
 rw [List.mem_map] at hm
 obtain ⟨q,hq,rfl⟩:=hm
 cases e:findS l q.k with
 | none=>
  unfold findS at e
  have:=(List.findIdx?_eq_none_iff.1 e) q hq
  simp at this
 | some i=>rw [e] at h;cases h
theorem findS_some {l:List Rt} {k:Ky} (h:(findS l k).isSome=true):k∈keysR l:=by
 obtain ⟨i,e⟩:=Option.isSome_iff_exists.1 h
 unfold findS at e
 obtain ⟨hi,h1,-⟩:=List.findIdx?_eq_some_iff_getElem.1 e
 rw [decide_eq_true_eq] at h1
 exact h1▸mem_keys (List.getElem_mem hi)
theorem absent {T:Tab} (H:Inv T) {k:Ky} (h1:(getC (T.bk (T.x1 k)) k).isSome=false) (h2:(getC (T.bk (T.x2 k)) k).isSome=false) (h3:(findS T.st k).isSome=false):k∉keysR (contT T):=by
 intro hm
 unfold keysR at hm
 rw [List.mem_map] at hm
 obtain ⟨q,hq,rfl⟩:=hm
 rcases mem_cont hq with ⟨i,hi,hb⟩ | hs
 ·have e1:getC (T.bk (T.x1 q.k)) q.k=none:=by simpa using h1
  have e2:getC (T.bk (T.x2 q.k)) q.k=none:=by simpa using h2
  rcases H.home i hi q hb with e | e
  ·exact idx_none (getC_none e1) q (e▸hb) rfl
  ·exact idx_none (getC_none e2) q (e▸hb) rfl
 ·exact findS_none h3 (mem_keys hs)
theorem inv_stash {T:Tab} (H:Inv T) {q:Rt} (hg:q.k.good) (hf:q.k∉keysR (T.B.flatMap allC)):Inv { T with st:=intoS T.st q }/\(contT { T with st:=intoS T.st q }).Perm (q::outS (contT T) q.k):=by
 have hp:=intoS_perm q H.sort
 have hc:(contT { T with st:=intoS T.st q }).Perm (q::outS (contT T) q.k):=by
  unfold contT
  have:outS (T.B.flatMap allC++T.st) q.k=T.B.flatMap allC++outS T.st q.k:=by
   unfold outS
   rw [List.filter_append]
   exact congrArg (· ++ _) (outS_self hf)
  rw [this]
  exact (hp.append_left _).trans List.perm_middle
 refine ⟨⟨H.lo,H.hi,H.four,H.word,fun r hr => ?_,H.home,?_,intoS_sorted q H.sort⟩,hc⟩
 ·have:=hc.mem_iff.1 hr
  rw [List.mem_cons] at this
  rcases this with rfl | h
  ·exact hg
  ·exact H.good r (mem_outS.1 h).1
 ·refine (keysR_perm hc).nodup_iff.2 ?_
  unfold keysR
  rw [List.map_cons,List.nodup_cons]
  refine ⟨fun hm => ?_,?_⟩
  ·rw [List.mem_map] at hm
   obtain ⟨r,hr,e⟩:=hm
   exact (mem_outS.1 hr).2 e
  ·exact (H.keys.sublist (List.Sublist.map Rt.k List.filter_sublist))
theorem flat_not {T:Tab} (H:Inv T) {k:Ky} (h:k∈keysR T.st):k∉keysR (T.B.flatMap allC):=by
 intro hm
 have:=H.keys
 unfold contT keysR at this
 rw [List.map_append,List.nodup_append] at this
 exact this.2.2 k hm k h rfl
theorem flat_sub {T:Tab} {k:Ky} (h:k∉keysR (contT T)):k∉keysR (T.B.flatMap allC):=by
 intro hm
 refine h ?_
 unfold contT keysR at *
 rw [List.map_append]
 exact List.mem_append_left _ hm
theorem intoS_len {l:List Rt} {q:Rt} (h:Sorted l) (hm:q.k∈keysR l):(intoS l q).length=l.length:=by
 have h1:=(intoS_perm q h).length_eq
 unfold keysR at hm
 rw [List.mem_map] at hm
 obtain ⟨r,hr,e⟩:=hm
 have h2:=(split_key h.nodup hr).length_eq
 rw [e] at h2
 simp only [List.length_cons] at h1 h2
 omega
theorem intoS_more {l:List Rt} {q:Rt} (h:Sorted l) (hm:q.k∉keysR l):(intoS l q).length=l.length+1:=by
 have h1:=(intoS_perm q h).length_eq
 rw [outS_self hm] at h1
 simpa using h1
structure PutOk (T:Tab) (r:Rt) (p:Tab×Option Rt):Prop where
 inv:Inv p.1
 like:Like T p.1
 st:p.1.st.length=T.st.length
 all:(p.2.toList++contT p.1).Perm (r::outS (contT T) r.k)
 left:∀q,p.2=some q->q.k.good/\q.k∉keysR (contT p.1)/\r.k∉keysR (contT T)/\(∀x∈T.bk (T.x1 r.k),x.isSome=true)
theorem putIn_ok {T:Tab} (H:Inv T) (r:Rt) (hg:r.k.good):PutOk T r (putIn T r):=by
 have hx1:=H.x1_lt r.k
 have hx2:=H.x2_lt r.k
 have same:∀b,b<T.B.length->(b=T.x1 r.k\/b=T.x2 r.k)->(getC (T.bk b) r.k).isSome=true->PutOk T r (T.set b ((putC (T.bk b) r.k r.v).getD (T.bk b)),none):=by
  intro b hb hh h
  obtain ⟨j,hj,hi,q,hq,hqk,-⟩:=getC_some h
  rw [putC_hit hi]
  have:=cont_same H hb hj hq hqk
  exact ⟨inv_put H hb hj hg hh this.1,Like.set _ _ _,rfl,this.2,fun q hq=>by cases hq⟩
 unfold putIn
 split
 ·rename_i h
  exact same _ hx1 (.inl rfl) h
 ·rename_i h1
  split
  ·rename_i h
   exact same _ hx2 (.inr rfl) h
  ·rename_i h2
   split
   ·rename_i h3
    have:=inv_stash H hg (flat_not H (findS_some h3))
    exact ⟨this.1,⟨rfl,rfl⟩,intoS_len H.sort (findS_some h3),this.2,fun q hq=>by cases hq⟩
   ·rename_i h3
    rw [Bool.not_eq_true] at h1 h2 h3
    have he:=absent H h1 h2 h3
    have ho:=outS_self he
    have conv:∀p:Tab×Option Rt,Brought T r p->(p.2=none\/∀x∈T.bk (T.x1 r.k),x.isSome=true)->PutOk T r p:=fun p hb hf=>
     ⟨hb.inv,hb.like,by rw [hb.st],by rw [ho];exact hb.all,fun q hq=>⟨(hb.left H hg he hq).1,(hb.left H hg he hq).2.1,he,by
      rcases hf with hf | hf
      ·rw [hf] at hq;cases hq
      ·exact hf⟩⟩
    cases e1:putC (T.bk (T.x1 r.k)) r.k r.v with
    | some C=>exact conv _ (brought_put H hx1 hg he (.inl rfl) e1) (.inl rfl)
    | none=>
     simp only
     cases e2:putC (T.bk (T.x2 r.k)) r.k r.v with
     | some C=>exact conv _ (brought_put H hx2 hg he (.inr rfl) e2) (.inl rfl)
     | none=>exact conv _ (kicks_ok 16 0 T (T.x2 r.k) r H hx2 hg he (.inr rfl) e2) (.inr (putC_none e1).2)
structure StayOk (T:Tab) (r:Rt) (p:Tab×Bool):Prop where
 inv:Inv p.1
 like:Like T p.1
 all:(contT p.1).Perm (r::outS (contT T) r.k)
 no:p.2=false->p.1.st.length=T.st.length
 yes:p.2=true->p.1.st.length=T.st.length+1/\r.k∉keysR (contT T)/\(∀x∈T.bk (T.x1 r.k),x.isSome=true)
theorem stay_ok {T:Tab} (H:Inv T) (r:Rt) (hg:r.k.good):StayOk T r (stay T r):=by
 have h:=putIn_ok H r hg
 unfold stay
 cases e:(putIn T r).2 with
 | none=>
  have ha:=h.all
  rw [e] at ha
  exact ⟨h.inv,h.like,ha,fun _=>h.st,fun x=>by cases x⟩
 | some q=>
  have ha:=h.all
  rw [e] at ha
  obtain ⟨l1,l2,l3,l4⟩:=h.left q e
  have hs:=inv_stash h.inv l1 (flat_sub l2)
  rw [outS_self l2] at hs
  refine ⟨hs.1,⟨h.like.s,h.like.n⟩,hs.2.trans ha,fun x=>(by simp at x),fun _=>⟨?_,l3,l4⟩⟩
  have:q.k∉keysR (putIn T r).1.st:=by
   intro hm
   refine l2 ?_
   unfold contT keysR at *
   rw [List.map_append]
   exact List.mem_append_right _ hm
  show (intoS (putIn T r).1.st q).length=_
  rw [intoS_more h.inv.sort this,h.st]
theorem empty_bk (s n i:Nat) (h:i<n):(emptyT s n).bk i=[none,none,none,none]:=by
 rw [bk_at _ i (by simpa [emptyT] using h)]
 simp [emptyT]
theorem empty_cont (s n:Nat):contT (emptyT s n)=[]:=by
 unfold contT emptyT
 rw [List.append_nil]
 refine List.flatMap_eq_nil_iff.2 fun C hC => ?_
 rw [List.eq_of_mem_replicate hC]
 rfl
theorem empty_inv {s n:Nat} (hs:W64 s) (h1:1<=n) (h2:n<=65536):Inv (emptyT s n):=by
 have hl:(emptyT s n).B.length=n:=by simp [emptyT]
 refine ⟨by omega,by omega,fun i hi=>by rw [empty_bk s n i (by omega)];rfl,hs,fun r hr => ?_,fun i hi r hr => ?_,?_,List.Pairwise.nil⟩
 ·rw [empty_cont] at hr;cases hr
 ·rw [empty_bk s n i (by omega)] at hr;simp at hr
 ·rw [empty_cont];exact List.nodup_nil
structure GrowOk (T:Tab) (r:Rt) (T':Tab):Prop where
 inv:Inv T'
 all:(contT T').Perm (r::outS (contT T) r.k)
 len:T.B.length<=T'.B.length
theorem fold_ok {f:Tab->Rt->Tab} (hf:∀T r,Inv T->r.k.good->GrowOk T r (f T r)):∀(l:List Rt) (T:Tab),Inv T->(∀r∈l,r.k.good)->(keysR (l++contT T)).Nodup->Inv (l.foldl f T)/\(contT (l.foldl f T)).Perm (l++contT T)/\T.B.length<=(l.foldl f T).B.length
 | [],T,H,_,_=>⟨H,List.Perm.refl _,Nat.le_refl _⟩
 | a::l,T,H,hg,hn=>by
  have h:=hf T a H (hg a (by simp))
  have hk:a.k∉keysR (contT T):=by
   unfold keysR at *
   rw [List.cons_append,List.map_cons,List.nodup_cons] at hn
   exact fun hm=>hn.1 (by rw [List.map_append];exact List.mem_append_right _ hm)
  have ha:=h.all
  rw [outS_self hk] at ha
  have hpp:(l++contT (f T a)).Perm (a::l++contT T):=(ha.append_left l).trans List.perm_middle
  have ih:=fold_ok hf l (f T a) h.inv (fun r hr=>hg r (by simp [hr])) ((keysR_perm hpp).nodup_iff.2 hn)
  exact ⟨ih.1,ih.2.1.trans hpp,Nat.le_trans h.len ih.2.2⟩
theorem stay_grow {T:Tab} (H:Inv T) (r:Rt) (hg:r.k.good):GrowOk T r (stay T r).1:=by
 have h:=stay_ok H r hg
 exact ⟨h.inv,h.all,by rw [h.like.n];exact Nat.le_refl _⟩
theorem grown_inv {T:Tab} (H:Inv T):Inv (grown T)/\(grown T).B.length=min (2*T.B.length) 65536:=by
 have:=H.lo
 have:=H.hi
 refine ⟨empty_inv (mixN_w _) (by omega) (by omega),?_⟩
 simp [grown,emptyT]
theorem putF_ok:∀(d:Nat) (T:Tab) (r:Rt),Inv T->r.k.good->GrowOk T r (putF d T r)
 | 0,T,r,H,hg=>stay_grow H r hg
 | d+1,T,r,H,hg=>by
  have h:=stay_ok H r hg
  unfold putF
  split
  ·have hG:=grown_inv h.inv
   have he:contT (grown (stay T r).1)=[]:=empty_cont _ _
   have:=fold_ok (f:=putF d) (fun T r H hg=>putF_ok d T r H hg) (contT (stay T r).1) (grown (stay T r).1) hG.1 (fun q hq=>h.inv.good q hq) (by rw [he,List.append_nil];exact h.inv.keys)
   rw [he,List.append_nil] at this
   refine ⟨this.1,this.2.1.trans h.all,?_⟩
   have h1:=this.2.2
   rw [hG.2] at h1
   have h2:=h.like.n
   have h3:=H.hi
   omega
  ·exact stay_grow H r hg
end Go.Proofs.YtgfjmgebecmbiaaGreat

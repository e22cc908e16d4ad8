import Derived.Test.YtgfjmgebecmbiaaGreatRef18
set_option linter.unusedSimpArgs false
set_option linter.unusedVariables false
namespace Go.Proofs.YtgfjmgebecmbiaaGreat
section
open Go Go.RowKit Go.Sort M
def fS (N:List Rt) (low:Int) (K:List Ky):List Rt:=Zap (K.map fun k=>⟨k,hopV N low k⟩)
theorem Zzs (N:List Rt) (low:Int) (K:List Ky):(fS N low K).length<=K.length:=by
 have:=Zdi (K.map fun k=>(⟨k,hopV N low k⟩:Rt))
 rwa [List.length_map] at this
theorem Zul (k:Ky) (g:W64 k.l) (m:Int):(sprK k m).length<=256:=by
 unfold sprK
 rw [List.length_map,Zj4 _ _ _ _ g]
 exact Z0i _ _ _ _
theorem Zkm (N:List Rt) (low high:Int) (i:Nat) (h:i<N.length) (hc:insB low high N[i]=true):Zbd (N.take (i+1)) low high=Zbd (N.take i) low high++sprK N[i].k high:=by
 unfold Zbd
 rw [List.take_succ_eq_append_getElem h,List.filter_append,List.flatMap_append]
 congr 1
 simp [hc]
theorem Zlh (N:List Rt) (low high:Int) (i:Nat) (h:i<N.length) (hc:insB low high N[i]=false):Zbd (N.take (i+1)) low high=Zbd (N.take i) low high:=by
 unfold Zbd
 rw [List.take_succ_eq_append_getElem h,List.filter_append,List.flatMap_append]
 simp [hc]
theorem Zew (N:List Rt) (low high:Int) (hg:∀r∈N,r.k.good):∀i,i<=N.length->(Zbd (N.take i) low high).length<=256*i
 | 0,_=>by simp [Zbd]
 | i+1,h=>by
  have ih:=Zew N low high hg i (by omega)
  have hi:i<N.length:=by omega
  cases hc:insB low high N[i] with
  | true=>
   rw [Zkm N low high i hi hc,List.length_append]
   have:=Zul N[i].k (hg _ (List.getElem_mem hi)).2 high
   omega
  | false=>
   rw [Zlh N low high i hi hc]
   omega
theorem Z0w (k:Ky) (m:Int) (j:Nat) (h:j<(Zd7 k.h k.l k.n m).length):(sprK k m)[j]'(by unfold sprK;rw [List.length_map];exact h)=kyP (Zd7 k.h k.l k.n m)[j]:=by simp [sprK]
theorem Zf5 {k:Ky} (g:k.good) (m:Int) {q:Ky} (h:q∈sprK k m):q.good:=by
 have:=(Zat g.1 g.2 q m).1 h
 exact ⟨this.2.2.2.2.1,this.2.2.2.2.2.1⟩
def SetC:Prop:=∀(p:Option Addr) (c:Nat) (L:List Rt) (low high:Int) (W:World),Row W p (rcs L)->(∀x∈L,x.k.good)->(p=none->c=0)->L.length<=c->L.length<=4000 ->
 Calls Tryz.prog 84 #[.slice p L.length c,.int .i64 low,.int .i64 high] W fun e w'=>Zcf W w' e (setS (Zap L) low high)
theorem Zbl {w:World} {B n m d k:Nat} {e:TypeId} {q:Option Addr} {xs:List Value} (h:w.ownsRow B e k (.slice q n d) m xs):n<=d:=by
 rcases h.2 with ⟨e1,_⟩ | ⟨g,cap,cur,e1,_,_,hc,_⟩
 ·injection e1 with _ e2 e3
  omega
 ·injection e1 with _ e2 e3
  omega
end
section
open M
def kV (k:Ky):Nat:=val k.h k.l
theorem Zct {a b:Ky} (ha:W64 a.l) (hb:W64 b.l):Zau a b=true↔kV a<kV b\/(kV a=kV b/\a.n<b.n):=Zyy _ _ _ _ _ _ ha hb
theorem Z0a {ah al m m':Nat} (hb:W64 al) (h:m<m') (h':m'<=128):Zau (cutK ah al m) (cutK ah al m')=true:=by
 refine (Zct (by exact hb.cut _) (by exact hb.cut _)).2 ?_
 unfold kV cutK
 simp only
 rw [Zqb ah al m hb (by omega),Zqb ah al m' hb h']
 have e:2^(128-m)=2^(128-m')*2^(m'-m):=by rw [<-Nat.pow_add];congr 1;omega
 have p1:0<2^(128-m'):=Nat.two_pow_pos _
 have h1:val ah al/2^(128-m)*2^(128-m)<=val ah al/2^(128-m')*2^(128-m'):=by
  rw [e,<-Nat.div_div_eq_div_mul,Nat.mul_comm (2^(128-m')),<-Nat.mul_assoc]
  exact Nat.mul_le_mul_right _ (Nat.div_mul_le_self _ _)
 rcases Nat.lt_or_eq_of_le h1 with h2 | h2
 ·exact .inl h2
 ·exact .inr ⟨h2,by omega⟩
theorem Zon {N:List Rt} (hN:Sorted N) {ah al:Nat} (hb:W64 al) {i j:Nat} (hi:i<N.length) (hj:j<N.length) (hij:i<j) (h1:hasB N[i].k.h N[i].k.l N[i].k.n ah al=true) (h2:hasB N[j].k.h N[j].k.l N[j].k.n ah al=true):N[i].k.n<N[j].k.n:=by
 obtain ⟨m,hm,e1⟩:=(Zdn _ _ _).1 h1
 obtain ⟨m',hm',e2⟩:=(Zdn _ _ _).1 h2
 have hl:=List.pairwise_iff_getElem.1 hN i j hi hj hij
 rw [e1,e2] at hl ⊢
 show (m:Int)<(m':Int)
 by_cases h:m<m'
 ·omega
 ·exfalso
  by_cases h3:m=m'
  ·subst h3
   rw [Za0] at hl
   cases hl
  ·have:=Zbh hl (Z0a hb (by omega) hm)
   rw [Za0] at this
   cases this
def hopJ (N:List Rt) (low:Int) (k:Ky) (j:Nat):Option Int:=(lngI N (Za8 k.h k.l low k.n) j).map fun i=>(N.getD i ⟨⟨0,0,0⟩,0⟩).v
theorem Zrf {N:List Rt} {low:Int} {k:Ky} {j:Nat} (hj:j<N.length) (h:Za8 k.h k.l low k.n N[j]=false):hopJ N low k (j+1)=hopJ N low k j:=by
 unfold hopJ
 rw [Zj0 hj h]
theorem Z23 {N:List Rt} (hN:Sorted N) {low:Int} {k:Ky} (hk:W64 k.l) {j:Nat} (hj:j<N.length) (h:Za8 k.h k.l low k.n N[j]=true):hopJ N low k (j+1)=some N[j].v:=by
 have hc:∀r:Rt,Za8 k.h k.l low k.n r=true->hasB r.k.h r.k.l r.k.n k.h k.l=true:=fun r h=>by
  unfold Za8 at h
  simp only [Bool.and_eq_true] at h
  exact h.2.2
 unfold hopJ
 cases e:lngI N (Za8 k.h k.l low k.n) j with
 | none=>
  rw [Zis hj h e]
  show some (N.getD j _).v=_
  rw [getD_at hj]
 | some b=>
  have hb:=Zwe e
  have hbl:b<N.length:=by omega
  have h0:=Zoy N (Za8 k.h k.l low k.n) j (by omega)
  rw [e] at h0
  obtain ⟨_,_,hcb,_⟩:=h0
  rw [Zs4 hj hbl h e,if_pos (Zon hN hk hbl hj hb (hc _ hcb) (hc _ h))]
  show some (N.getD j _).v=_
  rw [getD_at hj]
structure InvS (N:List Rt) (low high:Int) (i:Nat) (K:List Rt):Prop where
 sorted:Sorted K
 mem:∀q,q∈K↔q.k∈Zbd (N.take i) low high/\q.v=(hopJ N low q.k i).getD 0
theorem InvS.start (N:List Rt) (low high:Int):InvS N low high 0 []:=⟨List.Pairwise.nil,fun q=>by simp [Zbd]⟩
theorem Zg8 {N:List Rt} {low high:Int} {i:Nat} {k:Ky}:k∈Zbd (N.take i) low high↔∃j,∃hj:j<N.length,j<i/\insB low high N[j]=true/\k∈sprK N[j].k high:=by
 unfold Zbd
 simp only [List.mem_flatMap,List.mem_filter]
 constructor
 ·rintro ⟨r,⟨hr,h1⟩,h2⟩
  obtain ⟨j,hj,rfl⟩:=List.getElem_of_mem hr
  have hj':=hj
  rw [List.length_take] at hj'
  rw [List.getElem_take] at h1 h2
  exact ⟨j,by omega,by omega,h1,h2⟩
 ·rintro ⟨j,hj,hji,h1,h2⟩
  refine ⟨N[j],⟨?_,h1⟩,h2⟩
  rw [List.mem_take_iff_getElem]
  exact ⟨j,by omega,rfl⟩
theorem InvS.done {N:List Rt} {low high:Int} {K:List Rt} (H:InvS N low high N.length K):K=setS N low high:=by
 have hm:=H.mem
 rw [List.take_of_length_le (Nat.le_refl _)] at hm
 by_cases hl:low<high
 ·exact Z5f H.sorted fun q=>by rw [hm];simp only [hl,true_and];exact Iff.rfl
 ·have h0:Zbd N low high=[]:=by
   unfold Zbd
   rw [List.filter_eq_nil_iff.2 fun r _ => ?_]
   ·rfl
   ·unfold insB
    simp only [Bool.and_eq_true,decide_eq_true_eq]
    omega
  unfold setS
  rw [if_neg hl]
  refine List.eq_nil_iff_forall_not_mem.2 fun q hq => ?_
  have:=((hm q).1 hq).1
  rw [h0] at this
  cases this
theorem Zy3 {N:List Rt} (hg:∀r∈N,r.k.good) {low high:Int} {i:Nat} {k:Ky} (h:k∈Zbd (N.take i) low high):k.n=high/\k.good/\Zan k.h k.l high=true:=by
 obtain ⟨j,hj,-,-,hk⟩:=Zg8.1 h
 have:=hg _ (List.getElem_mem hj)
 have:=(Zat this.1 this.2 _ _).1 hk
 exact ⟨this.2.2.2.1,⟨this.2.2.2.2.1,this.2.2.2.2.2.1⟩,this.2.2.2.2.2.2.1⟩
theorem InvS.out {N:List Rt} (hg:∀r∈N,r.k.good) {low high:Int} {i:Nat} {K:List Rt} (H:InvS N low high i K) (hi:i<N.length) (hc:insB low high N[i]=false):InvS N low high (i+1) K:=by
 refine ⟨H.sorted,fun q => ?_⟩
 rw [H.mem,Zlh N low high i hi hc]
 refine and_congr_right fun hq => ?_
 rw [Zrf hi]
 rw [(Zy3 hg hq).1]
 unfold insB at hc
 unfold Za8
 rw [<-Bool.and_assoc,hc]
 rfl
theorem InvS.none {N:List Rt} (hN:Sorted N) (hg:∀r∈N,r.k.good) {low high:Int} {i:Nat} {K:List Rt} (H:InvS N low high i K) (hi:i<N.length) (hc:insB low high N[i]=true) (hU:sprK N[i].k high=[]):InvS N low high (i+1) K:=by
 refine ⟨H.sorted,fun q => ?_⟩
 rw [H.mem,Zkm N low high i hi hc,hU,List.append_nil]
 refine and_congr_right fun hq => ?_
 rw [Zrf hi]
 obtain ⟨qn,qg,qr⟩:=Zy3 hg hq
 rw [qn]
 cases hcd:Za8 q.k.h q.k.l low high N[i] with
 | false=>rfl
 | true=>
  exfalso
  unfold Za8 at hcd
  simp only [Bool.and_eq_true,decide_eq_true_eq] at hcd
  obtain ⟨j,hj,hji,h1,h2⟩:=Zg8.1 hq
  have g1:=hg _ (List.getElem_mem hj)
  have g2:=hg _ (List.getElem_mem hi)
  have h3:=(Zat g1.1 g1.2 _ _).1 h2
  have h4:=Zon hN qg.2 hj hi hji h3.2.2.2.2.2.2.2 hcd.2.2
  have:q.k∈sprK N[i].k high:=(Zat g2.1 g2.2 _ _).2 ⟨hcd.2.1,h3.2.1,by omega,qn,qg.1,qg.2,qr,hcd.2.2⟩
  rw [hU] at this
  cases this
theorem Zmw {k:Ky} (hk:W64 k.l) (hr:Zan k.h k.l k.n=true) {a b:Nat} (hb:W64 b):hasB k.h k.l k.n a b=true↔kV k<=val a b/\val a b<kV k+2^(128-k.n.toNat):=by
 rw [Zmx _ _ _ _ _ hk hb]
 obtain ⟨-,-,v,hv⟩:=(Za1 _ _ _ hk).1 hr
 have p:0<2^(128-k.n.toNat):=Nat.two_pow_pos _
 simp only [hr,true_and]
 unfold kV
 rw [hv,Nat.mul_div_cancel_left _ p]
 rw [Nat.div_eq_iff p]
 have e:=Nat.mul_comm v (2^(128-k.n.toNat))
 constructor<;>intro h<;>constructor<;>omega
theorem Zgt {k q:Ky} (g:k.good) {m:Int} (h:q∈sprK k m):Zan k.h k.l k.n=true:=Zo6 _ _ _ _ _ ((Zat g.1 g.2 _ _).1 h).2.2.2.2.2.2.2
theorem Zgs {k q:Ky} (g:k.good) {m:Int} (h:q∈sprK k m):kV k<=kV q/\kV q<kV k+2^(128-k.n.toNat):=by
 have h1:=(Zat g.1 g.2 _ _).1 h
 exact (Zmw g.2 (Zgt g h) h1.2.2.2.2.2.1).1 h1.2.2.2.2.2.2.2
theorem Zqh {k:Ky} (g:k.good) (m:Int) (j:Nat) (h:j<(sprK k m).length):kV (sprK k m)[j]=kV k+j*2^(128-m.toNat)/\(sprK k m)[j].n=m:=by
 have hs:=(Zat g.1 g.2 _ _).1 (List.getElem_mem h)
 have hr:=Zgt g (List.getElem_mem h)
 have hl:j<(Zd7 k.h k.l k.n m).length:=by unfold sprK at h;rwa [List.length_map] at h
 rw [Z0w k m j hl,Ztb ⟨hr,hs.1,hs.2.1,hs.2.2.1⟩ g.2 j hl]
 unfold kyP kV
 simp only
 rw [Zwp]
 exact ⟨rfl,by first|rfl|trivial⟩
theorem Zk2 {k:Ky} (g:k.good) (m v:Int):Sorted ((sprK k m).map fun q=>⟨q,v⟩):=by
 unfold Sorted
 rw [List.pairwise_map,List.pairwise_iff_getElem]
 intro i j hi hj hij
 have hg1:=Zf5 g m (List.getElem_mem hi)
 have hg2:=Zf5 g m (List.getElem_mem hj)
 refine (Zct hg1.2 hg2.2).2 (.inl ?_)
 rw [(Zqh g m i hi).1,(Zqh g m j hj).1]
 have p:0<2^(128-m.toNat):=Nat.two_pow_pos _
 have:=Nat.mul_lt_mul_of_pos_right hij p
 omega
theorem Zun {L:List Rt} (h:Sorted L) (v:Int):Sorted (L.map fun x=>⟨x.k,v⟩):=by
 unfold Sorted at *
 rw [List.pairwise_map]
 exact h
theorem Z4f {α:Type} {p:α->Bool} {x:α}:∀{l:List α},x∈l.takeWhile p->p x=true
 | [],h=>by cases h
 | a::l,h=>by
  rw [List.takeWhile_cons] at h
  split at h
  ·rename_i ha
   rcases List.mem_cons.1 h with e | e
   ·rw [e];exact ha
   ·exact Z4f e
  ·cases h
theorem InvS.lay {N:List Rt} (hN:Sorted N) (hg:∀r∈N,r.k.good) {low high:Int} {i:Nat} {K:List Rt} (H:InvS N low high i K) (hi:i<N.length) (hc:insB low high N[i]=true) (h0:0<(sprK N[i].k high).length) :
 ∃P M S,K=P++(M++S)/\P.length=bh K (sprK N[i].k high)[0]/\(M.map Rt.k=sprK N[i].k high\/(M=[]/\S=[]))/\InvS N low high (i+1) (P++((sprK N[i].k high).map (fun q=>(⟨q,N[i].v⟩:Rt))++S)):=by
 have gi:=hg _ (List.getElem_mem hi)
 have hin:=Zkm N low high i hi hc
 have hv0:=Zqh gi high 0 h0
 have hm0:=List.getElem_mem h0
 have hs0:=(Zat gi.1 gi.2 _ _).1 hm0
 have hgi:=Zf5 gi high hm0
 have hri:=Zgt gi hm0
 rw [Nat.zero_mul,Nat.add_zero] at hv0
 obtain ⟨u,hu⟩:∃u,u=(sprK N[i].k high)[0]:=⟨_,rfl⟩
 rw [<-hu] at hv0 hm0 hs0 hgi ⊢
 have hble:=Zpw K u
 -- who is in the row, told by numbers
 have hK:∀x∈K,x.k.n=high/\x.k.good/\Zan x.k.h x.k.l high=true:=fun x hx=>Zy3 hg ((H.mem x).1 hx).1
 have hin':∀x∈K,(x.k∈sprK N[i].k high↔kV N[i].k<=kV x.k/\kV x.k<kV N[i].k+2^(128-N[i].k.n.toNat)):=fun x hx=>by
  obtain ⟨x1,x2,x3⟩:=hK x hx
  constructor
  ·exact Zgs gi
  ·intro h
   exact (Zat gi.1 gi.2 _ _).2 ⟨hs0.1,hs0.2.1,hs0.2.2.1,x1,x2.1,x2.2,x3,(Zmw gi.2 hri x2.2).2 h⟩
 have hP:∀x∈K.take (bh K u),kV x.k<kV N[i].k:=fun x hx=>by
  obtain ⟨j,hj,rfl⟩:=List.getElem_of_mem hx
  have hj':=hj
  rw [List.length_take] at hj'
  rw [List.getElem_take]
  have h1:=Z62 K u j (by omega) (by omega)
  have hxk:=hK _ (List.getElem_mem (show j<K.length by omega))
  rcases (Zct hxk.2.1.2 hgi.2).1 h1 with h2 | ⟨-,h2⟩
  ·omega
  ·rw [hxk.1,hv0.2] at h2
   omega
 have hR:∀x∈K.drop (bh K u),kV N[i].k<=kV x.k:=fun x hx=>by
  obtain ⟨j,hj,rfl⟩:=List.getElem_of_mem hx
  have hj':=hj
  rw [List.length_drop] at hj'
  rw [List.getElem_drop]
  have h1:=Z63 K u H.sorted (bh K u+j) (by omega) (by omega)
  have hxk:=hK _ (List.getElem_mem (show bh K u+j<K.length by omega))
  by_cases h2:kV N[i].k<=kV K[bh K u+j].k
  ·exact h2
  ·have:=(Zct hxk.2.1.2 hgi.2).2 (.inl (by omega))
   rw [h1] at this
   cases this
 have hRK:∀x∈K.drop (bh K u),x∈K:=fun x hx=>List.mem_of_mem_drop hx
 have hsR:Sorted (K.drop (bh K u)):=List.Pairwise.drop H.sorted
 obtain ⟨R,hRe⟩:∃R,R=K.drop (bh K u):=⟨_,rfl⟩
 rw [<-hRe] at hR hRK hsR
 obtain ⟨top,htop⟩:∃top,top=kV N[i].k+2^(128-N[i].k.n.toNat):=⟨_,rfl⟩
 rw [<-htop] at hin'
 have hlow:∀x∈R.takeWhile (fun x=>decide (kV x.k<top)),kV x.k<top:=fun x hx=>by
  have h:=Z4f (p:=fun x:Rt=>decide (kV x.k<top)) hx
  exact of_decide_eq_true h
 have hcat:R.takeWhile (fun x=>decide (kV x.k<top))++R.dropWhile (fun x=>decide (kV x.k<top))=R:=List.takeWhile_append_dropWhile
 have hhigh:∀x∈R.dropWhile (fun x=>decide (kV x.k<top)),top<=kV x.k:=by
  intro x hx
  cases hd:R.dropWhile (fun x=>decide (kV x.k<top)) with
  | nil=>rw [hd] at hx;cases hx
  | cons y D=>
   have hy:¬kV y.k<top:=by
    have:=List.head?_dropWhile_not (fun x:Rt=>decide (kV x.k<top)) R
    rw [hd] at this
    simpa using this
   rw [hd] at hx hcat
   have hsD:Sorted (y::D):=by
    have:=hsR
    rw [<-hcat] at this
    exact (List.pairwise_append.1 this).2.1
   rcases List.mem_cons.1 hx with rfl | hx
   ·omega
   ·have h1:=(List.pairwise_cons.1 hsD).1 x hx
    have gy:=(hK y (hRK y (by rw [<-hcat];simp))).2.1
    have gx:=(hK x (hRK x (by rw [<-hcat];simp [hx]))).2.1
    rcases (Zct gy.2 gx.2).1 h1 with h2 | ⟨h2,-⟩<;>omega
 obtain ⟨Mm,hM⟩:∃Mm,Mm=R.takeWhile (fun x=>decide (kV x.k<top)):=⟨_,rfl⟩
 obtain ⟨S,hS⟩:∃S,S=R.dropWhile (fun x=>decide (kV x.k<top)):=⟨_,rfl⟩
 rw [<-hM] at hlow hcat
 rw [<-hS] at hhigh hcat
 have hKe:K=K.take (bh K u)++(Mm++S):=by rw [hcat,hRe,List.take_append_drop]
 obtain ⟨P,hPe⟩:∃P,P=K.take (bh K u):=⟨_,rfl⟩
 rw [<-hPe] at hKe hP
 have hMU:∀x∈Mm,x.k∈sprK N[i].k high:=fun x hx=>(hin' x (hRK x (by rw [<-hcat];simp [hx]))).2 ⟨hR x (by rw [<-hcat];simp [hx]),hlow x hx⟩
 have hSU:∀x∈S,x.k∉sprK N[i].k high:=fun x hx h=>by
  have:=((hin' x (hRK x (by rw [<-hcat];simp [hx]))).1 h).2
  have:=hhigh x hx
  omega
 have hPU:∀x∈P,x.k∉sprK N[i].k high:=fun x hx h=>by
  have:=(hin' x (by rw [hKe];simp [hx])).1 h
  have:=hP x hx
  omega
 have hsK:=H.sorted
 rw [hKe] at hsK
 have hsP:=List.pairwise_append.1 hsK
 have hsMS:=List.pairwise_append.1 hsP.2.1
 refine ⟨P,Mm,S,hKe,by rw [hPe,List.length_take];omega,?_,?_,?_⟩
 ·by_cases hRn:R=[]
  ·rw [hRn] at hcat
   exact .inr (List.append_eq_nil_iff.1 hcat)
  ·refine .inl ?_
   obtain ⟨x,hx⟩:=List.exists_mem_of_ne_nil R hRn
   have hxK:=(H.mem x).1 (hRK x hx)
   obtain ⟨j,hj,hji,h1,h2⟩:=Zg8.1 hxK.1
   have gj:=hg _ (List.getElem_mem hj)
   have hxs:=(Zat gj.1 gj.2 _ _).1 h2
   have hsp:=Zgs gj h2
   have hrj:=Zgt gj h2
   have hax:=hR x hx
   have hord:kV N[j].k<kV N[i].k\/(kV N[j].k=kV N[i].k/\N[j].k.n<N[i].k.n):=(Zct gj.2 gi.2).1 (List.pairwise_iff_getElem.1 hN j i hj hi hji)
   obtain ⟨j0,j1,j2⟩:=(Za1 _ _ _ gj.2).1 hrj
   obtain ⟨i0,i1,i2⟩:=(Za1 _ _ _ gi.2).1 hri
   have hle:N[j].k.n<=N[i].k.n:=by
    rcases hord with h3 | ⟨-,h3⟩
    ·by_cases h4:N[j].k.n<=N[i].k.n
     ·exact h4
     ·exfalso
      have e:2^(128-N[i].k.n.toNat)=2^(128-N[j].k.n.toNat)*2^(N[j].k.n.toNat-N[i].k.n.toNat):=by rw [<-Nat.pow_add];congr 1;omega
      obtain ⟨vi,hvi⟩:=i2
      obtain ⟨vj,hvj⟩:=j2
      have hvi:kV N[i].k=2^(128-N[j].k.n.toNat)*(2^(N[j].k.n.toNat-N[i].k.n.toNat)*vi):=by unfold kV;rw [hvi,e,Nat.mul_assoc]
      have hvj:kV N[j].k=2^(128-N[j].k.n.toNat)*vj:=hvj
      have p:0<2^(128-N[j].k.n.toNat):=Nat.two_pow_pos _
      generalize 2^(128-N[j].k.n.toNat)=w at *
      generalize 2^(N[j].k.n.toNat-N[i].k.n.toNat)*vi=z at *
      rw [hvi,hvj] at h3
      have h5:vj<z:=Nat.lt_of_mul_lt_mul_left h3
      have h6:w*(vj+1)<=w*z:=Nat.mul_le_mul_left w h5
      rw [Nat.mul_add,Nat.mul_one] at h6
      omega
    ·omega
   have hend:kV N[i].k+2^(128-N[i].k.n.toNat)<=kV N[j].k+2^(128-N[j].k.n.toNat):=by
    have e:2^(128-N[j].k.n.toNat)=2^(128-N[i].k.n.toNat)*2^(N[i].k.n.toNat-N[j].k.n.toNat):=by rw [<-Nat.pow_add];congr 1;omega
    obtain ⟨vi,hvi⟩:=i2
    obtain ⟨vj,hvj⟩:=j2
    have hlt:kV N[i].k<kV N[j].k+2^(128-N[j].k.n.toNat):=by omega
    have hvi:kV N[i].k=2^(128-N[i].k.n.toNat)*vi:=hvi
    have hvj:kV N[j].k=2^(128-N[i].k.n.toNat)*(2^(N[i].k.n.toNat-N[j].k.n.toNat)*vj):=by unfold kV;rw [hvj,e,Nat.mul_assoc]
    rw [e] at hlt ⊢
    rw [hvi,hvj] at hlt ⊢
    generalize 2^(128-N[i].k.n.toNat)=w at *
    generalize 2^(N[i].k.n.toNat-N[j].k.n.toNat)=z at *
    rw [<-Nat.mul_add] at hlt ⊢
    have h5:vi<z*vj+z:=Nat.lt_of_mul_lt_mul_left hlt
    have h6:w*(vi+1)<=w*(z*vj+z):=Nat.mul_le_mul_left w h5
    rw [Nat.mul_add,Nat.mul_one] at h6
    exact h6
   have hUK:∀q∈sprK N[i].k high,∃y∈Mm,y.k=q:=fun q hq=>by
    have hqs:=(Zat gi.1 gi.2 _ _).1 hq
    have hqp:=Zgs gi hq
    have hqj:q∈sprK N[j].k high:=(Zat gj.1 gj.2 _ _).2 ⟨hxs.1,hxs.2.1,hxs.2.2.1,hqs.2.2.2.1,hqs.2.2.2.2.1,hqs.2.2.2.2.2.1,hqs.2.2.2.2.2.2.1,(Zmw gj.2 hrj hqs.2.2.2.2.2.1).2 ⟨by show kV N[j].k<=kV q;omega,by show kV q<_;omega⟩⟩
    have hyK:(⟨q,(hopJ N low q i).getD 0⟩:Rt)∈K:=(H.mem _).2 ⟨Zg8.2 ⟨j,hj,hji,h1,hqj⟩,rfl⟩
    rw [hKe] at hyK
    rcases List.mem_append.1 hyK with h3 | h3
    ·exact absurd hq (hPU _ h3)
    ·rcases List.mem_append.1 h3 with h3 | h3
     ·exact ⟨_,h3,rfl⟩
     ·exact absurd hq (hSU _ h3)
   have he:Mm.map (fun x=>(⟨x.k,0⟩:Rt))=(sprK N[i].k high).map fun q=>⟨q,0⟩:=by
    refine Zbt (Zun hsMS.1 0) (Zk2 gi high 0) fun q => ?_
    simp only [List.mem_map]
    constructor
    ·rintro ⟨x,hx,rfl⟩
     exact ⟨x.k,hMU x hx,rfl⟩
    ·rintro ⟨k,hk,rfl⟩
     obtain ⟨y,hy,rfl⟩:=hUK k hk
     exact ⟨y,hy,rfl⟩
   have:=congrArg (List.map Rt.k) he
   simpa [List.map_map,Function.comp_def] using this
 ·-- sorted
  have gP:∀x∈P,x.k.good:=fun x hx=>(hK x (by rw [hKe];simp [hx])).2.1
  have gS:∀x∈S,x.k.good:=fun x hx=>(hK x (by rw [hKe];simp [hx])).2.1
  refine List.pairwise_append.2 ⟨hsP.1,List.pairwise_append.2 ⟨Zk2 gi high _,hsMS.2.1,?_⟩,?_⟩
  ·intro a ha b hb
   obtain ⟨q,hq,rfl⟩:=List.mem_map.1 ha
   refine (Zct (Zf5 gi high hq).2 (gS b hb).2).2 (.inl ?_)
   have:=(Zgs gi hq).2
   have:=hhigh b hb
   show kV q<kV b.k
   omega
  ·intro a ha b hb
   rcases List.mem_append.1 hb with hb | hb
   ·obtain ⟨q,hq,rfl⟩:=List.mem_map.1 hb
    refine (Zct (gP a ha).2 (Zf5 gi high hq).2).2 (.inl ?_)
    have:=(Zgs gi hq).1
    have:=hP a ha
    show kV a.k<kV q
    omega
   ·exact hsP.2.2 a ha b (List.mem_append.2 (.inr hb))
 ·-- its members
  intro q
  rw [hin]
  unfold insB at hc
  simp only [Bool.and_eq_true,decide_eq_true_eq] at hc
  have hno:∀x∈K,x.k∉sprK N[i].k high->hopJ N low x.k (i+1)=hopJ N low x.k i:=fun x hx hx2=>by
   refine Zrf hi ?_
   obtain ⟨x1,x2,x3⟩:=hK x hx
   cases hcd:Za8 x.k.h x.k.l low x.k.n N[i] with
   | false=>rfl
   | true=>
    unfold Za8 at hcd
    simp only [Bool.and_eq_true,decide_eq_true_eq] at hcd
    exact absurd ((Zat gi.1 gi.2 _ _).2 ⟨hs0.1,hs0.2.1,hs0.2.2.1,x1,x2.1,x2.2,x3,hcd.2.2⟩) hx2
  have hyes:∀k∈sprK N[i].k high,hopJ N low k (i+1)=some N[i].v:=fun k hk=>by
   have hks:=(Zat gi.1 gi.2 _ _).1 hk
   refine Z23 hN hks.2.2.2.2.2.1 hi ?_
   unfold Za8
   rw [hks.2.2.2.1,hks.2.2.2.2.2.2.2,decide_eq_true hc.1,decide_eq_true hc.2]
   rfl
  constructor
  ·intro hq
   have hold:q∈K->q.k∉sprK N[i].k high->q.k∈Zbd (N.take i) low high++sprK N[i].k high/\q.v=(hopJ N low q.k (i+1)).getD 0:=fun h1 h2=>by
    have h3:=(H.mem q).1 h1
    exact ⟨List.mem_append.2 (.inl h3.1),by rw [hno q h1 h2];exact h3.2⟩
   rcases List.mem_append.1 hq with hq | hq
   ·exact hold (by rw [hKe];simp [hq]) (hPU q hq)
   ·rcases List.mem_append.1 hq with hq | hq
    ·obtain ⟨k,hk,rfl⟩:=List.mem_map.1 hq
     exact ⟨List.mem_append.2 (.inr hk),by rw [hyes k hk];rfl⟩
    ·exact hold (by rw [hKe];simp [hq]) (hSU q hq)
  ·rintro ⟨h1,h2⟩
   by_cases hqU:q.k∈sprK N[i].k high
   ·rw [hyes _ hqU] at h2
    refine List.mem_append.2 (.inr (List.mem_append.2 (.inl (List.mem_map.2 ⟨q.k,hqU,?_⟩))))
    obtain ⟨k,v⟩:=q
    exact congrArg _ h2.symm
   ·rcases List.mem_append.1 h1 with h1 | h1
    ·have hd:hopJ N low q.k (i+1)=hopJ N low q.k i:=by
      have:=hno ⟨q.k,(hopJ N low q.k i).getD 0⟩ ((H.mem _).2 ⟨h1,rfl⟩) hqU
      exact this
     rw [hd] at h2
     have h3:=(H.mem q).2 ⟨h1,h2⟩
     rw [hKe] at h3
     rcases List.mem_append.1 h3 with h3 | h3
     ·exact List.mem_append.2 (.inl h3)
     ·rcases List.mem_append.1 h3 with h3 | h3
      ·exact absurd (hMU q h3) hqU
      ·exact List.mem_append.2 (.inr (List.mem_append.2 (.inr h3)))
    ·exact absurd h1 hqU
theorem Zlb:∀{L M:List Ky},L.Nodup->(∀k∈L,k∈M)->L.length<=M.length
 | [],_,_,_=>Nat.zero_le _
 | a::L,M,hn,h=>by
  have ha:=h a List.mem_cons_self
  have h2:=List.nodup_cons.1 hn
  have:=Zlb (M:=M.erase a) h2.2 fun k hk=>(List.mem_erase_of_ne (fun e=>h2.1 (by rw [<-e];exact hk))).2 (h k (List.mem_cons_of_mem _ hk))
  rw [List.length_erase_of_mem ha] at this
  have hp:0<M.length:=List.length_pos_of_mem ha
  simp only [List.length_cons]
  omega
theorem InvS.len {N:List Rt} (hg:∀r∈N,r.k.good) {low high:Int} {i:Nat} {K:List Rt} (H:InvS N low high i K) (hi:i<=N.length):K.length<=256*i:=by
 have h:=Zlb (L:=Zad K) (M:=Zbd (N.take i) low high) H.sorted.nodup fun k hk=>by
  unfold Zad at hk
  obtain ⟨q,hq,rfl⟩:=List.mem_map.1 hk
  exact ((H.mem q).1 hq).1
 unfold Zad at h
 rw [List.length_map] at h
 have:=Zew N low high hg i hi
 omega
end
section
open Go Go.RowKit Go.Sort M
def Zgk (n:Int):Nat:=if n<0 then 0 else if 8<n then 8 else n.toNat
theorem Z33 (n:Int):Zgk n<=8:=by unfold Zgk;split<;>(try split)<;>omega
def dirK (L:List Rt) (ah al m:Nat):Option Int:=hopK (Zap L) (-1) (cutK ah al m)
def dirV (L:List Rt) (ah al m:Nat):Int:=(dirK L ah al m).getD 0
def dirA (L:List Rt) (ah al m:Nat):Value := .tuple #[.int .i64 (dirV L ah al m),.bool (dirK L ah al m).isSome]
structure DirC (A:World->(Nat->Prop)->Nat->Nat->List Rt->Prop):Prop where
 new:∀(n:Int) (w:World),Calls Tryz.prog 24 #[.int .i64 n] w fun e w'=>∃t,e = .returned (.pointer (some ⟨t,0,none⟩))/\Below w.heap.size w w'/\A w' (In w.heap.size w'.heap.size) t (Zgk n) []
 fill:∀(w:World) (K:Nat->Prop) (t m:Nat) (L0 L:List Rt) (p:Option Addr) (c:Nat),A w K t m L0->Row w p (rcs L)->(∀x∈L,x.k.good)->(p=none->c=0)->L.length<=c->L.length<=4000 ->
  Calls Tryz.prog 59 #[.pointer (some ⟨t,0,none⟩),.slice p L.length c] w fun e w'=>e = .returned (.tuple #[])/\∃K',A w' K' t m L/\Touch K w w'/\∀g,K' g->K g\/In w.heap.size w'.heap.size g
 get:∀(w:World) (K:Nat->Prop) (t m:Nat) (L:List Rt) (ah al:Nat),A w K t m L->W64 ah->W64 al ->
  Calls Tryz.prog 40 #[.pointer (some ⟨t,0,none⟩),.agg #[.int .u64 (ah:Int),.int .u64 (al:Int)]] w fun e w'=>e = .returned (dirA L ah al m)/\Below w.heap.size w w'
 len:∀(w:World) (K:Nat->Prop) (t m:Nat) (L:List Rt),A w K t m L->Calls Tryz.prog 69 #[.pointer (some ⟨t,0,none⟩)] w fun e w'=>e = .returned (.int .i64 ((2^m:Nat):Int))/\Below w.heap.size w w'
 touched:∀(w w':World) (K S:Nat->Prop) (t m:Nat) (L:List Rt),A w K t m L->Touch S w w'->(∀g,K g->¬S g)->A w' K t m L
theorem DirC.below {A:World->(Nat->Prop)->Nat->Nat->List Rt->Prop} (D:DirC A) {w w':World} {K:Nat->Prop} {t m:Nat} {L:List Rt} (h:A w K t m L) (hb:Below w.heap.size w w'):A w' K t m L:=
 D.touched w w' K (fun _=>False) t m L h (Touch.quiet hb) (fun _ _ x=>x)
theorem Z6p (ah al m:Nat):dirK [] ah al m=none:=by
 unfold dirK hopK
 rfl
theorem cap8 (n:Int):(if n<0 then (0:Int) else if 8<n then 8 else n)=(Zgk n:Int):=by
 unfold Zgk
 split
 ·rfl
 ·split
  ·rfl
  ·omega
def numA (ah m:Nat):Nat:=ah/2^(64-m)
theorem Zq3 {ah m:Nat} (h:W64 ah) (hm:m<=64):numA ah m<2^m:=by
 unfold numA
 rw [Nat.div_lt_iff_lt_mul (Nat.two_pow_pos _),<-Nat.pow_add,show m+(64-m)=64 by omega]
 exact h
theorem Z5x {m i:Nat}:numA (i*2^(64-m)) m=i:=Nat.mul_div_cancel _ (Nat.two_pow_pos _)
theorem Z76 {m i:Nat} (hm:m<=64) (hi:i<2^m):W64 (i*2^(64-m)):=by
 show i*2^(64-m)<2^64
 have:=Nat.mul_lt_mul_of_pos_right hi (Nat.two_pow_pos (64-m))
 rwa [<-Nat.pow_add,show m+(64-m)=64 by omega] at this
theorem Zz8 {ah al m:Nat} (hb:W64 al) (hm:m<=8):cutK ah al m=cutK (numA ah m*2^(64-m)) 0 m:=by
 unfold cutK
 rw [show m-64=0 by omega,Ze3 al hb,Ze3 0 (by decide)]
 unfold cutW numA
 rw [Nat.mul_div_cancel _ (Nat.two_pow_pos _)]
theorem Z5w (ah m:Nat):numA (cutW ah m) m=numA ah m:=by
 unfold cutW numA
 rw [Nat.mul_div_cancel _ (Nat.two_pow_pos _)]
theorem Zz2 {ah al m:Nat} (L:List Rt) (hb:W64 al) (hm:m<=8):dirK L ah al m=dirK L (numA ah m*2^(64-m)) 0 m:=by
 unfold dirK
 rw [Zz8 hb hm]
theorem Zy5 {N:List Rt} (hg:∀r∈N,W64 r.k.h/\W64 r.k.l) {ah al m:Nat} (ha:W64 ah) (hb:W64 al) (hm:m<=8):cutK ah al m∈Zbd N (-1) (m:Int)↔∃r∈N,Za8 ah al (-1) (m:Int) r=true:=by
 unfold Zbd
 simp only [List.mem_flatMap,List.mem_filter]
 refine exists_congr fun r => ?_
 constructor
 ·rintro ⟨⟨hr,hi⟩,hk⟩
  refine ⟨hr,?_⟩
  unfold insB at hi
  simp only [Bool.and_eq_true,decide_eq_true_eq] at hi
  have h:=((Zat (hg r hr).1 (hg r hr).2 _ _).1 hk).2.2.2.2.2.2.2
  unfold cutK at h
  simp only at h
  rw [Zde r ah al m hi.2] at h
  unfold Za8
  simp [hi.1,hi.2,h]
 ·rintro ⟨hr,hc⟩
  unfold Za8 at hc
  simp only [Bool.and_eq_true,decide_eq_true_eq] at hc
  obtain ⟨c1,c2,c3⟩:=hc
  refine ⟨⟨hr,by unfold insB;simp [c1,c2]⟩,(Zat (hg r hr).1 (hg r hr).2 _ _).2 ⟨c2,by omega,by omega,rfl,ha.cut _,hb.cut _,?_,?_⟩⟩
  ·have:=Zn3 ah al (m:Int) (by omega) (by omega)
   simpa [cutK] using this
  ·show hasB _ _ _ (cutW ah m) (cutW al (m-64))=true
   rw [Zde r ah al m c2]
   exact c3
theorem Z3l {N:List Rt} (hg:∀r∈N,W64 r.k.h/\W64 r.k.l) {ah al m:Nat} (ha:W64 ah) (hb:W64 al) (hm:m<=8):(hopK N (-1) (cutK ah al m)).isSome=true↔cutK ah al m∈Zbd N (-1) (m:Int):=by
 rw [Zy5 hg ha hb hm,<-Zyw]
 unfold hopK
 rw [Option.isSome_map,Zt0]
def PlOk (M:List Rt) (m j:Nat) (xs:List Value):Prop:=xs.length=2^m*2/\∀i,i<2^m->∃(v:Int) (b:Bool),xs[i*2]? = some (.int .i64 v)/\xs[i*2+1]? = some (.bool b) /\
 (((∃r∈M.take j,numA r.k.h m=i/\r.v=v)/\b=true)\/((∀r∈M.take j,numA r.k.h m≠i)/\v=0/\b=false))
theorem PlOk.start (M:List Rt) (m:Nat):PlOk M m 0 (madeCells #[.int .i64 0,.bool false] (2^m*2)).toList:=by
 refine ⟨by simp [madeCells],fun i hi=>⟨0,false,?_,?_,.inr ⟨by simp,rfl,rfl⟩⟩⟩
 ·have:i*2<2^m*2:=by omega
  simp [madeCells,this]
 ·have:i*2+1<2^m*2:=by omega
  simp [madeCells,this]
theorem PlOk.next {M:List Rt} {m j:Nat} {xs:List Value} (H:PlOk M m j xs) (hj:j<M.length) (hn:numA M[j].k.h m<2^m) :
 PlOk M m (j+1) ((xs.set (numA M[j].k.h m*2) (.int .i64 M[j].v)).set (numA M[j].k.h m*2+1) (.bool true)):=by
 obtain ⟨hl,H⟩:=H
 refine ⟨by simpa using hl,fun i hi => ?_⟩
 have htk:=List.take_succ_eq_append_getElem hj
 rw [htk]
 by_cases e:numA M[j].k.h m=i
 ·subst e
  refine ⟨M[j].v,true,?_,?_,.inl ⟨⟨M[j],List.mem_append_right _ (List.mem_singleton.2 rfl),rfl,rfl⟩,rfl⟩⟩
  ·rw [List.getElem?_set_ne (by omega),List.getElem?_set_self (by omega)]
  ·rw [List.getElem?_set_self (by simp;omega)]
 ·obtain ⟨v,b,h1,h2,h3⟩:=H i hi
  refine ⟨v,b,?_,?_,?_⟩
  ·rw [List.getElem?_set_ne (by omega),List.getElem?_set_ne (by omega)]
   exact h1
  ·rw [List.getElem?_set_ne (by omega),List.getElem?_set_ne (by omega)]
   exact h2
  ·rcases h3 with ⟨⟨r,hr,h4⟩,h5⟩ | ⟨h4,h5⟩
   ·exact .inl ⟨⟨r,List.mem_append_left _ hr,h4⟩,h5⟩
   ·refine .inr ⟨fun r hr => ?_,h5⟩
    rcases List.mem_append.1 hr with hr | hr
    ·exact h4 r hr
    ·simp only [List.mem_singleton] at hr
     subst hr
     exact e
theorem PlOk.done {L:List Rt} (hg:∀x∈L,x.k.good) {m:Nat} (hm:m<=8) {xs:List Value} (H:PlOk (setS (Zap L) (-1) (m:Int)) m (setS (Zap L) (-1) (m:Int)).length xs) :
 ∀i,i<2^m->xs[i*2]? = some (.int .i64 (dirV L (i*2^(64-m)) 0 m))/\xs[i*2+1]? = some (.bool (dirK L (i*2^(64-m)) 0 m).isSome):=by
 intro i hi
 have hgN:∀r∈Zap L,r.k.good:=fun x hx=>hg x (Zc5 hx)
 have ha:W64 (i*2^(64-m)):=Z76 (by omega) hi
 have hz:W64 0:=W64.mk (by decide)
 obtain ⟨v,b,h1,h2,h3⟩:=H.2 i hi
 rw [List.take_of_length_le (Nat.le_refl _)] at h3
 have hsome:=Z3l hgN ha hz hm
 rcases h3 with ⟨⟨r,hr,h4,h5⟩,rfl⟩ | ⟨h4,rfl,rfl⟩
 ·obtain ⟨-,h6,h7⟩:=(Zdm _ _ _ _).1 hr
  obtain ⟨k1,k2,k3⟩:=Zy3 (low := -1) (high:=(m:Int)) (i:=(Zap L).length) hgN (by rw [List.take_of_length_le (Nat.le_refl _)];exact h6)
  have hk:r.k=cutK (i*2^(64-m)) 0 m:=by
   rw [<-h4,<-Zz8 k2.2 hm]
   obtain ⟨-,-,q1,q2⟩:=(Zds _ _ _).1 k3
   rw [Int.toNat_natCast] at q1 q2
   unfold cutK
   rw [q1,q2,<-k1]
  rw [hk] at h6 h7
  refine ⟨?_,?_⟩
  ·rw [h1,<-h5,h7]
   rfl
  ·rw [h2]
   unfold dirK
   rw [hsome.2 h6]
 ·have hno:dirK L (i*2^(64-m)) 0 m=none:=by
   unfold dirK
   cases e:hopK (Zap L) (-1) (cutK (i*2^(64-m)) 0 m) with
   | none=>rfl
   | some x=>
    have h6:=hsome.1 (by rw [e];rfl)
    refine absurd ?_ (h4 ⟨cutK (i*2^(64-m)) 0 m,hopV (Zap L) (-1) (cutK (i*2^(64-m)) 0 m)⟩ ((Zdm _ _ _ _).2 ⟨by omega,h6,rfl⟩))
    show numA (cutW _ m) m=i
    rw [Z5w,Z5x]
  unfold dirV
  rw [hno]
  exact ⟨h1,h2⟩
structure DirP (w:World) (K:Nat->Prop) (t m:Nat) (L:List Rt):Prop where
 kt:K t
 lt:t<w.heap.size
 le:m<=8
 bits:w.cell? ⟨t,0,none⟩=some (.int .i64 (m:Int))
 f:w.frozen? ⟨t,1,none⟩=false
 row:∃h,K h/\h<w.heap.size/\h≠t/\w.cell? ⟨t,1,none⟩=some (.slice (some ⟨h,0,none⟩) (2^m) (2^m)) /\
  ∀i,i<2^m->w.cell? ⟨h,i*2,none⟩=some (.int .i64 (dirV L (i*2^(64-m)) 0 m))/\w.cell? ⟨h,i*2+1,none⟩=some (.bool (dirK L (i*2^(64-m)) 0 m).isSome)
theorem DirP.touched {w w':World} {K S:Nat->Prop} {t m:Nat} {L:List Rt} (H:DirP w K t m L) (ht:Touch S w w') (hn:∀g,K g->¬S g):DirP w' K t m L:=by
 obtain ⟨h,k1,k2,k3,k4,k5⟩:=H.row
 refine ⟨H.kt,Nat.lt_of_lt_of_le H.lt ht.size,H.le,ht.cell H.bits (hn _ H.kt),?_,h,k1,Nat.lt_of_lt_of_le k2 ht.size,k3,ht.cell k4 (hn _ H.kt),fun i hi=>⟨ht.cell (k5 i hi).1 (hn _ k1),ht.cell (k5 i hi).2 (hn _ k1)⟩⟩
 rw [World.frozen?_of_block (ht.block t H.lt (hn _ H.kt))]
 exact H.f
end
end Go.Proofs.YtgfjmgebecmbiaaGreat

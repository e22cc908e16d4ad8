import Derived.Test.YtgfjmgebecmbiaaGreatM12c
set_option linter.unusedSimpArgs false
set_option linter.unusedVariables false
namespace Go.Proofs.YtgfjmgebecmbiaaGreat
section
open M
theorem Zra {T:Tab} (H:Inv T) {i:Nat} (hi:i<T.B.length) {j:Nat} (hj:j<(T.bk i).length) {r:Rt} (hg:r.k.good) (hh:i=T.x1 r.k\/i=T.x2 r.k) (hk:(Zad (Zae (T.set i ((T.bk i).set j (some r))))).Nodup):Inv (T.set i ((T.bk i).set j (some r))):=
 H.place hi hj (fun q e=>by injection e with e;subst e;exact ⟨hg,hh⟩) hk
structure Like (T T':Tab):Prop where
 s:T'.s=T.s
 n:T'.B.length=T.B.length
theorem Like.refl (T:Tab):Like T T:=⟨rfl,rfl⟩
theorem Like.trans {a b c:Tab} (h:Like a b) (k:Like b c):Like a c:=⟨k.s.trans h.s,k.n.trans h.n⟩
theorem Like.set (T:Tab) (i:Nat) (C:List Pl):Like T (T.set i C):=⟨rfl,Zci T i C⟩
theorem Like.x1 {T T':Tab} (h:Like T T') (k:Ky):T'.x1 k=T.x1 k:=by unfold Tab.x1;rw [h.s,h.n]
theorem Like.x2 {T T':Tab} (h:Like T T') (k:Ky):T'.x2 k=T.x2 k:=by unfold Tab.x2;rw [h.s,h.n]
theorem Zh3 (T:Tab) (k:Ky) (b:Nat):T.other k b=T.x1 k\/T.other k b=T.x2 k:=by
 unfold Tab.other
 split
 ·exact .inr rfl
 ·exact .inl rfl
theorem Inv.other_lt {T:Tab} (H:Inv T) (k:Ky) (b:Nat):T.other k b<T.B.length:=by
 rcases Zh3 T k b with h | h<;>rw [h]
 ·exact H.x1_lt k
 ·exact H.x2_lt k
structure Zkk (T:Tab) (r:Rt) (p:Tab×Option Rt):Prop where
 inv:Inv p.1
 like:Like T p.1
 st:p.1.st=T.st
 all:(p.2.toList++Zae p.1).Perm (r::Zae T)
theorem Zvz {T:Tab} (H:Inv T) {r:Rt} (he:r.k∉Zad (Zae T)):(Zad (r::Zae T)).Nodup:=by
 unfold Zad at *
 rw [List.map_cons,List.nodup_cons]
 exact ⟨he,H.keys⟩
theorem Zkk.left {T:Tab} (H:Inv T) {r q:Rt} {p:Tab×Option Rt} (h:Zkk T r p) (hg:r.k.good) (he:r.k∉Zad (Zae T)) (hq:p.2=some q):q.k.good/\q.k∉Zad (Zae p.1)/\(q::Zae p.1).Perm (r::Zae T):=by
 have ha:=h.all
 rw [hq] at ha
 have ha:(q::Zae p.1).Perm (r::Zae T):=ha
 refine ⟨?_,?_,ha⟩
 ·have:=ha.mem_iff.1 (List.mem_cons_self ..)
  rw [List.mem_cons] at this
  rcases this with rfl | h1
  ·exact hg
  ·exact H.good q h1
 ·have hn:=(Za6 ha).nodup_iff.2 (Zvz H he)
  unfold Zad at hn ⊢
  rw [List.map_cons,List.nodup_cons] at hn
  exact hn.1
theorem Zgj {T:Tab} (H:Inv T) {b:Nat} (hb:b<T.B.length) {r:Rt} (hg:r.k.good) (he:r.k∉Zad (Zae T)) (hh:b=T.x1 r.k\/b=T.x2 r.k) {C:List Pl} (h:putC (T.bk b) r.k r.v=some C):Zkk T r (T.set b C,none):=by
 have hm:(T.bk b).findIdx? (hasK r.k)=none:=by
  rcases Zbp (hasK r.k) (T.bk b) with ⟨i,hi,-,-,h3⟩ | ⟨h1,-⟩
  ·obtain ⟨q,e,hq⟩:=Zzd hi h3
   exact absurd (hq▸Zcd (Zir hb (e▸List.getElem_mem hi))) he
  ·exact h1
 obtain ⟨j,hj,rfl,hn⟩:=Zxw hm h
 have:=Z0f H hb hj hn he
 exact ⟨Zra H hb hj hg hh this.1,Like.set _ _ _,rfl,this.2⟩
theorem Zs7:∀(f i:Nat) (T:Tab) (b:Nat) (r:Rt),Inv T->b<T.B.length->r.k.good->r.k∉Zad (Zae T)->(b=T.x1 r.k\/b=T.x2 r.k)->putC (T.bk b) r.k r.v=none->Zkk T r (Zdo f i T b r)
 | 0,_,T,_,r,H,_,_,_,_,_=>⟨H,Like.refl T,rfl,List.Perm.refl _⟩
 | f+1,i,T,b,r,H,hb,hg,he,hh,hp=>by
  have h4:=H.four b hb
  obtain ⟨q,hq,hs⟩:=Zui (i:=i%4) (by rw [h4];exact Nat.mod_lt _ (by decide)) (Zoe hp).2 r.k r.v
  have ho:kOut T b i r=q:=by unfold kOut;rw [hs];rfl
  have ht:kTab T b i r=T.set b ((T.bk b).set (i%4) (some r)):=by unfold kTab;rw [hs];rfl
  have hj:i%4<(T.bk b).length:=by rw [h4];exact Nat.mod_lt _ (by decide)
  obtain ⟨c1,c2,c3⟩:=Z0d H hb hj hq he
  have H':=Zra H hb hj hg hh c1
  rw [<-ht] at H' c1 c2 c3
  have hl:Like T (kTab T b i r):=by rw [ht];exact Like.set _ _ _
  have hst:(kTab T b i r).st=T.st:=by rw [ht];rfl
  have hqg:q.k.good:=H.good q (Zir hb (hq▸List.getElem_mem hj))
  have hnb:=H'.other_lt q.k b
  have hnh:=Zh3 (kTab T b i r) q.k b
  have hN:kNew T b i r=(kTab T b i r).other q.k b:=by unfold kNew;rw [ho]
  unfold Zdo
  rw [ho,hN]
  cases e:putC ((kTab T b i r).bk ((kTab T b i r).other q.k b)) q.k q.v with
  | some C=>
   have:=Zgj H' hnb hqg c3 hnh e
   exact ⟨this.inv,hl.trans this.like,hst▸this.st,this.all.trans c2⟩
  | none=>
   have:=Zs7 f (i+1) (kTab T b i r) ((kTab T b i r).other q.k b) q H' hnb hqg c3 hnh e
   exact ⟨this.inv,hl.trans this.like,hst▸this.st,this.all.trans c2⟩
theorem Zfl {l:List Rt} {k:Ky} (h:(Zaw l k).isSome=false):k∉Zad l:=by
 intro hm
 unfold Zad at hm
 rw [List.mem_map] at hm
 obtain ⟨q,hq,rfl⟩:=hm
 cases e:Zaw l q.k with
 | none=>
  unfold Zaw at e
  have:=(List.findIdx?_eq_none_iff.1 e) q hq
  simp at this
 | some i=>rw [e] at h;cases h
theorem Zfk {l:List Rt} {k:Ky} (h:(Zaw l k).isSome=true):k∈Zad l:=by
 obtain ⟨i,e⟩:=Option.isSome_iff_exists.1 h
 unfold Zaw at e
 obtain ⟨hi,h1,-⟩:=List.findIdx?_eq_some_iff_getElem.1 e
 rw [decide_eq_true_eq] at h1
 exact h1▸Zcd (List.getElem_mem hi)
theorem Z0t {T:Tab} (H:Inv T) {k:Ky} (h1:(getC (T.bk (T.x1 k)) k).isSome=false) (h2:(getC (T.bk (T.x2 k)) k).isSome=false) (h3:(Zaw T.st k).isSome=false):k∉Zad (Zae T):=by
 intro hm
 unfold Zad at hm
 rw [List.mem_map] at hm
 obtain ⟨q,hq,rfl⟩:=hm
 rcases Z2e hq with ⟨i,hi,hb⟩ | hs
 ·have e1:getC (T.bk (T.x1 q.k)) q.k=none:=by simpa using h1
  have e2:getC (T.bk (T.x2 q.k)) q.k=none:=by simpa using h2
  rcases H.home i hi q hb with e | e
  ·exact Zi8 (Zpa e1) q (e▸hb) rfl
  ·exact Zi8 (Zpa e2) q (e▸hb) rfl
 ·exact Zfl h3 (Zcd hs)
theorem Zo1 {T:Tab} (H:Inv T) {q:Rt} (hg:q.k.good) (hf:q.k∉Zad (T.B.flatMap allC)):Inv { T with st:=Zao T.st q }/\(Zae { T with st:=Zao T.st q }).Perm (q::outS (Zae T) q.k):=by
 have hp:=Za7 q H.sort
 have hc:(Zae { T with st:=Zao T.st q }).Perm (q::outS (Zae T) q.k):=by
  unfold Zae
  have:outS (T.B.flatMap allC++T.st) q.k=T.B.flatMap allC++outS T.st q.k:=by
   unfold outS
   rw [List.filter_append]
   exact congrArg (· ++ _) (Zbm hf)
  rw [this]
  exact (hp.append_left _).trans List.perm_middle
 refine ⟨⟨H.lo,H.hi,H.four,H.word,fun r hr => ?_,H.home,?_,Zaq q H.sort⟩,hc⟩
 ·have:=hc.mem_iff.1 hr
  rw [List.mem_cons] at this
  rcases this with rfl | h
  ·exact hg
  ·exact H.good r (Zay.1 h).1
 ·refine (Za6 hc).nodup_iff.2 ?_
  unfold Zad
  rw [List.map_cons,List.nodup_cons]
  refine ⟨fun hm => ?_,?_⟩
  ·rw [List.mem_map] at hm
   obtain ⟨r,hr,e⟩:=hm
   exact (Zay.1 hr).2 e
  ·exact (H.keys.sublist (List.Sublist.map Rt.k List.filter_sublist))
theorem Z3f {T:Tab} (H:Inv T) {k:Ky} (h:k∈Zad T.st):k∉Zad (T.B.flatMap allC):=by
 intro hm
 have:=H.keys
 unfold Zae Zad at this
 rw [List.map_append,List.nodup_append] at this
 exact this.2.2 k hm k h rfl
theorem Z3e {T:Tab} {k:Ky} (h:k∉Zad (Zae T)):k∉Zad (T.B.flatMap allC):=by
 intro hm
 refine h ?_
 unfold Zae Zad at *
 rw [List.map_append]
 exact List.mem_append_left _ hm
theorem Zy8 {l:List Rt} {q:Rt} (h:Sorted l) (hm:q.k∈Zad l):(Zao l q).length=l.length:=by
 have h1:=(Za7 q h).length_eq
 unfold Zad at hm
 rw [List.mem_map] at hm
 obtain ⟨r,hr,e⟩:=hm
 have h2:=(Zc4 h.nodup hr).length_eq
 rw [e] at h2
 simp only [List.length_cons] at h1 h2
 omega
theorem Zvt {l:List Rt} {q:Rt} (h:Sorted l) (hm:q.k∉Zad l):(Zao l q).length=l.length+1:=by
 have h1:=(Za7 q h).length_eq
 rw [Zbm hm] at h1
 simpa using h1
structure Z68 (T:Tab) (r:Rt) (p:Tab×Option Rt):Prop where
 inv:Inv p.1
 like:Like T p.1
 st:p.1.st.length=T.st.length
 all:(p.2.toList++Zae p.1).Perm (r::outS (Zae T) r.k)
 left:∀q,p.2=some q->q.k.good/\q.k∉Zad (Zae p.1)/\r.k∉Zad (Zae T)/\(∀x∈T.bk (T.x1 r.k),x.isSome=true)
theorem Zsm {T:Tab} (H:Inv T) (r:Rt) (hg:r.k.good):Z68 T r (Zix T r):=by
 have hx1:=H.x1_lt r.k
 have hx2:=H.x2_lt r.k
 have same:∀b,b<T.B.length->(b=T.x1 r.k\/b=T.x2 r.k)->(getC (T.bk b) r.k).isSome=true->Z68 T r (T.set b ((putC (T.bk b) r.k r.v).getD (T.bk b)),none):=by
  intro b hb hh h
  obtain ⟨j,hj,hi,q,hq,hqk,-⟩:=Ze0 h
  rw [Zsn hi]
  have:=Z0e H hb hj hq hqk
  exact ⟨Zra H hb hj hg hh this.1,Like.set _ _ _,rfl,this.2,fun q hq=>by cases hq⟩
 unfold Zix
 split
 ·rename_i h
  exact same _ hx1 (.inl rfl) h
 ·rename_i h1
  split
  ·rename_i h
   exact same _ hx2 (.inr rfl) h
  ·rename_i h2
   split
   ·rename_i h3
    have:=Zo1 H hg (Z3f H (Zfk h3))
    exact ⟨this.1,⟨rfl,rfl⟩,Zy8 H.sort (Zfk h3),this.2,fun q hq=>by cases hq⟩
   ·rename_i h3
    rw [Bool.not_eq_true] at h1 h2 h3
    have he:=Z0t H h1 h2 h3
    have ho:=Zbm he
    have conv:∀p:Tab×Option Rt,Zkk T r p->(p.2=none\/∀x∈T.bk (T.x1 r.k),x.isSome=true)->Z68 T r p:=fun p hb hf=>
     ⟨hb.inv,hb.like,by rw [hb.st],by rw [ho];exact hb.all,fun q hq=>⟨(hb.left H hg he hq).1,(hb.left H hg he hq).2.1,he,by
      rcases hf with hf | hf
      ·rw [hf] at hq;cases hq
      ·exact hf⟩⟩
    cases e1:putC (T.bk (T.x1 r.k)) r.k r.v with
    | some C=>exact conv _ (Zgj H hx1 hg he (.inl rfl) e1) (.inl rfl)
    | none=>
     simp only
     cases e2:putC (T.bk (T.x2 r.k)) r.k r.v with
     | some C=>exact conv _ (Zgj H hx2 hg he (.inr rfl) e2) (.inl rfl)
     | none=>exact conv _ (Zs7 16 0 T (T.x2 r.k) r H hx2 hg he (.inr rfl) e2) (.inr (Zoe e1).2)
structure Z80 (T:Tab) (r:Rt) (p:Tab×Bool):Prop where
 inv:Inv p.1
 like:Like T p.1
 all:(Zae p.1).Perm (r::outS (Zae T) r.k)
 no:p.2=false->p.1.st.length=T.st.length
 yes:p.2=true->p.1.st.length=T.st.length+1/\r.k∉Zad (Zae T)/\(∀x∈T.bk (T.x1 r.k),x.isSome=true)
theorem Zhu {T:Tab} (H:Inv T) (r:Rt) (hg:r.k.good):Z80 T r (stay T r):=by
 have h:=Zsm H r hg
 unfold stay
 cases e:(Zix T r).2 with
 | none=>
  have ha:=h.all
  rw [e] at ha
  exact ⟨h.inv,h.like,ha,fun _=>h.st,fun x=>by cases x⟩
 | some q=>
  have ha:=h.all
  rw [e] at ha
  obtain ⟨l1,l2,l3,l4⟩:=h.left q e
  have hs:=Zo1 h.inv l1 (Z3e l2)
  rw [Zbm l2] at hs
  refine ⟨hs.1,⟨h.like.s,h.like.n⟩,hs.2.trans ha,fun x=>(by simp at x),fun _=>⟨?_,l3,l4⟩⟩
  have:q.k∉Zad (Zix T r).1.st:=by
   intro hm
   refine l2 ?_
   unfold Zae Zad at *
   rw [List.map_append]
   exact List.mem_append_right _ hm
  show (Zao (Zix T r).1.st q).length=_
  rw [Zvt h.inv.sort this,h.st]
theorem Zm1 (s n i:Nat) (h:i<n):(Zbq s n).bk i=[none,none,none,none]:=by
 rw [Zrw _ i (by simpa [Zbq] using h)]
 simp [Zbq]
theorem Zb8 (s n:Nat):Zae (Zbq s n)=[]:=by
 unfold Zae Zbq
 rw [List.append_nil]
 refine List.flatMap_eq_nil_iff.2 fun C hC => ?_
 rw [List.eq_of_mem_replicate hC]
 rfl
theorem Zkc {s n:Nat} (hs:W64 s) (h1:1<=n) (h2:n<=65536):Inv (Zbq s n):=by
 have hl:(Zbq s n).B.length=n:=by simp [Zbq]
 refine ⟨by omega,by omega,fun i hi=>by rw [Zm1 s n i (by omega)];rfl,hs,fun r hr => ?_,fun i hi r hr => ?_,?_,List.Pairwise.nil⟩
 ·rw [Zb8] at hr;cases hr
 ·rw [Zm1 s n i (by omega)] at hr;simp at hr
 ·rw [Zb8];exact List.nodup_nil
structure Zp1 (T:Tab) (r:Rt) (T':Tab):Prop where
 inv:Inv T'
 all:(Zae T').Perm (r::outS (Zae T) r.k)
 len:T.B.length<=T'.B.length
theorem Zrm {f:Tab->Rt->Tab} (hf:∀T r,Inv T->r.k.good->Zp1 T r (f T r)):∀(l:List Rt) (T:Tab),Inv T->(∀r∈l,r.k.good)->(Zad (l++Zae T)).Nodup->Inv (l.foldl f T)/\(Zae (l.foldl f T)).Perm (l++Zae T)/\T.B.length<=(l.foldl f T).B.length
 | [],T,H,_,_=>⟨H,List.Perm.refl _,Nat.le_refl _⟩
 | a::l,T,H,hg,hn=>by
  have h:=hf T a H (hg a (by simp))
  have hk:a.k∉Zad (Zae T):=by
   unfold Zad at *
   rw [List.cons_append,List.map_cons,List.nodup_cons] at hn
   exact fun hm=>hn.1 (by rw [List.map_append];exact List.mem_append_right _ hm)
  have ha:=h.all
  rw [Zbm hk] at ha
  have hpp:(l++Zae (f T a)).Perm (a::l++Zae T):=(ha.append_left l).trans List.perm_middle
  have ih:=Zrm hf l (f T a) h.inv (fun r hr=>hg r (by simp [hr])) ((Za6 hpp).nodup_iff.2 hn)
  exact ⟨ih.1,ih.2.1.trans hpp,Nat.le_trans h.len ih.2.2⟩
theorem Zns {T:Tab} (H:Inv T) (r:Rt) (hg:r.k.good):Zp1 T r (stay T r).1:=by
 have h:=Zhu H r hg
 exact ⟨h.inv,h.all,by rw [h.like.n];exact Nat.le_refl _⟩
theorem Zj9 {T:Tab} (H:Inv T):Inv (grown T)/\(grown T).B.length=min (2*T.B.length) 65536:=by
 have:=H.lo
 have:=H.hi
 refine ⟨Zkc (Zdl _) (by omega) (by omega),?_⟩
 simp [grown,Zbq]
theorem Zqr:∀(d:Nat) (T:Tab) (r:Rt),Inv T->r.k.good->Zp1 T r (putF d T r)
 | 0,T,r,H,hg=>Zns H r hg
 | d+1,T,r,H,hg=>by
  have h:=Zhu H r hg
  unfold putF
  split
  ·have hG:=Zj9 h.inv
   have he:Zae (grown (stay T r).1)=[]:=Zb8 _ _
   have:=Zrm (f:=putF d) (fun T r H hg=>Zqr d T r H hg) (Zae (stay T r).1) (grown (stay T r).1) hG.1 (fun q hq=>h.inv.good q hq) (by rw [he,List.append_nil];exact h.inv.keys)
   rw [he,List.append_nil] at this
   refine ⟨this.1,this.2.1.trans h.all,?_⟩
   have h1:=this.2.2
   rw [hG.2] at h1
   have h2:=h.like.n
   have h3:=H.hi
   omega
  ·exact Zns H r hg
end
section
namespace M
def dg (b:Nat):List Nat->Nat
 | []=>0
 | a::l=>2^b*dg b l+a
theorem Z8m {b:Nat}:∀{l:List Nat},(∀a∈l,a<2^b)->dg b l<2^(b*l.length)
 | [],_=>by simp [dg]
 | a::l,h=>by
  have h1:=h a (by simp)
  have h2:=Z8m (b:=b) (l:=l) (fun x hx=>h x (by simp [hx]))
  rw [List.length_cons,Nat.mul_add,Nat.mul_one,Nat.pow_add]
  show 2^b*dg b l+a<_
  have:2^b*(dg b l+1)<=2^b*2^(b*l.length):=Nat.mul_le_mul_left _ h2
  rw [Nat.mul_add,Nat.mul_one] at this
  rw [Nat.mul_comm (2^(b*l.length))]
  omega
theorem Z8n {b:Nat}:∀{l:List Nat} (k:Nat) (hk:k<l.length),(∀a∈l,a<2^b)->dg b l/2^(b*k)%2^b=l[k]
 | a::l,0,_,h=>by
  have h1:=h a (by simp)
  simp only [Nat.mul_zero,Nat.pow_zero,Nat.div_one,List.getElem_cons_zero]
  show (2^b*dg b l+a)%2^b=a
  rw [Nat.mul_add_mod,Nat.mod_eq_of_lt h1]
 | a::l,k+1,hk,h=>by
  have h1:=h a (by simp)
  have h2:=Z8n (b:=b) (l:=l) k (by simpa using hk) (fun x hx=>h x (by simp [hx]))
  rw [Nat.mul_add,Nat.mul_one,Nat.add_comm (b*k),Nat.pow_add,<-Nat.div_div_eq_div_mul]
  show (2^b*dg b l+a)/2^b/_%_=_
  rw [Nat.mul_add_div (Nat.two_pow_pos b),Nat.div_eq_of_lt h1,Nat.add_zero,h2]
  simp
theorem Z4x {b:Nat}:∀{l:List Nat} (k v:Nat) (hk:k<l.length),dg b (l.set k v)+l[k]*2^(b*k)=dg b l+v*2^(b*k)
 | a::l,0,v,_=>by
  show 2^b*dg b l+v+a*_=2^b*dg b l+a+v*_
  simp
  omega
 | a::l,k+1,v,hk=>by
  have h2:=Z4x (b:=b) (l:=l) k v (by simpa using hk)
  show 2^b*dg b (l.set k v)+a+(a::l)[k+1]*_=2^b*dg b l+a+v*_
  rw [List.getElem_cons_succ,Nat.mul_add,Nat.mul_one,Nat.add_comm (b*k),Nat.pow_add]
  have:2^b*(dg b (l.set k v)+l[k]'(by simpa using hk)*2^(b*k))=2^b*(dg b l+v*2^(b*k)):=by rw [h2]
  rw [Nat.mul_add,Nat.mul_add] at this
  have e1:∀x:Nat,x*(2^b*2^(b*k))=2^b*(x*2^(b*k)):=fun x=>by rw [Nat.mul_left_comm]
  rw [e1,e1]
  omega
def popN:Nat->Nat->Nat
 | 0,_=>0
 | k+1,x=>x%2+popN k (x/2)
def by1 (a:Nat):Nat:=(a/2 &&& 85)+(a &&& 85)
def by2 (a:Nat):Nat:=(a/4 &&& 51)+(a &&& 51)
def by3 (a:Nat):Nat:=a/16+a%16
theorem t1:∀(a:Fin 256) (c:Fin 2),(128*c.val+a.val/2) &&& 85=a.val/2 &&& 85/\by1 a.val<256:=by decide +kernel
theorem t2:∀(a:Fin 256) (c:Fin 4),(64*c.val+a.val/4) &&& 51=a.val/4 &&& 51/\by2 a.val<256:=by decide +kernel
theorem t3:∀a:Fin 256,by2 (by1 a.val)/16<=4/\by2 (by1 a.val)%16<=4/\by3 (by2 (by1 a.val))=popN 8 a.val:=by decide +kernel
theorem Z9i (a:Nat):a &&& 15=a%16:=Nat.and_two_pow_sub_one_eq_mod a 4
end M
namespace M
def nibL (C:List Nat) (j:Nat):List Nat:=(List.range 16).map fun i=>C.getD (16*j+i) 0
def Zf7 (C:List Nat) (j:Nat):Nat:=dg 4 (nibL C j)
def Zfv (C:List Nat):List Nat:=(List.range ((C.length+15)/16)).map (Zf7 C)
theorem Zg4 (C:List Nat) (j:Nat):(nibL C j).length=16:=by simp [nibL]
theorem Zjv (C:List Nat) (j i:Nat) (h:i<(nibL C j).length):(nibL C j)[i]=C.getD (16*j+i) 0:=by simp [nibL]
theorem getD_lt {C:List Nat} (h:∀c∈C,c<=15) (i:Nat):C.getD i 0<16:=by
 rw [List.getD_eq_getElem?_getD]
 by_cases hi:i<C.length
 ·rw [List.getElem?_eq_getElem hi]
  have:=h C[i] (List.getElem_mem hi)
  show C[i]<16
  omega
 ·rw [List.getElem?_eq_none (by omega)]
  decide
theorem Zyd {C:List Nat} (h:∀c∈C,c<=15) (j:Nat):∀a∈nibL C j,a<2^4:=by
 intro a ha
 unfold nibL at ha
 rw [List.mem_map] at ha
 obtain ⟨i,-,rfl⟩:=ha
 exact getD_lt h _
theorem Ziy {C:List Nat} (h:∀c∈C,c<=15) (j:Nat):Zf7 C j<18446744073709551616:=by
 have:=Z8m (Zyd h j)
 rwa [Zg4] at this
theorem Z03 {C:List Nat} (h:∀c∈C,c<=15) (k:Nat):Zf7 C (k/16)/2^(4*(k%16))%16=C.getD k 0:=by
 have hk:k%16<(nibL C (k/16)).length:=by rw [Zg4];omega
 have:=Z8n (k%16) hk (Zyd h (k/16))
 rw [Zjv,show 16*(k/16)+k%16=k by omega] at this
 exact this
theorem Ztj {C:List Nat} {k v i:Nat} (hk:k<C.length):(C.set k v).getD i 0=if i=k then v else C.getD i 0:=by
 rw [List.getD_eq_getElem?_getD,List.getElem?_set,List.getD_eq_getElem?_getD]
 split
 ·rename_i h
  subst h
  simp [hk]
 ·rename_i h
  rw [if_neg (fun e=>h e.symm)]
theorem Z17 (C:List Nat) (k v:Nat) (hk:k<C.length):nibL (C.set k v) (k/16)=(nibL C (k/16)).set (k%16) v:=by
 apply List.ext_getElem
 ·rw [List.length_set,Zg4,Zg4]
 ·intro i h1 h2
  rw [Zjv,Ztj hk,List.getElem_set]
  have:(16*(k/16)+i=k)↔(k%16=i):=by omega
  by_cases e:k%16=i
  ·rw [if_pos (this.2 e),if_pos e]
  ·rw [if_neg (fun x=>e (this.1 x)),if_neg e,Zjv]
theorem Z18 (C:List Nat) (k v j:Nat) (hk:k<C.length) (hj:j≠k/16):nibL (C.set k v) j=nibL C j:=by
 unfold nibL
 apply List.map_congr_left
 intro i hi
 rw [List.mem_range] at hi
 rw [Ztj hk,if_neg (by omega)]
theorem Znc (C:List Nat) (k v:Nat) (hk:k<C.length):Zf7 (C.set k v) (k/16)+C[k]*2^(4*(k%16))=Zf7 C (k/16)+v*2^(4*(k%16)):=by
 unfold Zf7
 rw [Z17 C k v hk]
 have hl:k%16<(nibL C (k/16)).length:=by rw [Zg4];omega
 have:=Z4x (b:=4) (k%16) v hl
 rw [Zjv,show 16*(k/16)+k%16=k by omega,List.getD_eq_getElem?_getD,List.getElem?_eq_getElem hk] at this
 exact this
theorem Zhn (C:List Nat):(Zfv C).length=(C.length+15)/16:=by simp [Zfv]
theorem Zef (C:List Nat) (j:Nat) (h:j<(C.length+15)/16):(Zfv C)[j]? = some (Zf7 C j):=by simp [Zfv,h]
theorem Zuc (C:List Nat) (k v:Nat) (hk:k<C.length):(Zfv C).set (k/16) (Zf7 (C.set k v) (k/16))=Zfv (C.set k v):=by
 apply List.ext_getElem?
 intro j
 rw [List.getElem?_set,Zhn]
 by_cases hj:j<(C.length+15)/16
 ·rw [Zef (C.set k v) j (by rw [List.length_set];exact hj)]
  by_cases e:k/16=j
  ·rw [if_pos e,if_pos (by omega),e]
  ·rw [if_neg e,Zef C j hj]
   unfold Zf7
   rw [Z18 C k v j hk (fun h=>e h.symm)]
 ·rw [List.getElem?_eq_none (l:=Zfv (C.set k v)) (by rw [Zhn,List.length_set];omega)]
  split
  ·rw [if_neg (by omega)]
  ·rw [List.getElem?_eq_none (by rw [Zhn];omega)]
theorem Zz4 (b:Nat):∀n,dg b (List.replicate n 0)=0
 | 0=>rfl
 | n+1=>by
  show 2^b*dg b (List.replicate n 0)+0=0
  rw [Zz4 b n]
  rfl
theorem Zp7 (n:Nat):Zfv (List.replicate n 0)=List.replicate ((n+15)/16) 0:=by
 unfold Zfv
 rw [List.length_replicate]
 apply List.ext_getElem?
 intro j
 by_cases hj:j<(n+15)/16
 ·simp only [List.getElem?_map,List.getElem?_range hj,Option.map_some]
  rw [List.getElem?_replicate,if_pos hj]
  congr 1
  unfold Zf7
  rw [show nibL (List.replicate n 0) j=List.replicate 16 0 from ?_,Zz4]
  apply List.ext_getElem
  ·simp [nibL]
  ·intro i h1 h2
   rw [Zjv,List.getElem_replicate,List.getD_eq_getElem?_getD,List.getElem?_replicate]
   split<;>rfl
 ·rw [List.getElem?_eq_none (by simp;omega),List.getElem?_eq_none (by simp;omega)]
def all4 (a:Nat):Nat:=if a=15 then 1 else 0
theorem t4:∀(a:Fin 16) (c:Fin 8),(((((a.val &&& (8*(c.val%2)+a.val/2)) &&& (4*(c.val%4)+a.val/4)) &&& (2*c.val+a.val/8)) &&& 1)=all4 a.val)/\popN 4 (all4 a.val)=all4 a.val:=by decide +kernel
end M
end
section
open Go.RowKit Go.Sort M
theorem andN (a b:Nat) (ha:a<18446744073709551616) (hb:b<18446744073709551616):bits BinOp.and IntKind.u64 (a:Int) (b:Int)=((a &&& b:Nat):Int):=bits_and_u64_nat a b ha hb
theorem wrapN (n:Nat) (h:n<18446744073709551616):IntKind.u64.wrap (n:Int)=(n:Int):=by
 rw [IntKind.wrap_u64]
 omega
theorem Zjq (i:Int) (h0:0<=i) (h1:i<=65536):Zak Tryz.prog 169 #[.int .i64 i] (.int .i64 (4*(i.toNat%16):Nat)):=by
 intro w
 go_enter Tryz.func169,Tryz.ntmps169
 go_wp2
 go_ret
 refine ⟨Zbb ?_,by go_grown⟩
 omega
end
section
open Go.RowKit Go.Sort
theorem Za3 {w w':World} (hb:Below w.heap.size w w'):w.grownBy w' none:=⟨hb.os,hb.tape,hb.output,hb.size,fun k hk _=>hb.block k hk⟩
end
end Go.Proofs.YtgfjmgebecmbiaaGreat

import Derived.Test.YtgfjmgebecmbiaaGreatM12c
import Derived.Test.YtgfjmgebecmbiaaGreatStb2
import Derived.Test.YtgfjmgebecmbiaaGreatW12a
set_option linter.unusedSimpArgs false
set_option linter.unusedVariables false
namespace Go.Proofs.YtgfjmgebecmbiaaGreat
section
open M
def kyP (p:Pf):Ky:=⟨hiW p.a,loW p.a,p.n⟩
def sprK (k:Ky) (m:Int):List Ky:=(Zd7 k.h k.l k.n m).map kyP
theorem Zos (a m n x:Nat):x∈Zfs a m n↔∃i,i<2^(n-m)/\x=a+i*2^(128-n):=by
 unfold Zfs
 rw [List.mem_map]
 constructor
 ·rintro ⟨i,hi,rfl⟩
  exact ⟨i,by simpa using hi,rfl⟩
 ·rintro ⟨i,hi,rfl⟩
  exact ⟨i,by simpa using hi,rfl⟩
theorem Zo6 (h l:Nat) (n:Int) (a b:Nat) (hh:hasB h l n a b=true):Zan h l n=true:=((Zth _ _ _ _ _).1 hh).1
theorem Zat {k:Ky} (g1:W64 k.h) (g2:W64 k.l) (q:Ky) (m:Int) :
 q∈sprK k m↔k.n<=m/\m<=128/\m-k.n<=8/\q.n=m/\W64 q.h/\W64 q.l/\Zan q.h q.l m=true/\hasB k.h k.l k.n q.h q.l=true:=by
 obtain ⟨kh,kl,kn⟩:=k
 unfold sprK
 simp only at *
 by_cases hc:Zan kh kl kn=true/\kn<=m/\m<=128/\m-kn<=8
 ·rw [Zh5 hc]
  obtain ⟨c1,c2,c3,c4⟩:=hc
  obtain ⟨r0,r1,r2⟩:=(Za1 _ _ _ g2).1 c1
  obtain ⟨n,rfl⟩:=Int.eq_ofNat_of_zero_le r0
  obtain ⟨M,rfl⟩:=Int.eq_ofNat_of_zero_le (show 0<=m by omega)
  simp only [Int.toNat_natCast] at r2 ⊢
  have hnM:n<=M:=by omega
  have hM2:M<=128:=by omega
  have hV:=g1.val g2
  unfold pfs
  rw [List.map_map,List.mem_map]
  constructor
  ·rintro ⟨x,hx,rfl⟩
   have hxw:=Z4t _ n M hnM hM2 hV r2 x hx
   obtain ⟨i,hi,rfl⟩:=(Zos _ _ _ _).1 hx
   refine ⟨by omega,by omega,by omega,rfl,hxw.1.hi,W128.lo,?_,?_⟩
   ·show Zan (hiW _) (loW _) _=true
    rw [Za1 _ _ _ W128.lo,Zwp]
    exact ⟨by omega,by omega,by simpa using hxw.2⟩
   ·show hasB kh kl _ (hiW _) (loW _)=true
    rw [Zmx _ _ _ _ _ g2 W128.lo,Zwp]
    exact ⟨c1,by simpa using Z8e _ n M i hnM hM2 r2 hi⟩
  ·rintro ⟨-,-,-,q1,q2,q3,q4,q5⟩
   obtain ⟨-,-,d1⟩:=(Za1 _ _ _ q3).1 q4
   have d2:=((Zmx _ _ _ _ _ g2 q3).1 q5).2
   simp only [Int.toNat_natCast] at d1 d2
   obtain ⟨X,hX⟩:∃X,X=val q.h q.l:=⟨_,rfl⟩
   rw [<-hX] at d1 d2
   refine ⟨X,(Zos _ _ _ _).2 ?_,?_⟩
   ·obtain ⟨y,hy⟩:=d1
    obtain ⟨v,hv⟩:=r2
    have e1:2^(128-n)=2^(128-M)*2^(M-n):=by rw [<-Nat.pow_add];congr 1;omega
    have p1:0<2^(128-n):=Nat.two_pow_pos _
    have p2:0<2^(128-M):=Nat.two_pow_pos _
    have p3:0<2^(M-n):=Nat.two_pow_pos _
    have d3:val kh kl/2^(128-n)=v:=by rw [hv,Nat.mul_div_cancel_left _ p1]
    rw [d3,hy,e1,Nat.mul_div_mul_left _ _ p2] at d2
    refine ⟨y%2^(M-n),Nat.mod_lt _ p3,?_⟩
    have h5:=Nat.div_add_mod y (2^(M-n))
    rw [d2] at h5
    rw [hv,e1,hy,Nat.mul_assoc,Nat.mul_comm (y%_),<-Nat.mul_add,h5]
   ·show (⟨hiW X,loW X,(M:Int)⟩:Ky)=q
    obtain ⟨a,b,c⟩:=q
    simp only at *
    rw [hX,Ztf _ _ q3,Zyv _ _ q3,q1]
 ·rw [Zlg hc]
  refine ⟨fun h=>(by cases h),fun h=>absurd ⟨Zo6 _ _ _ _ _ h.2.2.2.2.2.2.2,h.1,h.2.1,h.2.2.1⟩ hc⟩
def hopK (N:List Rt) (low:Int) (k:Ky):Option Int:=(lngI N (Za8 k.h k.l low k.n) N.length).map fun i=>(N.getD i ⟨⟨0,0,0⟩,0⟩).v
def hopV (N:List Rt) (low:Int) (k:Ky):Int:=(hopK N low k).getD 0
def insB (low high:Int) (r:Rt):Bool:=decide (low<r.k.n)&&decide (r.k.n<=high)
def Zbd (N:List Rt) (low high:Int):List Ky:=(N.filter (insB low high)).flatMap fun r=>sprK r.k high
def setS (N:List Rt) (low high:Int):List Rt:=if low<high then Zap ((Zbd N low high).map fun k=>⟨k,hopV N low k⟩) else []
theorem Zbt {L M:List Rt} (hL:Sorted L) (hM:Sorted M) (h:∀q,q∈L↔q∈M):L=M:=
 Zgv hL hM ((List.perm_ext_iff_of_nodup (Zdk hL) (Zdk hM)).2 h)
theorem Zlm (f:Ky->Int) (k:Ky):∀K:List Ky,((K.map fun k=>(⟨k,f k⟩:Rt)).filter fun r=>decide (r.k=k)).getLast? = if k∈K then some ⟨k,f k⟩ else none
 | []=>rfl
 | a::K=>by
  have ih:=Zlm f k K
  rw [List.map_cons,List.filter_cons]
  by_cases h:a=k
  ·subst h
   simp only [decide_true,if_true]
   rw [List.getLast?_cons,ih]
   by_cases h2:a∈K
   ·rw [if_pos h2,if_pos (List.mem_cons_self)]
    rfl
   ·rw [if_neg h2,if_pos (List.mem_cons_self)]
    rfl
  ·rw [if_neg (by simpa using h),ih]
   by_cases h2:k∈K
   ·rw [if_pos h2,if_pos (List.mem_cons_of_mem _ h2)]
   ·rw [if_neg h2,if_neg (fun e=>by rcases List.mem_cons.1 e with e | e;exact h e.symm;exact h2 e)]
theorem Znv (K:List Ky) (f:Ky->Int):Sorted (Zap (K.map fun k=>⟨k,f k⟩))/\∀q,q∈Zap (K.map fun k=>(⟨k,f k⟩:Rt))↔q.k∈K/\q.v=f q.k:=by
 obtain ⟨h1,h2⟩:=Za9 (K.map fun k=>(⟨k,f k⟩:Rt))
 refine ⟨h1,fun q => ?_⟩
 rw [h2]
 unfold lst
 rw [Zlm]
 obtain ⟨k,v⟩:=q
 by_cases h:k∈K
 ·rw [if_pos h]
  simp only [h,true_and]
  constructor
  ·intro e
   injection e with e
   injection e with _ e
   exact e.symm
  ·rintro rfl;rfl
 ·rw [if_neg h]
  simp [h]
theorem Zc1 (N:List Rt) (low high:Int):Sorted (setS N low high):=by
 unfold setS
 split
 ·exact (Znv _ _).1
 ·exact List.Pairwise.nil
theorem Zdm (N:List Rt) (low high:Int) (q:Rt):q∈setS N low high↔low<high/\q.k∈Zbd N low high/\q.v=hopV N low q.k:=by
 unfold setS
 by_cases h:low<high
 ·rw [if_pos h,(Znv _ _).2]
  simp [h]
 ·rw [if_neg h]
  simp [h]
theorem Z5f {M N:List Rt} {low high:Int} (hM:Sorted M) (h:∀q,q∈M↔low<high/\q.k∈Zbd N low high/\q.v=hopV N low q.k):M=setS N low high:=
 Zbt hM (Zc1 N low high) fun q=>by rw [h,Zdm]
theorem Zvk {L:List Rt} {k:Ky} {q:Rt}:q∈outS L k↔q∈L/\q.k≠k:=by unfold outS;rw [List.mem_filter];simp
theorem Zju {L:List Rt} (hn:(Zad L).Nodup) {a b:Rt} (ha:a∈L) (hb:b∈L) (h:a.k=b.k):a=b:=by
 have:=(Zc4 hn hb).mem_iff.1 ha
 rcases List.mem_cons.1 this with e | e
 ·exact e
 ·exact absurd h (Zvk.1 e).2
theorem Zej {L:List Rt} (h:Sorted L):Zap L=L:=by
 obtain ⟨h1,h2⟩:=Za9 L
 refine Zbt h1 h fun q => ?_
 rw [h2]
 have hn:=h.nodup
 constructor
 ·intro e
  unfold lst at e
  exact (List.mem_filter.1 (List.mem_of_getLast? e)).1
 ·intro hq
  unfold lst
  have hall:∀x∈L.filter (fun r=>decide (r.k=q.k)),x=q:=fun x hx=>by
   obtain ⟨h3,h4⟩:=List.mem_filter.1 hx
   have h4:x.k=q.k:=of_decide_eq_true h4
   exact Zju hn h3 hq h4
  cases hl:(L.filter fun r=>decide (r.k=q.k)).getLast? with
  | none=>
   have:=List.getLast?_eq_none_iff.1 hl
   have hm:q∈L.filter (fun r=>decide (r.k=q.k)):=List.mem_filter.2 ⟨hq,by simp⟩
   rw [this] at hm
   cases hm
  | some x=>rw [hall x (List.mem_of_getLast? hl)]
theorem Zde (r:Rt) (ah al hn:Nat) (h:r.k.n<=(hn:Int)):hasB r.k.h r.k.l r.k.n (cutW ah hn) (cutW al (hn-64))=hasB r.k.h r.k.l r.k.n ah al:=by
 unfold hasB
 rw [Zdf,Zdf]
 by_cases h0:0<=r.k.n
 ·rw [show min hn r.k.n.toNat=r.k.n.toNat by omega,show min (hn-64) (r.k.n.toNat-64)=r.k.n.toNat-64 by omega]
 ·have:Zan r.k.h r.k.l r.k.n=false:=by
   unfold Zan
   exact decide_eq_false (by omega)
  rw [this]
  rfl
theorem Zt0 (ah al hn:Nat) (low:Int):Za8 (cutK ah al hn).h (cutK ah al hn).l low (cutK ah al hn).n=Za8 ah al low (hn:Int):=by
 funext r
 unfold Za8 cutK
 simp only
 by_cases h:r.k.n<=(hn:Int)
 ·rw [Zde r ah al hn h]
 ·rw [decide_eq_false h]
  simp
theorem Zyw {N:List Rt} {c:Rt->Bool}:(lngI N c N.length).isSome=true↔∃r∈N,c r=true:=by
 have h:=Zoy N c N.length (Nat.le_refl _)
 cases e:lngI N c N.length with
 | none=>
  rw [e] at h
  refine ⟨fun h=>(by cases h),fun ⟨r,hr,hc⟩ => ?_⟩
  obtain ⟨i,hi,rfl⟩:=List.getElem_of_mem hr
  rw [h i hi hi] at hc
  cases hc
 | some b=>
  rw [e] at h
  obtain ⟨hb,-,hc,-⟩:=h
  exact ⟨fun _=>⟨N[b],List.getElem_mem hb,hc⟩,fun _=>rfl⟩
theorem Zy4 {N:List Rt} (hg:∀r∈N,W64 r.k.h/\W64 r.k.l) {ah al hn:Nat} {low:Int} (ha:W64 ah) (hb:W64 al) (h1:hn<=128) (h8:(hn:Int)-low<=8):cutK ah al hn∈Zbd N low (hn:Int)↔∃r∈N,Za8 ah al low (hn:Int) r=true:=by
 unfold Zbd
 simp only [List.mem_flatMap,List.mem_filter]
 refine exists_congr fun r => ?_
 constructor
 ·rintro ⟨⟨hr,hi⟩,hk⟩
  refine ⟨hr,?_⟩
  unfold insB at hi
  simp only [Bool.and_eq_true,decide_eq_true_eq] at hi
  have h:=((Zat (hg r hr).1 (hg r hr).2 _ _).1 hk).2.2.2.2.2.2.2
  unfold cutK at h
  simp only at h
  rw [Zde r ah al hn hi.2] at h
  unfold Za8
  simp [hi.1,hi.2,h]
 ·rintro ⟨hr,hc⟩
  unfold Za8 at hc
  simp only [Bool.and_eq_true,decide_eq_true_eq] at hc
  obtain ⟨c1,c2,c3⟩:=hc
  refine ⟨⟨hr,by unfold insB;simp [c1,c2]⟩,(Zat (hg r hr).1 (hg r hr).2 _ _).2 ⟨c2,by omega,by omega,rfl,ha.cut _,hb.cut _,?_,?_⟩⟩
  ·have:=Zn3 ah al (hn:Int) (by omega) (by omega)
   simpa [cutK] using this
  ·show hasB _ _ _ (cutW ah hn) (cutW al (hn-64))=true
   rw [Zde r ah al hn c2]
   exact c3
def getS (N:List Rt) (k:Ky):Option Int:=(N.find? fun r=>decide (r.k=k)).map Rt.v
theorem Zbz {N:List Rt} (h:Sorted N) {k:Ky} {v:Int}:getS N k=some v↔(⟨k,v⟩:Rt)∈N:=by
 unfold getS
 constructor
 ·intro e
  obtain ⟨r,hr,hv⟩:=Option.map_eq_some_iff.1 e
  have h1:=List.mem_of_find?_eq_some hr
  have h2:=List.find?_some hr
  have h3:r.k=k:=of_decide_eq_true h2
  rw [<-h3,<-hv]
  exact h1
 ·intro hm
  cases hf:N.find? fun r=>decide (r.k=k) with
  | none=>
   have:=List.find?_eq_none.1 hf _ hm
   simp at this
  | some r=>
   have h1:=List.mem_of_find?_eq_some hf
   have h2:=List.find?_some hf
   have h3:r.k=k:=of_decide_eq_true h2
   have:r=⟨k,v⟩:=Zju h.nodup h1 hm h3
   rw [this]
   rfl
theorem Zb0 {N:List Rt} {k:Ky}:getS N k=none↔k∉Zad N:=by
 unfold getS Zad
 rw [Option.map_eq_none_iff,List.find?_eq_none,List.mem_map]
 constructor
 ·rintro h ⟨r,hr,e⟩
  have:=h r hr
  simp [e] at this
 ·intro h r hr
  simp only [decide_eq_true_eq]
  exact fun e=>h ⟨r,hr,e⟩
theorem Zti {M N:List Rt} (hM:Sorted M) (hN:Sorted N) (h:∀k,getS M k=getS N k):M=N:=
 Zbt hM hN fun q=>by
  obtain ⟨k,v⟩:=q
  rw [<-Zbz hM,<-Zbz hN,h]
theorem Zhc {N:List Rt} (h:Sorted N) (r:Rt) (k:Ky):getS (Zao N r) k=if k=r.k then some r.v else getS N k:=by
 have hs:=Zaq r h
 have key:∀v,getS (Zao N r) k=some v↔(if k=r.k then some r.v else getS N k)=some v:=fun v=>by
  rw [Zbz hs,Zcy h]
  by_cases e:k=r.k
  ·rw [if_pos e]
   subst e
   constructor
   ·rintro (h1 | ⟨_,h1⟩)
    ·rw [<-h1]
    ·exact absurd rfl h1
   ·intro h1
    injection h1 with h1
    exact .inl (by rw [<-h1])
  ·rw [if_neg e,Zbz h]
   constructor
   ·rintro (h1 | ⟨h1,_⟩)
    ·exact absurd (by rw [<-h1]) e
    ·exact h1
   ·exact fun h1 => .inr ⟨h1,e⟩
 cases h1:getS (Zao N r) k with
 | some v=>exact ((key v).1 h1).symm
 | none=>
  cases h2:(if k=r.k then some r.v else getS N k) with
  | none=>rfl
  | some v=>rw [(key v).2 h2] at h1;cases h1
theorem Zd9 {N:List Rt} (h:Sorted N) (j k:Ky):getS (outS N j) k=if k=j then none else getS N k:=by
 have hs:=Zav j h
 have key:∀v,getS (outS N j) k=some v↔(if k=j then none else getS N k)=some v:=fun v=>by
  rw [Zbz hs,Zay]
  by_cases e:k=j
  ·rw [if_pos e]
   constructor
   ·rintro ⟨_,h1⟩;exact absurd e h1
   ·intro h1;cases h1
  ·rw [if_neg e,Zbz h]
   exact ⟨fun h1=>h1.1,fun h1=>⟨h1,e⟩⟩
 cases h1:getS (outS N j) k with
 | some v=>exact ((key v).1 h1).symm
 | none=>
  cases h2:(if k=j then none else getS N k) with
  | none=>rfl
  | some v=>rw [(key v).2 h2] at h1;cases h1
structure Ch where
 k:Ky
 o:Int
 n:Int
def chS (A B:List Rt) (k:Ky):Ch:=⟨k,(getS A k).getD (-1),(getS B k).getD (-1)⟩
def Z86 (A B:List Rt) (k:Ky):Bool:=decide (getS A k≠getS B k)
def ofS (A B:List Rt):List Ch:=((Zad (Zap (A++B))).filter (Z86 A B)).map (chS A B)
def Zgm (L:List Ch):Prop:=L.Pairwise fun a b=>Zau a.k b.k=true
theorem Zy0 (l:List Rt) (k:Ky):k∈Zad (Zap l)↔k∈Zad l:=by
 unfold Zad
 simp only [List.mem_map]
 constructor
 ·rintro ⟨q,hq,e⟩
  have h:=((Za9 l).2 q).1 hq
  unfold lst at h
  exact ⟨q,(List.mem_filter.1 (List.mem_of_getLast? h)).1,e⟩
 ·rintro ⟨q,hq,e⟩
  cases hl:(l.filter fun r=>decide (r.k=k)).getLast? with
  | none=>
   have:=List.getLast?_eq_none_iff.1 hl
   have hm:q∈l.filter (fun r=>decide (r.k=k)):=List.mem_filter.2 ⟨hq,by simp [e]⟩
   rw [this] at hm
   cases hm
  | some x=>
   have hx:x.k=k:=of_decide_eq_true (List.mem_filter.1 (List.mem_of_getLast? hl)).2
   exact ⟨x,((Za9 l).2 x).2 (by unfold lst;rw [hx];exact hl),hx⟩
theorem Zdc (A B:List Rt):Zgm (ofS A B):=by
 have h:=(Za9 (A++B)).1
 unfold ofS Zgm
 rw [List.pairwise_map]
 refine List.Pairwise.filter _ ?_
 unfold Zad
 rw [List.pairwise_map]
 exact h
theorem Zgp {A B:List Rt} {k:Ky} (h:getS A k≠getS B k):k∈Zad (A++B):=by
 unfold Zad
 rw [List.map_append,List.mem_append]
 by_cases h1:k∈Zad A
 ·exact .inl h1
 ·by_cases h2:k∈Zad B
  ·exact .inr h2
  ·exact absurd ((Zb0.2 h1).trans (Zb0.2 h2).symm) h
theorem Zdd (A B:List Rt) (c:Ch):c∈ofS A B↔getS A c.k≠getS B c.k/\c=chS A B c.k:=by
 unfold ofS
 simp only [List.mem_map,List.mem_filter]
 constructor
 ·rintro ⟨k,⟨_,h1⟩,rfl⟩
  exact ⟨of_decide_eq_true h1,rfl⟩
 ·rintro ⟨h1,h2⟩
  exact ⟨c.k,⟨(Zy0 _ _).2 (Zgp h1),decide_eq_true h1⟩,h2.symm⟩
theorem Zjo:∀{L M:List Ch},Zgm L->Zgm M->(∀c,c∈L↔c∈M)->L=M
 | [],[],_,_,_=>rfl
 | [],b::M,_,_,h=>absurd ((h b).2 List.mem_cons_self) (by simp)
 | a::L,[],_,_,h=>absurd ((h a).1 List.mem_cons_self) (by simp)
 | a::L,b::M,hL,hM,h=>by
  have h1:=List.pairwise_cons.1 hL
  have h2:=List.pairwise_cons.1 hM
  have irr:∀k,Zau k k=true->False:=fun k hk=>by rw [Za0] at hk;cases hk
  have hab:a=b:=by
   rcases List.mem_cons.1 ((h a).1 List.mem_cons_self) with e | e
   ·exact e
   ·rcases List.mem_cons.1 ((h b).2 List.mem_cons_self) with e2 | e2
    ·exact e2.symm
    ·exact (irr _ (Zbh (h1.1 b e2) (h2.1 a e))).elim
  subst hab
  congr 1
  refine Zjo h1.2 h2.2 fun c=>⟨fun hc => ?_,fun hc => ?_⟩
  ·rcases List.mem_cons.1 ((h c).1 (List.mem_cons_of_mem _ hc)) with e | e
   ·subst e;exact (irr _ (h1.1 c hc)).elim
   ·exact e
  ·rcases List.mem_cons.1 ((h c).2 (List.mem_cons_of_mem _ hc)) with e | e
   ·subst e;exact (irr _ (h2.1 c hc)).elim
   ·exact e
theorem Zsr {A B:List Rt} {M:List Ch} (hM:Zgm M) (h:∀c,c∈M↔getS A c.k≠getS B c.k/\c=chS A B c.k):M=ofS A B:=
 Zjo hM (Zdc A B) fun c=>by rw [h,Zdd]
theorem Zyb (A:List Rt):ofS A A=[]:=by
 have:∀c,c∉ofS A A:=fun c hc=>((Zdd A A c).1 hc).1 rfl
 cases h:ofS A A with
 | nil=>rfl
 | cons c L=>exact absurd (by rw [h];exact List.mem_cons_self) (this c)
def Z37 (c:Ch):Ch:=⟨c.k,c.n,c.o⟩
theorem Zyc (A B:List Rt):ofS B A=(ofS A B).map Z37:=by
 refine (Zsr (A:=B) (B:=A) ?_ fun c => ?_).symm
 ·unfold Zgm
  rw [List.pairwise_map]
  exact Zdc A B
 ·rw [List.mem_map]
  constructor
  ·rintro ⟨d,hd,rfl⟩
   obtain ⟨h1,h2⟩:=(Zdd A B d).1 hd
   refine ⟨fun e=>h1 e.symm,?_⟩
   unfold chS at h2
   unfold chS Z37
   rw [h2]
  ·rintro ⟨h1,h2⟩
   refine ⟨Z37 c,(Zdd A B _).2 ⟨fun e=>h1 e.symm,?_⟩,rfl⟩
   unfold chS at h2 ⊢
   unfold Z37
   rw [h2]
def Znr (N:List Rt) (c:Ch):List Rt:=if 0<=c.n then Zao N ⟨c.k,c.n⟩ else outS N c.k
theorem Znq {N:List Rt} (h:Sorted N) (c:Ch):Sorted (Znr N c):=by
 unfold Znr
 split
 ·exact Zaq _ h
 ·exact Zav _ h
structure MidC (A B:List Rt) (i:Nat) (N:List Rt):Prop where
 sorted:Sorted N
 get:∀k,getS N k=if k∈((ofS A B).take i).map Ch.k then getS B k else getS A k
theorem MidC.start {A B:List Rt} (h:Sorted A):MidC A B 0 A:=⟨h,fun k=>by simp⟩
theorem Zme {B:List Rt} (hB:Sorted B) (hp:∀r∈B,0<=r.v) {k:Ky} {v:Int} (h:getS B k=some v):0<=v:=hp _ ((Zbz hB).1 h)
theorem Zss (A B:List Rt):((ofS A B).map Ch.k).Nodup:=by
 unfold List.Nodup
 rw [List.pairwise_map]
 exact List.Pairwise.imp (fun {a b} hab e=>by rw [e,Za0] at hab;cases hab) (Zdc A B)
theorem Zvg {A B:List Rt} {i:Nat} (hi:i<(ofS A B).length):(ofS A B)[i].k∉((ofS A B).take i).map Ch.k:=by
 intro h
 have hn:=Zss A B
 rw [<-List.take_append_drop i (ofS A B),List.map_append,List.nodup_append] at hn
 refine hn.2.2 _ h _ ?_ rfl
 rw [List.drop_eq_getElem_cons hi]
 exact List.mem_cons_self
theorem MidC.now {A B N:List Rt} {i:Nat} (H:MidC A B i N) (hA:Sorted A) (hB:Sorted B) (pA:∀r∈A,0<=r.v) (pB:∀r∈B,0<=r.v) (hi:i<(ofS A B).length) :
 (((getS N (ofS A B)[i].k).isSome=decide (0<=(ofS A B)[i].o))/\(∀v,getS N (ofS A B)[i].k=some v->v=(ofS A B)[i].o)/\(ofS A B)[i].o≠(ofS A B)[i].n)/\MidC A B (i+1) (Znr N (ofS A B)[i]):=by
 obtain ⟨h1,h2⟩:=(Zdd A B _).1 (List.getElem_mem hi)
 have hg:=H.get (ofS A B)[i].k
 rw [if_neg (Zvg hi)] at hg
 have hsn:(ofS A B).take (i+1)=(ofS A B).take i++[(ofS A B)[i]]:=List.take_succ_eq_append_getElem hi
 generalize (ofS A B)[i]=c at h1 h2 hg hsn ⊢
 obtain ⟨k,o,n⟩:=c
 unfold chS at h2
 simp only at h1 h2 hg
 injection h2 with _ ho hn
 simp only
 refine ⟨⟨?_,?_,?_⟩,?_⟩
 ·rw [hg]
  cases ha:getS A k with
  | none=>rw [ha] at ho;rw [ho];rfl
  | some v=>
   rw [ha] at ho
   have:=Zme hA pA ha
   rw [ho]
   exact (decide_eq_true this).symm
 ·intro v hv
  rw [hg] at hv
  rw [hv] at ho
  exact ho.symm
 ·intro e
  rw [ho,hn] at e
  cases ha:getS A k with
  | none=>
   cases hb:getS B k with
   | none=>exact h1 (ha.trans hb.symm)
   | some v=>
    rw [ha,hb] at e
    have:=Zme hB pB hb
    have e:(-1:Int)=v:=e
    omega
  | some u=>
   have hu:=Zme hA pA ha
   cases hb:getS B k with
   | none=>
    rw [ha,hb] at e
    have e:u=(-1:Int):=e
    omega
   | some v=>
    rw [ha,hb] at e
    have e:u=v:=e
    exact h1 (by rw [ha,hb,e])
 ·refine ⟨Znq H.sorted _,fun j => ?_⟩
  have hmem:j∈((ofS A B).take (i+1)).map Ch.k↔j∈((ofS A B).take i).map Ch.k\/j=k:=by
   rw [hsn,List.map_append,List.mem_append]
   simp
  have hst:getS (Znr N ⟨k,o,n⟩) j=if j=k then getS B k else getS N j:=by
   unfold Znr
   simp only
   cases hb:getS B k with
   | none=>
    rw [hb] at hn
    have hn:n=(-1:Int):=hn
    rw [if_neg (by omega),Zd9 H.sorted]
   | some v=>
    rw [hb] at hn
    have hn:n=v:=hn
    have:=Zme hB pB hb
    rw [if_pos (by omega),Zhc H.sorted,hn]
  rw [hst,H.get]
  by_cases e:j=k
  ·subst e
   rw [if_pos rfl,if_pos (hmem.2 (.inr rfl))]
  ·rw [if_neg e]
   by_cases e2:j∈((ofS A B).take i).map Ch.k
   ·rw [if_pos e2,if_pos (hmem.2 (.inl e2))]
   ·rw [if_neg e2,if_neg (fun h=>by rcases hmem.1 h with h | h;exact e2 h;exact e h)]
theorem MidC.done {A B N:List Rt} (H:MidC A B (ofS A B).length N) (hB:Sorted B):N=B:=by
 refine Zti H.sorted hB fun k => ?_
 rw [H.get,List.take_length]
 by_cases h:k∈(ofS A B).map Ch.k
 ·rw [if_pos h]
 ·rw [if_neg h]
  by_cases e:getS A k=getS B k
  ·exact e
  ·exact absurd (List.mem_map.2 ⟨chS A B k,(Zdd A B _).2 ⟨e,rfl⟩,rfl⟩) h
end
section
open Go Go.RowKit Go.Sort M
def Zdg (c:Ch):List Value:=[.int .u64 (c.k.h:Int),.int .u64 (c.k.l:Int),.int .i64 c.k.n,.int .i64 c.o,.int .i64 c.n]
def ccs (L:List Ch):List Value:=L.flatMap Zdg
theorem Z6y (L:List Ch):(ccs L).length=L.length*5:=by
 unfold ccs
 induction L with
 | nil=>rfl
 | cons x L ih=>simp only [List.flatMap_cons,List.length_append,ih,Zdg,List.length_cons,List.length_nil];omega
theorem Zfp (L M:List Ch):ccs (L++M)=ccs L++ccs M:=by simp [ccs]
theorem Ztz (x:Ch) (L:List Ch):ccs (x::L)=Zdg x++ccs L:=rfl
theorem Zm7 (p:Ch):ccs [p]=Zdg p:=by simp [ccs]
theorem Zfo:∀(L:List Ch) (k j:Nat) (h:k<L.length),j<5->(ccs L)[k*5+j]? = (Zdg L[k])[j]?
 | x::L,0,j,_,hj=>by
  rw [Ztz,List.getElem?_append_left (by simp [Zdg];omega)]
  simp
 | x::L,k+1,j,h,hj=>by
  rw [Ztz,List.getElem?_append_right (by simp [Zdg];omega),show (k+1)*5+j-(Zdg x).length=k*5+j by simp [Zdg];omega]
  rw [Zfo L k j (by simpa using h) hj]
  simp
theorem Row.ch {w:World} {p:Option Addr} {L:List Ch} (h:Row w p (ccs L)) {k:Nat} (hk:k<L.length):∃g o,p=some ⟨g,o,none⟩/\g<w.heap.size /\
 w.cell? ⟨g,o+k*5,none⟩=some (.int .u64 (L[k].k.h:Int))/\w.cell? ⟨g,o+k*5+1,none⟩=some (.int .u64 (L[k].k.l:Int))/\w.cell? ⟨g,o+k*5+2,none⟩=some (.int .i64 L[k].k.n) /\
 w.cell? ⟨g,o+k*5+3,none⟩=some (.int .i64 L[k].o)/\w.cell? ⟨g,o+k*5+4,none⟩=some (.int .i64 L[k].n):=by
 rcases h with h | ⟨g,o,e,hg,hc⟩
 ·have:=Z6y L
  rw [h] at this
  simp at this;omega
 ·exact ⟨g,o,e,hg,hc (k*5) _ (Zfo L k 0 hk (by omega)),hc (k*5+1) _ (Zfo L k 1 hk (by omega)),hc (k*5+2) _ (Zfo L k 2 hk (by omega)),hc (k*5+3) _ (Zfo L k 3 hk (by omega)),hc (k*5+4) _ (Zfo L k 4 hk (by omega))⟩
def Z43 (t:TypeId) (w w':World) (e:Ending) (L:List Ch):Prop:=∃p c,e = .returned (.slice p L.length c)/\w'.ownsRow w.heap.size t 5 (.slice p L.length c) L.length (ccs L)/\Below w.heap.size w w'
theorem Zjb {w:World} {g:Nat} {c:Ch} (h0:w.cell? ⟨g,0,none⟩=some (.int .u64 (c.k.h:Int))) (h1:w.cell? ⟨g,1,none⟩=some (.int .u64 (c.k.l:Int))) (h2:w.cell? ⟨g,2,none⟩=some (.int .i64 c.k.n)) (h3:w.cell? ⟨g,3,none⟩=some (.int .i64 c.o)) (h4:w.cell? ⟨g,4,none⟩=some (.int .i64 c.n)) :
 ∀j u,(Zdg c)[j]? = some u->w.cell? ((⟨g,0,none⟩:Addr).add j)=some u:=by
 intro j u hj
 rw [show (⟨g,0,none⟩:Addr).add j=⟨g,j,none⟩ by unfold Addr.add;split<;>simp_all]
 match j,hj with
 | 0,hj=>simp [Zdg] at hj;subst hj;exact h0
 | 1,hj=>simp [Zdg] at hj;subst hj;exact h1
 | 2,hj=>simp [Zdg] at hj;subst hj;exact h2
 | 3,hj=>simp [Zdg] at hj;subst hj;exact h3
 | 4,hj=>simp [Zdg] at hj;subst hj;exact h4
end
section
open M
theorem Zgh (N:List Rt) (ah al m:Nat):depV N ah al m=getS N (cutK ah al m):=rfl
theorem Zi9 {N:List Rt} (hN:Sorted N) (low:Int) (k:Ky):hopK N low k=(Zbi (depV N k.h k.l) low k.n 129).bind (depV N k.h k.l):=by
 unfold hopK
 rcases Zkl (N:=N) k.h k.l low k.n with ⟨h1,h2⟩ | ⟨b,hb,m,h1,h2,h3⟩
 ·rw [h1,h2];rfl
 ·rw [h1,h2]
  show some (N.getD b _).v=depV N k.h k.l m
  rw [getD_at hb,Z0z hN.nodup (List.getElem_mem hb) h3]
theorem Zhb {N:List Rt} {low high:Int} (hl:low<high) (k:Ky):getS (setS N low high) k=if k∈Zbd N low high then some (hopV N low k) else none:=by
 by_cases h:k∈Zbd N low high
 ·rw [if_pos h]
  exact (Zbz (Zc1 N low high)).2 ((Zdm _ _ _ _).2 ⟨hl,h,rfl⟩)
 ·rw [if_neg h,Zb0]
  unfold Zad
  rw [List.mem_map]
  rintro ⟨q,hq,rfl⟩
  exact h ((Zdm _ _ _ _).1 hq).2.1
theorem Zcs {N:List Rt} {low high:Int} {k:Ky}:k∈Zbd N low high↔∃j∈Zad N,low<j.n/\j.n<=high/\k∈sprK j high:=by
 unfold Zbd Zad insB
 simp only [List.mem_flatMap,List.mem_filter,Bool.and_eq_true,decide_eq_true_eq,List.mem_map]
 constructor
 ·rintro ⟨r,⟨hr,h1,h2⟩,hk⟩
  exact ⟨r.k,⟨r,hr,rfl⟩,h1,h2,hk⟩
 ·rintro ⟨_,⟨r,hr,rfl⟩,h1,h2,hk⟩
  exact ⟨r,⟨hr,h1,h2⟩,hk⟩
def lvlM (N:List Rt) (p:Ky) (hop:Int):List Rt:=if 0<=hop then Zao (outS N p) ⟨p,hop⟩ else outS N p
theorem Zfe {N:List Rt} (h:Sorted N) (p:Ky) (hop:Int):Sorted (lvlM N p hop):=by
 unfold lvlM
 split
 ·exact Zaq _ (Zav _ h)
 ·exact Zav _ h
theorem Zys {N:List Rt} (h:Sorted N) {p k:Ky} (hop:Int) (hk:k≠p):getS (lvlM N p hop) k=getS N k:=by
 unfold lvlM
 split
 ·rw [Zhc (Zav _ h),if_neg hk,Zd9 h,if_neg hk]
 ·rw [Zd9 h,if_neg hk]
theorem Zs3 {N:List Rt} (hg:∀r∈N,W64 r.k.h/\W64 r.k.l) {p:Ky} (hp:W64 p.h/\W64 p.l) (h:Sorted N) (hop:Int):∀r∈lvlM N p hop,W64 r.k.h/\W64 r.k.l:=by
 intro r hr
 unfold lvlM at hr
 split at hr
 ·rcases (Zcy (Zav _ h)).1 hr with e | ⟨e,_⟩
  ·rw [e];exact hp
  ·exact hg r (Zay.1 e).1
 ·exact hg r (Zay.1 hr).1
theorem Zdw {N:List Rt} (hg:∀r∈N,W64 r.k.h/\W64 r.k.l) {j:Ky} (hj:j∈Zad N):W64 j.h/\W64 j.l:=by
 unfold Zad at hj
 obtain ⟨r,hr,rfl⟩:=List.mem_map.1 hj
 exact hg r hr
theorem Zy2 {N:List Rt} (hg:∀r∈N,W64 r.k.h/\W64 r.k.l) {low high:Int} {k:Ky} (h:k∈Zbd N low high):k.n=high:=by
 obtain ⟨j,hj,-,-,hk⟩:=Zcs.1 h
 have:=Zdw hg hj
 exact ((Zat this.1 this.2 _ _).1 hk).2.2.2.1
theorem few {N:List Rt} (hN:Sorted N) (hg:∀r∈N,W64 r.k.h/\W64 r.k.l) {p:Ky} (hp:W64 p.h/\W64 p.l) (hop:Int) {low high:Int} (hl:low<high) {c:Ch} (hc:c∈ofS (setS N low high) (setS (lvlM N p hop) low high)) :
 c.k.n=high/\hasB p.h p.l p.n c.k.h c.k.l=true/\low<p.n/\p.n<=high/\c.k∈sprK p high:=by
 obtain ⟨h1,-⟩:=(Zdd _ _ c).1 hc
 generalize c.k=k at h1 ⊢
 have hM:=Zfe hN p hop
 have hgM:=Zs3 hg hp hN hop
 rw [Zhb hl,Zhb hl] at h1
 have hn:k.n=high:=by
  by_cases e1:k∈Zbd N low high
  ·exact Zy2 hg e1
  ·by_cases e2:k∈Zbd (lvlM N p hop) low high
   ·exact Zy2 hgM e2
   ·rw [if_neg e1,if_neg e2] at h1;exact absurd rfl h1
 have hkeys:∀j,j≠p->(j∈Zad (lvlM N p hop)↔j∈Zad N):=fun j hj=>by
  have e:=Zys hN hop hj
  have a:=Zb0 (N:=lvlM N p hop) (k:=j)
  have b:=Zb0 (N:=N) (k:=j)
  rw [e] at a
  constructor
  ·intro h3
   by_cases h4:j∈Zad N
   ·exact h4
   ·exact absurd h3 (a.1 (b.2 h4))
  ·intro h3
   by_cases h4:j∈Zad (lvlM N p hop)
   ·exact h4
   ·exact absurd h3 (b.1 (a.2 h4))
 have main:¬(hasB p.h p.l p.n k.h k.l=true/\low<p.n/\p.n<=high/\k∈sprK p high)->False:=by
  intro hno
  have hin:k∈Zbd N low high↔k∈Zbd (lvlM N p hop) low high:=by
   rw [Zcs,Zcs]
   constructor
   ·rintro ⟨j,hj,h2,h3,h4⟩
    have hjp:j≠p:=fun e=>by
     subst e
     exact hno ⟨((Zat hp.1 hp.2 _ _).1 h4).2.2.2.2.2.2.2,h2,h3,h4⟩
    exact ⟨j,(hkeys j hjp).2 hj,h2,h3,h4⟩
   ·rintro ⟨j,hj,h2,h3,h4⟩
    have hjp:j≠p:=fun e=>by
     subst e
     exact hno ⟨((Zat hp.1 hp.2 _ _).1 h4).2.2.2.2.2.2.2,h2,h3,h4⟩
    exact ⟨j,(hkeys j hjp).1 hj,h2,h3,h4⟩
  by_cases hk:k∈Zbd N low high
  ·rw [if_pos hk,if_pos (hin.1 hk)] at h1
   apply h1
   congr 1
   have hw:W64 k.h/\W64 k.l/\Zan k.h k.l k.n=true:=by
    obtain ⟨j,hj,-,-,h4⟩:=Zcs.1 hk
    have:=Zdw hg hj
    have h5:=(Zat this.1 this.2 _ _).1 h4
    exact ⟨h5.2.2.2.2.1,h5.2.2.2.2.2.1,by rw [hn];exact h5.2.2.2.2.2.2.1⟩
   have h128:high<=128:=by
    have:=(Za1 _ _ _ hw.2.1).1 hw.2.2
    omega
   obtain ⟨j,hj,hj1,hj2,hj3⟩:=Zcs.1 hk
   have hg4:=Zdw hg hj
   have h5:=(Zat hg4.1 hg4.2 _ _).1 hj3
   obtain ⟨mj,hmj,hje⟩:=(Zdn _ _ _).1 h5.2.2.2.2.2.2.2
   have hjn:j.n=(mj:Int):=by rw [hje];rfl
   have hD:∀m:Nat,mj<=m->low<(m:Int)->(m:Int)<=high->depV (lvlM N p hop) k.h k.l m=depV N k.h k.l m:=fun m h0 h2 h3=>by
    rw [Zgh,Zgh]
    refine Zys hN hop fun e => ?_
    have hh:hasB p.h p.l p.n k.h k.l=true:=(Zdn _ _ _).2 ⟨m,by omega,e.symm⟩
    have hpn:p.n=(m:Int):=by rw [<-e];rfl
    exact hno ⟨hh,by omega,by omega,(Zat hp.1 hp.2 _ _).2 ⟨by omega,by omega,by omega,hn,hw.1,hw.2.1,by rw [<-hn];exact hw.2.2,hh⟩⟩
   unfold hopV
   rw [Zi9 hN,Zi9 hM,hn]
   have hdj:(depV N k.h k.l mj).isSome=true:=by
    rw [Zgh,<-hje]
    cases h6:getS N j with
    | some v=>rfl
    | none=>exact absurd hj (Zb0.1 h6)
   obtain ⟨b,hbm⟩:∃b,Zbi (depV N k.h k.l) low high 129=some b:=by
    cases hb:Zbi (depV N k.h k.l) low high 129 with
    | some b=>exact ⟨b,rfl⟩
    | none=>exact absurd ⟨by omega,by omega,hdj⟩ (Zdy.1 hb mj (by omega))
   obtain ⟨b1,b2,b3⟩:=Zce.1 hbm
   have hbj:mj<=b:=by
    by_cases h6:mj<=b
    ·exact h6
    ·exact absurd ⟨by omega,by omega,hdj⟩ (b3 mj (by omega) (by omega))
   have hbm2:Zbi (depV (lvlM N p hop) k.h k.l) low high 129=some b:=Zce.2 ⟨b1,⟨b2.1,b2.2.1,by rw [hD b hbj b2.1 b2.2.1];exact b2.2.2⟩,fun m m1 m2 m3=>b3 m m1 m2 ⟨m3.1,m3.2.1,by rw [<-hD m (by omega) m3.1 m3.2.1];exact m3.2.2⟩⟩
   rw [hbm,hbm2]
   show (depV N k.h k.l b).getD 0=(depV (lvlM N p hop) k.h k.l b).getD 0
   rw [hD b hbj b2.1 b2.2.1]
  ·rw [if_neg hk,if_neg (fun h=>hk (hin.2 h))] at h1
   exact h1 rfl
 by_cases hcc:hasB p.h p.l p.n k.h k.l=true/\low<p.n/\p.n<=high/\k∈sprK p high
 ·exact ⟨hn,hcc⟩
 ·exact (main hcc).elim
theorem Zst:∀{L M:List Ky},L.Nodup->(∀k∈L,k∈M)->L.length<=M.length
 | [],_,_,_=>Nat.zero_le _
 | a::L,M,hn,h=>by
  have ha:=h a List.mem_cons_self
  have h2:=List.nodup_cons.1 hn
  have:=Zst (M:=M.erase a) h2.2 fun k hk=>(List.mem_erase_of_ne (fun e=>h2.1 (by rw [<-e];exact hk))).2 (h k (List.mem_cons_of_mem _ hk))
  rw [List.length_erase_of_mem ha] at this
  have hp:0<M.length:=List.length_pos_of_mem ha
  simp only [List.length_cons]
  omega
theorem Z6f {N:List Rt} (hN:Sorted N) (hg:∀r∈N,W64 r.k.h/\W64 r.k.l) {p:Ky} (hp:W64 p.h/\W64 p.l) (hop:Int) {low high:Int} (hl:low<high) (hw8:high-low<=8):(ofS (setS N low high) (setS (lvlM N p hop) low high)).length<=256:=by
 have h:=Zst (L:=(ofS (setS N low high) (setS (lvlM N p hop) low high)).map Ch.k) (M:=sprK p high) (Zss _ _) fun k hk=>by
  obtain ⟨c,hc,rfl⟩:=List.mem_map.1 hk
  exact (few hN hg hp hop hl hc).2.2.2.2
 rw [List.length_map] at h
 refine Nat.le_trans h ?_
 unfold sprK
 rw [List.length_map,Zj4 _ _ _ _ hp.2]
 exact Z0i _ _ _ _
end
end Go.Proofs.YtgfjmgebecmbiaaGreat

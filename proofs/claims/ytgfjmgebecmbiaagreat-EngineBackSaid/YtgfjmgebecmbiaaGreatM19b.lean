/-
  Plain mathematics of what turns in a level: when a route comes, or goes, nothing turns but keys that it has, and at most 256. No condition but those that stand in each.
-/
import Derived.Test.YtgfjmgebecmbiaaGreatM12d
import Derived.Test.YtgfjmgebecmbiaaGreatStb2
import Derived.Test.YtgfjmgebecmbiaaGreatW6b
import Derived.Test.YtgfjmgebecmbiaaGreatM12
import Derived.Test.YtgfjmgebecmbiaaGreatW16
set_option linter.unusedSimpArgs false
set_option linter.unusedVariables false
namespace Go.Proofs.YtgfjmgebecmbiaaGreat
open M
def kyP (p:Pf):Ky:=⟨hiW p.a,loW p.a,p.n⟩
def sprK (k:Ky) (m:Int):List Ky:=(keysV k.h k.l k.n m).map kyP
theorem mem_keysN (a m n x:Nat):x∈keysN a m n↔∃i,i<2^(n-m)/\x=a+i*2^(128-n):=by
 unfold keysN
 rw [List.mem_map]
 constructor
 ·rintro ⟨i,hi,rfl⟩
  exact ⟨i,by simpa using hi,rfl⟩
 ·rintro ⟨i,hi,rfl⟩
  exact ⟨i,by simpa using hi,rfl⟩
theorem has_right (h l:Nat) (n:Int) (a b:Nat) (hh:hasB h l n a b=true):rightB h l n=true:=((hasB_iff _ _ _ _ _).1 hh).1
theorem mem_spr {k:Ky} (g1:W64 k.h) (g2:W64 k.l) (q:Ky) (m:Int) :
 q∈sprK k m↔k.n<=m/\m<=128/\m-k.n<=8/\q.n=m/\W64 q.h/\W64 q.l/\rightB q.h q.l m=true/\hasB k.h k.l k.n q.h q.l=true:=by
 obtain ⟨kh,kl,kn⟩:=k
 unfold sprK
 simp only at *
 by_cases hc:rightB kh kl kn=true/\kn<=m/\m<=128/\m-kn<=8
 ·rw [keysV_some hc]
  obtain ⟨c1,c2,c3,c4⟩:=hc
  obtain ⟨r0,r1,r2⟩:=(rightB_val _ _ _ g2).1 c1
  obtain ⟨n,rfl⟩:=Int.eq_ofNat_of_zero_le r0
  obtain ⟨M,rfl⟩:=Int.eq_ofNat_of_zero_le (show 0<=m by omega)
  simp only [Int.toNat_natCast] at r2 ⊢
  have hnM:n<=M:=by omega
  have hM2:M<=128:=by omega
  have hV:=g1.val g2
  unfold pfs
  rw [List.map_map,List.mem_map]
  constructor
  ·rintro ⟨x,hx,rfl⟩
   have hxw:=keys_w _ n M hnM hM2 hV r2 x hx
   obtain ⟨i,hi,rfl⟩:=(mem_keysN _ _ _ _).1 hx
   refine ⟨by omega,by omega,by omega,rfl,hxw.1.hi,W128.lo,?_,?_⟩
   ·show rightB (hiW _) (loW _) _=true
    rw [rightB_val _ _ _ W128.lo,val_hl]
    exact ⟨by omega,by omega,by simpa using hxw.2⟩
   ·show hasB kh kl _ (hiW _) (loW _)=true
    rw [hasB_val _ _ _ _ _ g2 W128.lo,val_hl]
    exact ⟨c1,by simpa using key_in _ n M i hnM hM2 r2 hi⟩
  ·rintro ⟨-,-,-,q1,q2,q3,q4,q5⟩
   obtain ⟨-,-,d1⟩:=(rightB_val _ _ _ q3).1 q4
   have d2:=((hasB_val _ _ _ _ _ g2 q3).1 q5).2
   simp only [Int.toNat_natCast] at d1 d2
   obtain ⟨X,hX⟩:∃X,X=val q.h q.l:=⟨_,rfl⟩
   rw [<-hX] at d1 d2
   refine ⟨X,(mem_keysN _ _ _ _).2 ?_,?_⟩
   ·obtain ⟨y,hy⟩:=d1
    obtain ⟨v,hv⟩:=r2
    have e1:2^(128-n)=2^(128-M)*2^(M-n):=by rw [<-Nat.pow_add];congr 1;omega
    have p1:0<2^(128-n):=Nat.two_pow_pos _
    have p2:0<2^(128-M):=Nat.two_pow_pos _
    have p3:0<2^(M-n):=Nat.two_pow_pos _
    have d3:val kh kl/2^(128-n)=v:=by rw [hv,Nat.mul_div_cancel_left _ p1]
    rw [d3,hy,e1,Nat.mul_div_mul_left _ _ p2] at d2
    refine ⟨y%2^(M-n),Nat.mod_lt _ p3,?_⟩
    have h5:=Nat.div_add_mod y (2^(M-n))
    rw [d2] at h5
    rw [hv,e1,hy,Nat.mul_assoc,Nat.mul_comm (y%_),<-Nat.mul_add,h5]
   ·show (⟨hiW X,loW X,(M:Int)⟩:Ky)=q
    obtain ⟨a,b,c⟩:=q
    simp only at *
    rw [hX,hi_val _ _ q3,lo_val _ _ q3,q1]
 ·rw [keysV_none hc]
  refine ⟨fun h=>(by cases h),fun h=>absurd ⟨has_right _ _ _ _ _ h.2.2.2.2.2.2.2,h.1,h.2.1,h.2.2.1⟩ hc⟩
def hopK (N:List Rt) (low:Int) (k:Ky):Option Int:=(lngI N (candB k.h k.l low k.n) N.length).map fun i=>(N.getD i ⟨⟨0,0,0⟩,0⟩).v
def hopV (N:List Rt) (low:Int) (k:Ky):Int:=(hopK N low k).getD 0
def insB (low high:Int) (r:Rt):Bool:=decide (low<r.k.n)&&decide (r.k.n<=high)
def keysS (N:List Rt) (low high:Int):List Ky:=(N.filter (insB low high)).flatMap fun r=>sprK r.k high
def setS (N:List Rt) (low high:Int):List Rt:=if low<high then sortR ((keysS N low high).map fun k=>⟨k,hopV N low k⟩) else []
theorem sorted_ext {L M:List Rt} (hL:Sorted L) (hM:Sorted M) (h:∀q,q∈L↔q∈M):L=M:=
 sorted_eq hL hM ((List.perm_ext_iff_of_nodup (nodup_sorted hL) (nodup_sorted hM)).2 h)
theorem filter_fun (f:Ky->Int) (k:Ky):∀K:List Ky,((K.map fun k=>(⟨k,f k⟩:Rt)).filter fun r=>decide (r.k=k)).getLast? = if k∈K then some ⟨k,f k⟩ else none
 | []=>rfl
 | a::K=>by
  have ih:=filter_fun f k K
  rw [List.map_cons,List.filter_cons]
  by_cases h:a=k
  ·subst h
   simp only [decide_true,if_true]
   rw [List.getLast?_cons,ih]
   by_cases h2:a∈K
   ·rw [if_pos h2,if_pos (List.mem_cons_self)]
    rfl
   ·rw [if_neg h2,if_pos (List.mem_cons_self)]
    rfl
  ·rw [if_neg (by simpa using h),ih]
   by_cases h2:k∈K
   ·rw [if_pos h2,if_pos (List.mem_cons_of_mem _ h2)]
   ·rw [if_neg h2,if_neg (fun e=>by rcases List.mem_cons.1 e with e | e;exact h e.symm;exact h2 e)]
theorem sortR_fun (K:List Ky) (f:Ky->Int):Sorted (sortR (K.map fun k=>⟨k,f k⟩))/\∀q,q∈sortR (K.map fun k=>(⟨k,f k⟩:Rt))↔q.k∈K/\q.v=f q.k:=by
 obtain ⟨h1,h2⟩:=sortR_mem (K.map fun k=>(⟨k,f k⟩:Rt))
 refine ⟨h1,fun q => ?_⟩
 rw [h2]
 unfold lst
 rw [filter_fun]
 obtain ⟨k,v⟩:=q
 by_cases h:k∈K
 ·rw [if_pos h]
  simp only [h,true_and]
  constructor
  ·intro e
   injection e with e
   injection e with _ e
   exact e.symm
  ·rintro rfl;rfl
 ·rw [if_neg h]
  simp [h]
theorem set_sorted (N:List Rt) (low high:Int):Sorted (setS N low high):=by
 unfold setS
 split
 ·exact (sortR_fun _ _).1
 ·exact List.Pairwise.nil
theorem mem_setS (N:List Rt) (low high:Int) (q:Rt):q∈setS N low high↔low<high/\q.k∈keysS N low high/\q.v=hopV N low q.k:=by
 unfold setS
 by_cases h:low<high
 ·rw [if_pos h,(sortR_fun _ _).2]
  simp [h]
 ·rw [if_neg h]
  simp [h]
theorem set_one {M N:List Rt} {low high:Int} (hM:Sorted M) (h:∀q,q∈M↔low<high/\q.k∈keysS N low high/\q.v=hopV N low q.k):M=setS N low high:=
 sorted_ext hM (set_sorted N low high) fun q=>by rw [h,mem_setS]
theorem mem_outK18 {L:List Rt} {k:Ky} {q:Rt}:q∈outS L k↔q∈L/\q.k≠k:=by unfold outS;rw [List.mem_filter];simp
theorem one_key18 {L:List Rt} (hn:(keysR L).Nodup) {a b:Rt} (ha:a∈L) (hb:b∈L) (h:a.k=b.k):a=b:=by
 have:=(split_key hn hb).mem_iff.1 ha
 rcases List.mem_cons.1 this with e | e
 ·exact e
 ·exact absurd h (mem_outK18.1 e).2
theorem sortR_sorted {L:List Rt} (h:Sorted L):sortR L=L:=by
 obtain ⟨h1,h2⟩:=sortR_mem L
 refine sorted_ext h1 h fun q => ?_
 rw [h2]
 have hn:=h.nodup
 constructor
 ·intro e
  unfold lst at e
  exact (List.mem_filter.1 (List.mem_of_getLast? e)).1
 ·intro hq
  unfold lst
  have hall:∀x∈L.filter (fun r=>decide (r.k=q.k)),x=q:=fun x hx=>by
   obtain ⟨h3,h4⟩:=List.mem_filter.1 hx
   have h4:x.k=q.k:=of_decide_eq_true h4
   exact one_key18 hn h3 hq h4
  cases hl:(L.filter fun r=>decide (r.k=q.k)).getLast? with
  | none=>
   have:=List.getLast?_eq_none_iff.1 hl
   have hm:q∈L.filter (fun r=>decide (r.k=q.k)):=List.mem_filter.2 ⟨hq,by simp⟩
   rw [this] at hm
   cases hm
  | some x=>rw [hall x (List.mem_of_getLast? hl)]
theorem has_cut_any (r:Rt) (ah al hn:Nat) (h:r.k.n<=(hn:Int)):hasB r.k.h r.k.l r.k.n (cutW ah hn) (cutW al (hn-64))=hasB r.k.h r.k.l r.k.n ah al:=by
 unfold hasB
 rw [cutW_cutW,cutW_cutW]
 by_cases h0:0<=r.k.n
 ·rw [show min hn r.k.n.toNat=r.k.n.toNat by omega,show min (hn-64) (r.k.n.toNat-64)=r.k.n.toNat-64 by omega]
 ·have:rightB r.k.h r.k.l r.k.n=false:=by
   unfold rightB
   exact decide_eq_false (by omega)
  rw [this]
  rfl
theorem cand_cut (ah al hn:Nat) (low:Int):candB (cutK ah al hn).h (cutK ah al hn).l low (cutK ah al hn).n=candB ah al low (hn:Int):=by
 funext r
 unfold candB cutK
 simp only
 by_cases h:r.k.n<=(hn:Int)
 ·rw [has_cut_any r ah al hn h]
 ·rw [decide_eq_false h]
  simp
theorem lng_is {N:List Rt} {c:Rt->Bool}:(lngI N c N.length).isSome=true↔∃r∈N,c r=true:=by
 have h:=lng_ok N c N.length (Nat.le_refl _)
 cases e:lngI N c N.length with
 | none=>
  rw [e] at h
  refine ⟨fun h=>(by cases h),fun ⟨r,hr,hc⟩ => ?_⟩
  obtain ⟨i,hi,rfl⟩:=List.getElem_of_mem hr
  rw [h i hi hi] at hc
  cases hc
 | some b=>
  rw [e] at h
  obtain ⟨hb,-,hc,-⟩:=h
  exact ⟨fun _=>⟨N[b],List.getElem_mem hb,hc⟩,fun _=>rfl⟩
theorem key_level {N:List Rt} (hg:∀r∈N,W64 r.k.h/\W64 r.k.l) {ah al hn:Nat} {low:Int} (ha:W64 ah) (hb:W64 al) (h1:hn<=128) (h8:(hn:Int)-low<=8):cutK ah al hn∈keysS N low (hn:Int)↔∃r∈N,candB ah al low (hn:Int) r=true:=by
 unfold keysS
 simp only [List.mem_flatMap,List.mem_filter]
 refine exists_congr fun r => ?_
 constructor
 ·rintro ⟨⟨hr,hi⟩,hk⟩
  refine ⟨hr,?_⟩
  unfold insB at hi
  simp only [Bool.and_eq_true,decide_eq_true_eq] at hi
  have h:=((mem_spr (hg r hr).1 (hg r hr).2 _ _).1 hk).2.2.2.2.2.2.2
  unfold cutK at h
  simp only at h
  rw [has_cut_any r ah al hn hi.2] at h
  unfold candB
  simp [hi.1,hi.2,h]
 ·rintro ⟨hr,hc⟩
  unfold candB at hc
  simp only [Bool.and_eq_true,decide_eq_true_eq] at hc
  obtain ⟨c1,c2,c3⟩:=hc
  refine ⟨⟨hr,by unfold insB;simp [c1,c2]⟩,(mem_spr (hg r hr).1 (hg r hr).2 _ _).2 ⟨c2,by omega,by omega,rfl,ha.cut _,hb.cut _,?_,?_⟩⟩
  ·have:=right_cut ah al (hn:Int) (by omega) (by omega)
   simpa [cutK] using this
  ·show hasB _ _ _ (cutW ah hn) (cutW al (hn-64))=true
   rw [has_cut_any r ah al hn c2]
   exact c3
theorem find_is18 {l:List Rt} {k:Ky}:(findS l k).isSome=true↔k∈keysR l:=by
 unfold findS keysR
 rw [List.findIdx?_isSome,List.any_eq_true,List.mem_map]
 simp only [decide_eq_true_eq]
def getS (N:List Rt) (k:Ky):Option Int:=(N.find? fun r=>decide (r.k=k)).map Rt.v
theorem getS_some {N:List Rt} (h:Sorted N) {k:Ky} {v:Int}:getS N k=some v↔(⟨k,v⟩:Rt)∈N:=by
 unfold getS
 constructor
 ·intro e
  obtain ⟨r,hr,hv⟩:=Option.map_eq_some_iff.1 e
  have h1:=List.mem_of_find?_eq_some hr
  have h2:=List.find?_some hr
  have h3:r.k=k:=of_decide_eq_true h2
  rw [<-h3,<-hv]
  exact h1
 ·intro hm
  cases hf:N.find? fun r=>decide (r.k=k) with
  | none=>
   have:=List.find?_eq_none.1 hf _ hm
   simp at this
  | some r=>
   have h1:=List.mem_of_find?_eq_some hf
   have h2:=List.find?_some hf
   have h3:r.k=k:=of_decide_eq_true h2
   have:r=⟨k,v⟩:=one_key18 h.nodup h1 hm h3
   rw [this]
   rfl
theorem getS_none {N:List Rt} {k:Ky}:getS N k=none↔k∉keysR N:=by
 unfold getS keysR
 rw [Option.map_eq_none_iff,List.find?_eq_none,List.mem_map]
 constructor
 ·rintro h ⟨r,hr,e⟩
  have:=h r hr
  simp [e] at this
 ·intro h r hr
  simp only [decide_eq_true_eq]
  exact fun e=>h ⟨r,hr,e⟩
theorem getS_ext {M N:List Rt} (hM:Sorted M) (hN:Sorted N) (h:∀k,getS M k=getS N k):M=N:=
 sorted_ext hM hN fun q=>by
  obtain ⟨k,v⟩:=q
  rw [<-getS_some hM,<-getS_some hN,h]
theorem getS_into {N:List Rt} (h:Sorted N) (r:Rt) (k:Ky):getS (intoS N r) k=if k=r.k then some r.v else getS N k:=by
 have hs:=intoS_sorted r h
 have key:∀v,getS (intoS N r) k=some v↔(if k=r.k then some r.v else getS N k)=some v:=fun v=>by
  rw [getS_some hs,mem_into h]
  by_cases e:k=r.k
  ·rw [if_pos e]
   subst e
   constructor
   ·rintro (h1 | ⟨_,h1⟩)
    ·rw [<-h1]
    ·exact absurd rfl h1
   ·intro h1
    injection h1 with h1
    exact .inl (by rw [<-h1])
  ·rw [if_neg e,getS_some h]
   constructor
   ·rintro (h1 | ⟨h1,_⟩)
    ·exact absurd (by rw [<-h1]) e
    ·exact h1
   ·exact fun h1 => .inr ⟨h1,e⟩
 cases h1:getS (intoS N r) k with
 | some v=>exact ((key v).1 h1).symm
 | none=>
  cases h2:(if k=r.k then some r.v else getS N k) with
  | none=>rfl
  | some v=>rw [(key v).2 h2] at h1;cases h1
theorem getS_out {N:List Rt} (h:Sorted N) (j k:Ky):getS (outS N j) k=if k=j then none else getS N k:=by
 have hs:=outS_sorted j h
 have key:∀v,getS (outS N j) k=some v↔(if k=j then none else getS N k)=some v:=fun v=>by
  rw [getS_some hs,mem_outS]
  by_cases e:k=j
  ·rw [if_pos e]
   constructor
   ·rintro ⟨_,h1⟩;exact absurd e h1
   ·intro h1;cases h1
  ·rw [if_neg e,getS_some h]
   exact ⟨fun h1=>h1.1,fun h1=>⟨h1,e⟩⟩
 cases h1:getS (outS N j) k with
 | some v=>exact ((key v).1 h1).symm
 | none=>
  cases h2:(if k=j then none else getS N k) with
  | none=>rfl
  | some v=>rw [(key v).2 h2] at h1;cases h1
structure Ch where
 k:Ky
 o:Int
 n:Int
def chS (A B:List Rt) (k:Ky):Ch:=⟨k,(getS A k).getD (-1),(getS B k).getD (-1)⟩
def turnB (A B:List Rt) (k:Ky):Bool:=decide (getS A k≠getS B k)
def ofS (A B:List Rt):List Ch:=((keysR (sortR (A++B))).filter (turnB A B)).map (chS A B)
def SortedC (L:List Ch):Prop:=L.Pairwise fun a b=>lessK a.k b.k=true
theorem keys_sort (l:List Rt) (k:Ky):k∈keysR (sortR l)↔k∈keysR l:=by
 unfold keysR
 simp only [List.mem_map]
 constructor
 ·rintro ⟨q,hq,e⟩
  have h:=((sortR_mem l).2 q).1 hq
  unfold lst at h
  exact ⟨q,(List.mem_filter.1 (List.mem_of_getLast? h)).1,e⟩
 ·rintro ⟨q,hq,e⟩
  cases hl:(l.filter fun r=>decide (r.k=k)).getLast? with
  | none=>
   have:=List.getLast?_eq_none_iff.1 hl
   have hm:q∈l.filter (fun r=>decide (r.k=k)):=List.mem_filter.2 ⟨hq,by simp [e]⟩
   rw [this] at hm
   cases hm
  | some x=>
   have hx:x.k=k:=of_decide_eq_true (List.mem_filter.1 (List.mem_of_getLast? hl)).2
   exact ⟨x,((sortR_mem l).2 x).2 (by unfold lst;rw [hx];exact hl),hx⟩
theorem of_sorted (A B:List Rt):SortedC (ofS A B):=by
 have h:=(sortR_mem (A++B)).1
 unfold ofS SortedC
 rw [List.pairwise_map]
 refine List.Pairwise.filter _ ?_
 unfold keysR
 rw [List.pairwise_map]
 exact h
theorem turn_keys {A B:List Rt} {k:Ky} (h:getS A k≠getS B k):k∈keysR (A++B):=by
 unfold keysR
 rw [List.map_append,List.mem_append]
 by_cases h1:k∈keysR A
 ·exact .inl h1
 ·by_cases h2:k∈keysR B
  ·exact .inr h2
  ·exact absurd ((getS_none.2 h1).trans (getS_none.2 h2).symm) h
theorem mem_of (A B:List Rt) (c:Ch):c∈ofS A B↔getS A c.k≠getS B c.k/\c=chS A B c.k:=by
 unfold ofS
 simp only [List.mem_map,List.mem_filter]
 constructor
 ·rintro ⟨k,⟨_,h1⟩,rfl⟩
  exact ⟨of_decide_eq_true h1,rfl⟩
 ·rintro ⟨h1,h2⟩
  exact ⟨c.k,⟨(keys_sort _ _).2 (turn_keys h1),decide_eq_true h1⟩,h2.symm⟩
theorem sortedC_ext:∀{L M:List Ch},SortedC L->SortedC M->(∀c,c∈L↔c∈M)->L=M
 | [],[],_,_,_=>rfl
 | [],b::M,_,_,h=>absurd ((h b).2 List.mem_cons_self) (by simp)
 | a::L,[],_,_,h=>absurd ((h a).1 List.mem_cons_self) (by simp)
 | a::L,b::M,hL,hM,h=>by
  have h1:=List.pairwise_cons.1 hL
  have h2:=List.pairwise_cons.1 hM
  have irr:∀k,lessK k k=true->False:=fun k hk=>by rw [lessK_irr] at hk;cases hk
  have hab:a=b:=by
   rcases List.mem_cons.1 ((h a).1 List.mem_cons_self) with e | e
   ·exact e
   ·rcases List.mem_cons.1 ((h b).2 List.mem_cons_self) with e2 | e2
    ·exact e2.symm
    ·exact (irr _ (lessK_trans (h1.1 b e2) (h2.1 a e))).elim
  subst hab
  congr 1
  refine sortedC_ext h1.2 h2.2 fun c=>⟨fun hc => ?_,fun hc => ?_⟩
  ·rcases List.mem_cons.1 ((h c).1 (List.mem_cons_of_mem _ hc)) with e | e
   ·subst e;exact (irr _ (h1.1 c hc)).elim
   ·exact e
  ·rcases List.mem_cons.1 ((h c).2 (List.mem_cons_of_mem _ hc)) with e | e
   ·subst e;exact (irr _ (h2.1 c hc)).elim
   ·exact e
theorem of_one {A B:List Rt} {M:List Ch} (hM:SortedC M) (h:∀c,c∈M↔getS A c.k≠getS B c.k/\c=chS A B c.k):M=ofS A B:=
 sortedC_ext hM (of_sorted A B) fun c=>by rw [h,mem_of]
theorem of_self (A:List Rt):ofS A A=[]:=by
 have:∀c,c∉ofS A A:=fun c hc=>((mem_of A A c).1 hc).1 rfl
 cases h:ofS A A with
 | nil=>rfl
 | cons c L=>exact absurd (by rw [h];exact List.mem_cons_self) (this c)
def backC (c:Ch):Ch:=⟨c.k,c.n,c.o⟩
theorem of_back (A B:List Rt):ofS B A=(ofS A B).map backC:=by
 refine (of_one (A:=B) (B:=A) ?_ fun c => ?_).symm
 ·unfold SortedC
  rw [List.pairwise_map]
  exact of_sorted A B
 ·rw [List.mem_map]
  constructor
  ·rintro ⟨d,hd,rfl⟩
   obtain ⟨h1,h2⟩:=(mem_of A B d).1 hd
   refine ⟨fun e=>h1 e.symm,?_⟩
   unfold chS at h2
   unfold chS backC
   rw [h2]
  ·rintro ⟨h1,h2⟩
   refine ⟨backC c,(mem_of A B _).2 ⟨fun e=>h1 e.symm,?_⟩,rfl⟩
   unfold chS at h2 ⊢
   unfold backC
   rw [h2]
def stepC (N:List Rt) (c:Ch):List Rt:=if 0<=c.n then intoS N ⟨c.k,c.n⟩ else outS N c.k
theorem stepC_sorted {N:List Rt} (h:Sorted N) (c:Ch):Sorted (stepC N c):=by
 unfold stepC
 split
 ·exact intoS_sorted _ h
 ·exact outS_sorted _ h
structure MidC (A B:List Rt) (i:Nat) (N:List Rt):Prop where
 sorted:Sorted N
 get:∀k,getS N k=if k∈((ofS A B).take i).map Ch.k then getS B k else getS A k
theorem MidC.start {A B:List Rt} (h:Sorted A):MidC A B 0 A:=⟨h,fun k=>by simp⟩
theorem pos_get {B:List Rt} (hB:Sorted B) (hp:∀r∈B,0<=r.v) {k:Ky} {v:Int} (h:getS B k=some v):0<=v:=hp _ ((getS_some hB).1 h)
theorem of_nodup (A B:List Rt):((ofS A B).map Ch.k).Nodup:=by
 unfold List.Nodup
 rw [List.pairwise_map]
 exact List.Pairwise.imp (fun {a b} hab e=>by rw [e,lessK_irr] at hab;cases hab) (of_sorted A B)
theorem not_before {A B:List Rt} {i:Nat} (hi:i<(ofS A B).length):(ofS A B)[i].k∉((ofS A B).take i).map Ch.k:=by
 intro h
 have hn:=of_nodup A B
 rw [<-List.take_append_drop i (ofS A B),List.map_append,List.nodup_append] at hn
 refine hn.2.2 _ h _ ?_ rfl
 rw [List.drop_eq_getElem_cons hi]
 exact List.mem_cons_self
theorem MidC.now {A B N:List Rt} {i:Nat} (H:MidC A B i N) (hA:Sorted A) (hB:Sorted B) (pA:∀r∈A,0<=r.v) (pB:∀r∈B,0<=r.v) (hi:i<(ofS A B).length) :
 (((getS N (ofS A B)[i].k).isSome=decide (0<=(ofS A B)[i].o))/\(∀v,getS N (ofS A B)[i].k=some v->v=(ofS A B)[i].o)/\(ofS A B)[i].o≠(ofS A B)[i].n)/\MidC A B (i+1) (stepC N (ofS A B)[i]):=by
 obtain ⟨h1,h2⟩:=(mem_of A B _).1 (List.getElem_mem hi)
 have hg:=H.get (ofS A B)[i].k
 rw [if_neg (not_before hi)] at hg
 have hsn:(ofS A B).take (i+1)=(ofS A B).take i++[(ofS A B)[i]]:=List.take_succ_eq_append_getElem hi
 generalize (ofS A B)[i]=c at h1 h2 hg hsn ⊢
 obtain ⟨k,o,n⟩:=c
 unfold chS at h2
 simp only at h1 h2 hg
 injection h2 with _ ho hn
 simp only
 refine ⟨⟨?_,?_,?_⟩,?_⟩
 ·rw [hg]
  cases ha:getS A k with
  | none=>rw [ha] at ho;rw [ho];rfl
  | some v=>
   rw [ha] at ho
   have:=pos_get hA pA ha
   rw [ho]
   exact (decide_eq_true this).symm
 ·intro v hv
  rw [hg] at hv
  rw [hv] at ho
  exact ho.symm
 ·intro e
  rw [ho,hn] at e
  cases ha:getS A k with
  | none=>
   cases hb:getS B k with
   | none=>exact h1 (ha.trans hb.symm)
   | some v=>
    rw [ha,hb] at e
    have:=pos_get hB pB hb
    have e:(-1:Int)=v:=e
    omega
  | some u=>
   have hu:=pos_get hA pA ha
   cases hb:getS B k with
   | none=>
    rw [ha,hb] at e
    have e:u=(-1:Int):=e
    omega
   | some v=>
    rw [ha,hb] at e
    have e:u=v:=e
    exact h1 (by rw [ha,hb,e])
 ·refine ⟨stepC_sorted H.sorted _,fun j => ?_⟩
  have hmem:j∈((ofS A B).take (i+1)).map Ch.k↔j∈((ofS A B).take i).map Ch.k\/j=k:=by
   rw [hsn,List.map_append,List.mem_append]
   simp
  have hst:getS (stepC N ⟨k,o,n⟩) j=if j=k then getS B k else getS N j:=by
   unfold stepC
   simp only
   cases hb:getS B k with
   | none=>
    rw [hb] at hn
    have hn:n=(-1:Int):=hn
    rw [if_neg (by omega),getS_out H.sorted]
   | some v=>
    rw [hb] at hn
    have hn:n=v:=hn
    have:=pos_get hB pB hb
    rw [if_pos (by omega),getS_into H.sorted,hn]
  rw [hst,H.get]
  by_cases e:j=k
  ·subst e
   rw [if_pos rfl,if_pos (hmem.2 (.inr rfl))]
  ·rw [if_neg e]
   by_cases e2:j∈((ofS A B).take i).map Ch.k
   ·rw [if_pos e2,if_pos (hmem.2 (.inl e2))]
   ·rw [if_neg e2,if_neg (fun h=>by rcases hmem.1 h with h | h;exact e2 h;exact e h)]
theorem MidC.done {A B N:List Rt} (H:MidC A B (ofS A B).length N) (hB:Sorted B):N=B:=by
 refine getS_ext H.sorted hB fun k => ?_
 rw [H.get,List.take_length]
 by_cases h:k∈(ofS A B).map Ch.k
 ·rw [if_pos h]
 ·rw [if_neg h]
  by_cases e:getS A k=getS B k
  ·exact e
  ·exact absurd (List.mem_map.2 ⟨chS A B k,(mem_of A B _).2 ⟨e,rfl⟩,rfl⟩) h
end Go.Proofs.YtgfjmgebecmbiaaGreat
namespace Go.Proofs.YtgfjmgebecmbiaaGreat
open Go Go.RowKit Go.Sort M
def ccell (c:Ch):List Value:=[.int .u64 (c.k.h:Int),.int .u64 (c.k.l:Int),.int .i64 c.k.n,.int .i64 c.o,.int .i64 c.n]
def ccs (L:List Ch):List Value:=L.flatMap ccell
theorem ccs_len (L:List Ch):(ccs L).length=L.length*5:=by
 unfold ccs
 induction L with
 | nil=>rfl
 | cons x L ih=>simp only [List.flatMap_cons,List.length_append,ih,ccell,List.length_cons,List.length_nil];omega
theorem ccs_append (L M:List Ch):ccs (L++M)=ccs L++ccs M:=by simp [ccs]
theorem ccs_cons (x:Ch) (L:List Ch):ccs (x::L)=ccell x++ccs L:=rfl
theorem ccs_one (p:Ch):ccs [p]=ccell p:=by simp [ccs]
theorem ccs_cell:∀(L:List Ch) (k j:Nat) (h:k<L.length),j<5->(ccs L)[k*5+j]? = (ccell L[k])[j]?
 | x::L,0,j,_,hj=>by
  rw [ccs_cons,List.getElem?_append_left (by simp [ccell];omega)]
  simp
 | x::L,k+1,j,h,hj=>by
  rw [ccs_cons,List.getElem?_append_right (by simp [ccell];omega),show (k+1)*5+j-(ccell x).length=k*5+j by simp [ccell];omega]
  rw [ccs_cell L k j (by simpa using h) hj]
  simp
theorem Row.ch {w:World} {p:Option Addr} {L:List Ch} (h:Row w p (ccs L)) {k:Nat} (hk:k<L.length):∃g o,p=some ⟨g,o,none⟩/\g<w.heap.size /\
 w.cell? ⟨g,o+k*5,none⟩=some (.int .u64 (L[k].k.h:Int))/\w.cell? ⟨g,o+k*5+1,none⟩=some (.int .u64 (L[k].k.l:Int))/\w.cell? ⟨g,o+k*5+2,none⟩=some (.int .i64 L[k].k.n) /\
 w.cell? ⟨g,o+k*5+3,none⟩=some (.int .i64 L[k].o)/\w.cell? ⟨g,o+k*5+4,none⟩=some (.int .i64 L[k].n):=by
 rcases h with h | ⟨g,o,e,hg,hc⟩
 ·have:=ccs_len L
  rw [h] at this
  simp at this;omega
 ·exact ⟨g,o,e,hg,hc (k*5) _ (ccs_cell L k 0 hk (by omega)),hc (k*5+1) _ (ccs_cell L k 1 hk (by omega)),hc (k*5+2) _ (ccs_cell L k 2 hk (by omega)),hc (k*5+3) _ (ccs_cell L k 3 hk (by omega)),hc (k*5+4) _ (ccs_cell L k 4 hk (by omega))⟩
def NewChs (t:TypeId) (w w':World) (e:Ending) (L:List Ch):Prop:=∃p c,e = .returned (.slice p L.length c)/\w'.ownsRow w.heap.size t 5 (.slice p L.length c) L.length (ccs L)/\Below w.heap.size w w'
theorem five_new {w:World} {g:Nat} {c:Ch} (h0:w.cell? ⟨g,0,none⟩=some (.int .u64 (c.k.h:Int))) (h1:w.cell? ⟨g,1,none⟩=some (.int .u64 (c.k.l:Int))) (h2:w.cell? ⟨g,2,none⟩=some (.int .i64 c.k.n)) (h3:w.cell? ⟨g,3,none⟩=some (.int .i64 c.o)) (h4:w.cell? ⟨g,4,none⟩=some (.int .i64 c.n)) :
 ∀j u,(ccell c)[j]? = some u->w.cell? ((⟨g,0,none⟩:Addr).add j)=some u:=by
 intro j u hj
 rw [show (⟨g,0,none⟩:Addr).add j=⟨g,j,none⟩ by unfold Addr.add;split<;>simp_all]
 match j,hj with
 | 0,hj=>simp [ccell] at hj;subst hj;exact h0
 | 1,hj=>simp [ccell] at hj;subst hj;exact h1
 | 2,hj=>simp [ccell] at hj;subst hj;exact h2
 | 3,hj=>simp [ccell] at hj;subst hj;exact h3
 | 4,hj=>simp [ccell] at hj;subst hj;exact h4
end Go.Proofs.YtgfjmgebecmbiaaGreat
namespace Go.Proofs.YtgfjmgebecmbiaaGreat
open Go.ChangeShapes Go.WideShapes Go.ChangeAt Go.RowKit Go.Joins Go.Deep M
def adrA (a:Nat×Nat):List Value:=[.int .u64 (a.1:Int),.int .u64 (a.2:Int)]
theorem RowA.adr {w:World} {p:Option Addr} {T:List (Nat×Nat)} (h:RowA 2 adrA w p T) {i:Nat} (hi:i<T.length):∃g o,p=some ⟨g,o,none⟩/\g<w.heap.size/\w.cell? ⟨g,o+i*2,none⟩=some (.int .u64 (T[i].1:Int))/\w.cell? ⟨g,o+i*2+1,none⟩=some (.int .u64 (T[i].2:Int)):=by
 rcases h with h | ⟨g,o,e,hg,hc⟩
 ·rw [h] at hi
  simp at hi
 ·exact ⟨g,o,e,hg,hc i hi 0 _ rfl,hc i hi 1 _ rfl⟩
section
variable {H:Type} {enc:TypeId×Value->H} {w:World} {base:Nat} {spare:Nat->Bool} {held:Bool} {r:Reach} {b0:Nat}
set_option maxRecDepth 100000 in
theorem elemAdr (n:Nat) (cs:List Value) (x:DataW H×List MemPlace) (h:DataW.trod enc Tryz.prog w base spare held n 37 cs=some x):∃a:Nat×Nat,cs=adrA a/\(W64 a.1/\W64 a.2):=by
 obtain ⟨xs,m,-,-,hl,hxl,hf⟩:=DataW.trod_struct Tryz.underlying37 h
 rw [cellsA] at hl
 have h1:DataW.trod enc Tryz.prog w base spare held m 24 ((cs.drop 0).take (Tryz.prog.cellsOf 24))=xs[0]? := hf 0 _ rfl
 have h2:DataW.trod enc Tryz.prog w base spare held m 24 ((cs.drop 1).take (Tryz.prog.cellsOf 24))=xs[1]? := hf 1 _ rfl
 rw [cells64] at h1 h2
 obtain ⟨c0,c1,rfl⟩:∃c0 c1,cs=[c0,c1]:=by
  rcases cs with _ | ⟨c0,_ | ⟨c1,_ | ⟨c2,cs⟩⟩⟩<;>simp at hl
  exact ⟨c0,c1,rfl⟩
 simp only [List.drop_zero,List.take_succ_cons,List.take_zero,List.drop_succ_cons] at h1 h2
 rw [List.getElem?_eq_getElem (by rw [hxl];decide)] at h1 h2
 obtain ⟨a,e1,-,w1⟩:=DataW.trod_int Tryz.underlying24 h1
 obtain ⟨b,e2,-,w2⟩:=DataW.trod_int Tryz.underlying24 h2
 simp only [List.cons.injEq,and_true] at e1 e2
 obtain ⟨i,rfl,hi⟩:=wf_u64 w1
 obtain ⟨j,rfl,hj⟩:=wf_u64 w2
 exact ⟨(i,j),by rw [e1,e2];rfl,hi,hj⟩
set_option maxRecDepth 100000 in
theorem open_addrs {v:Value} {d:DataW H} {p:List MemPlace} (hv:Value.okWide Tryz.prog w r b0 27 v) (h:DataW.Trod enc Tryz.prog w base spare held 27 v d p) :
 ∃(q:Option Addr) (c:Nat) (L:List (Nat×Nat)),v = .slice q L.length c/\RowA 2 adrA w q L/\(∀a∈L,W64 a.1/\W64 a.2)/\L.length<=maxLen:=
 open_elems Tryz.underlying27 cellsA (by decide) (fun _ _=>by simp [adrA]) elemAdr hv h
end
end Go.Proofs.YtgfjmgebecmbiaaGreat
namespace Go.Proofs.YtgfjmgebecmbiaaGreat
open M
theorem dep_get (N:List Rt) (ah al m:Nat):depV N ah al m=getS N (cutK ah al m):=rfl
theorem hop_best {N:List Rt} (hN:Sorted N) (low:Int) (k:Ky):hopK N low k=(bestM (depV N k.h k.l) low k.n 129).bind (depV N k.h k.l):=by
 unfold hopK
 rcases lng_best (N:=N) k.h k.l low k.n with ⟨h1,h2⟩ | ⟨b,hb,m,h1,h2,h3⟩
 ·rw [h1,h2];rfl
 ·rw [h1,h2]
  show some (N.getD b _).v=depV N k.h k.l m
  rw [getD_at hb,dep_of hN.nodup (List.getElem_mem hb) h3]
theorem getS_set {N:List Rt} {low high:Int} (hl:low<high) (k:Ky):getS (setS N low high) k=if k∈keysS N low high then some (hopV N low k) else none:=by
 by_cases h:k∈keysS N low high
 ·rw [if_pos h]
  exact (getS_some (set_sorted N low high)).2 ((mem_setS _ _ _ _).2 ⟨hl,h,rfl⟩)
 ·rw [if_neg h,getS_none]
  unfold keysR
  rw [List.mem_map]
  rintro ⟨q,hq,rfl⟩
  exact h ((mem_setS _ _ _ _).1 hq).2.1
theorem mem_keysS {N:List Rt} {low high:Int} {k:Ky}:k∈keysS N low high↔∃j∈keysR N,low<j.n/\j.n<=high/\k∈sprK j high:=by
 unfold keysS keysR insB
 simp only [List.mem_flatMap,List.mem_filter,Bool.and_eq_true,decide_eq_true_eq,List.mem_map]
 constructor
 ·rintro ⟨r,⟨hr,h1,h2⟩,hk⟩
  exact ⟨r.k,⟨r,hr,rfl⟩,h1,h2,hk⟩
 ·rintro ⟨_,⟨r,hr,rfl⟩,h1,h2,hk⟩
  exact ⟨r,⟨hr,h1,h2⟩,hk⟩
def lvlM (N:List Rt) (p:Ky) (hop:Int):List Rt:=if 0<=hop then intoS (outS N p) ⟨p,hop⟩ else outS N p
theorem lvl_sorted {N:List Rt} (h:Sorted N) (p:Ky) (hop:Int):Sorted (lvlM N p hop):=by
 unfold lvlM
 split
 ·exact intoS_sorted _ (outS_sorted _ h)
 ·exact outS_sorted _ h
theorem lvl_far {N:List Rt} (h:Sorted N) {p k:Ky} (hop:Int) (hk:k≠p):getS (lvlM N p hop) k=getS N k:=by
 unfold lvlM
 split
 ·rw [getS_into (outS_sorted _ h),if_neg hk,getS_out h,if_neg hk]
 ·rw [getS_out h,if_neg hk]
theorem lvl_good {N:List Rt} (hg:∀r∈N,W64 r.k.h/\W64 r.k.l) {p:Ky} (hp:W64 p.h/\W64 p.l) (h:Sorted N) (hop:Int):∀r∈lvlM N p hop,W64 r.k.h/\W64 r.k.l:=by
 intro r hr
 unfold lvlM at hr
 split at hr
 ·rcases (mem_into (outS_sorted _ h)).1 hr with e | ⟨e,_⟩
  ·rw [e];exact hp
  ·exact hg r (mem_outS.1 e).1
 ·exact hg r (mem_outS.1 hr).1
theorem keysR_good {N:List Rt} (hg:∀r∈N,W64 r.k.h/\W64 r.k.l) {j:Ky} (hj:j∈keysR N):W64 j.h/\W64 j.l:=by
 unfold keysR at hj
 obtain ⟨r,hr,rfl⟩:=List.mem_map.1 hj
 exact hg r hr
theorem keysS_n {N:List Rt} (hg:∀r∈N,W64 r.k.h/\W64 r.k.l) {low high:Int} {k:Ky} (h:k∈keysS N low high):k.n=high:=by
 obtain ⟨j,hj,-,-,hk⟩:=mem_keysS.1 h
 have:=keysR_good hg hj
 exact ((mem_spr this.1 this.2 _ _).1 hk).2.2.2.1
theorem few {N:List Rt} (hN:Sorted N) (hg:∀r∈N,W64 r.k.h/\W64 r.k.l) {p:Ky} (hp:W64 p.h/\W64 p.l) (hop:Int) {low high:Int} (hl:low<high) {c:Ch} (hc:c∈ofS (setS N low high) (setS (lvlM N p hop) low high)) :
 c.k.n=high/\hasB p.h p.l p.n c.k.h c.k.l=true/\low<p.n/\p.n<=high/\c.k∈sprK p high:=by
 obtain ⟨h1,-⟩:=(mem_of _ _ c).1 hc
 generalize c.k=k at h1 ⊢
 have hM:=lvl_sorted hN p hop
 have hgM:=lvl_good hg hp hN hop
 rw [getS_set hl,getS_set hl] at h1
 have hn:k.n=high:=by
  by_cases e1:k∈keysS N low high
  ·exact keysS_n hg e1
  ·by_cases e2:k∈keysS (lvlM N p hop) low high
   ·exact keysS_n hgM e2
   ·rw [if_neg e1,if_neg e2] at h1;exact absurd rfl h1
 have hkeys:∀j,j≠p->(j∈keysR (lvlM N p hop)↔j∈keysR N):=fun j hj=>by
  have e:=lvl_far hN hop hj
  have a:=getS_none (N:=lvlM N p hop) (k:=j)
  have b:=getS_none (N:=N) (k:=j)
  rw [e] at a
  constructor
  ·intro h3
   by_cases h4:j∈keysR N
   ·exact h4
   ·exact absurd h3 (a.1 (b.2 h4))
  ·intro h3
   by_cases h4:j∈keysR (lvlM N p hop)
   ·exact h4
   ·exact absurd h3 (b.1 (a.2 h4))
 have main:¬(hasB p.h p.l p.n k.h k.l=true/\low<p.n/\p.n<=high/\k∈sprK p high)->False:=by
  intro hno
  have hin:k∈keysS N low high↔k∈keysS (lvlM N p hop) low high:=by
   rw [mem_keysS,mem_keysS]
   constructor
   ·rintro ⟨j,hj,h2,h3,h4⟩
    have hjp:j≠p:=fun e=>by
     subst e
     exact hno ⟨((mem_spr hp.1 hp.2 _ _).1 h4).2.2.2.2.2.2.2,h2,h3,h4⟩
    exact ⟨j,(hkeys j hjp).2 hj,h2,h3,h4⟩
   ·rintro ⟨j,hj,h2,h3,h4⟩
    have hjp:j≠p:=fun e=>by
     subst e
     exact hno ⟨((mem_spr hp.1 hp.2 _ _).1 h4).2.2.2.2.2.2.2,h2,h3,h4⟩
    exact ⟨j,(hkeys j hjp).1 hj,h2,h3,h4⟩
  by_cases hk:k∈keysS N low high
  ·rw [if_pos hk,if_pos (hin.1 hk)] at h1
   apply h1
   congr 1
   have hw:W64 k.h/\W64 k.l/\rightB k.h k.l k.n=true:=by
    obtain ⟨j,hj,-,-,h4⟩:=mem_keysS.1 hk
    have:=keysR_good hg hj
    have h5:=(mem_spr this.1 this.2 _ _).1 h4
    exact ⟨h5.2.2.2.2.1,h5.2.2.2.2.2.1,by rw [hn];exact h5.2.2.2.2.2.2.1⟩
   have h128:high<=128:=by
    have:=(rightB_val _ _ _ hw.2.1).1 hw.2.2
    omega
   obtain ⟨j,hj,hj1,hj2,hj3⟩:=mem_keysS.1 hk
   have hg4:=keysR_good hg hj
   have h5:=(mem_spr hg4.1 hg4.2 _ _).1 hj3
   obtain ⟨mj,hmj,hje⟩:=(has_cutK _ _ _).1 h5.2.2.2.2.2.2.2
   have hjn:j.n=(mj:Int):=by rw [hje];rfl
   have hD:∀m:Nat,mj<=m->low<(m:Int)->(m:Int)<=high->depV (lvlM N p hop) k.h k.l m=depV N k.h k.l m:=fun m h0 h2 h3=>by
    rw [dep_get,dep_get]
    refine lvl_far hN hop fun e => ?_
    have hh:hasB p.h p.l p.n k.h k.l=true:=(has_cutK _ _ _).2 ⟨m,by omega,e.symm⟩
    have hpn:p.n=(m:Int):=by rw [<-e];rfl
    exact hno ⟨hh,by omega,by omega,(mem_spr hp.1 hp.2 _ _).2 ⟨by omega,by omega,by omega,hn,hw.1,hw.2.1,by rw [<-hn];exact hw.2.2,hh⟩⟩
   unfold hopV
   rw [hop_best hN,hop_best hM,hn]
   have hdj:(depV N k.h k.l mj).isSome=true:=by
    rw [dep_get,<-hje]
    cases h6:getS N j with
    | some v=>rfl
    | none=>exact absurd hj (getS_none.1 h6)
   obtain ⟨b,hbm⟩:∃b,bestM (depV N k.h k.l) low high 129=some b:=by
    cases hb:bestM (depV N k.h k.l) low high 129 with
    | some b=>exact ⟨b,rfl⟩
    | none=>exact absurd ⟨by omega,by omega,hdj⟩ (best_none.1 hb mj (by omega))
   obtain ⟨b1,b2,b3⟩:=best_some.1 hbm
   have hbj:mj<=b:=by
    by_cases h6:mj<=b
    ·exact h6
    ·exact absurd ⟨by omega,by omega,hdj⟩ (b3 mj (by omega) (by omega))
   have hbm2:bestM (depV (lvlM N p hop) k.h k.l) low high 129=some b:=best_some.2 ⟨b1,⟨b2.1,b2.2.1,by rw [hD b hbj b2.1 b2.2.1];exact b2.2.2⟩,fun m m1 m2 m3=>b3 m m1 m2 ⟨m3.1,m3.2.1,by rw [<-hD m (by omega) m3.1 m3.2.1];exact m3.2.2⟩⟩
   rw [hbm,hbm2]
   show (depV N k.h k.l b).getD 0=(depV (lvlM N p hop) k.h k.l b).getD 0
   rw [hD b hbj b2.1 b2.2.1]
  ·rw [if_neg hk,if_neg (fun h=>hk (hin.2 h))] at h1
   exact h1 rfl
 by_cases hcc:hasB p.h p.l p.n k.h k.l=true/\low<p.n/\p.n<=high/\k∈sprK p high
 ·exact ⟨hn,hcc⟩
 ·exact (main hcc).elim
theorem nodup_le:∀{L M:List Ky},L.Nodup->(∀k∈L,k∈M)->L.length<=M.length
 | [],_,_,_=>Nat.zero_le _
 | a::L,M,hn,h=>by
  have ha:=h a List.mem_cons_self
  have h2:=List.nodup_cons.1 hn
  have:=nodup_le (M:=M.erase a) h2.2 fun k hk=>(List.mem_erase_of_ne (fun e=>h2.1 (by rw [<-e];exact hk))).2 (h k (List.mem_cons_of_mem _ hk))
  rw [List.length_erase_of_mem ha] at this
  have hp:0<M.length:=List.length_pos_of_mem ha
  simp only [List.length_cons]
  omega
theorem few_len {N:List Rt} (hN:Sorted N) (hg:∀r∈N,W64 r.k.h/\W64 r.k.l) {p:Ky} (hp:W64 p.h/\W64 p.l) (hop:Int) {low high:Int} (hl:low<high) (hw8:high-low<=8):(ofS (setS N low high) (setS (lvlM N p hop) low high)).length<=256:=by
 have h:=nodup_le (L:=(ofS (setS N low high) (setS (lvlM N p hop) low high)).map Ch.k) (M:=sprK p high) (of_nodup _ _) fun k hk=>by
  obtain ⟨c,hc,rfl⟩:=List.mem_map.1 hk
  exact (few hN hg hp hop hl hc).2.2.2.2
 rw [List.length_map] at h
 refine Nat.le_trans h ?_
 unfold sprK
 rw [List.length_map,keysV_len _ _ _ _ hp.2]
 exact cnt_le _ _ _ _
end Go.Proofs.YtgfjmgebecmbiaaGreat

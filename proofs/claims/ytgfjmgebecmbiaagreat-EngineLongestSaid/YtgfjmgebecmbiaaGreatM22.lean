import Derived.Test.YtgfjmgebecmbiaaGreatW12a
import Derived.Test.YtgfjmgebecmbiaaGreatM19b
set_option linter.unusedSimpArgs false
set_option linter.unusedVariables false
namespace Go.Proofs.YtgfjmgebecmbiaaGreat
open M
structure Lv where
 n:Int
 s:Nat
 k:Int
 C:List Nat
 T:Tab
def Lv.plc (V:Lv) (q:Ky):List Int:=Go.Proofs.YtgfjmgebecmbiaaGreat.plc V.s q.h q.l q.n V.k V.C.length
def Lv.has (V:Lv) (q:Ky):Bool:=(getT V.T q).isSome
def Lv.turn (V:Lv) (c:Ch):Lv:=
 if c.k.n=V.n then
  if 0<=c.n then { V with C:=if V.has c.k then V.C else addL V.C (V.plc c.k),T:=putF 16 V.T ⟨c.k,c.n⟩ }
  else if V.has c.k then { V with C:=remL V.C (V.plc c.k),T:=(delT V.T c.k).1 } else V
 else V
def Lv.turns (V:Lv) (L:List Ch):Lv:=L.foldl Lv.turn V
theorem Lv.turns_snoc (V:Lv) (L:List Ch) (c:Ch):V.turns (L++[c])=(V.turns L).turn c:=by unfold Lv.turns;rw [List.foldl_append];rfl
def Lv.key (V:Lv) (ah al:Nat):Ky:=cutK ah al V.n.toNat
def Lv.may (V:Lv) (ah al:Nat):Bool:=mayL V.C (V.plc (V.key ah al))
def Lv.hit (V:Lv) (ah al:Nat):Option Int:=if V.may ah al then getT V.T (V.key ah al) else none
def rowT (n:Int) (N:List Rt) (c:Ch):List Rt:=if c.k.n=n then Znr N c else N
def Lv.cnt (V:Lv) (N:List Rt) (j:Nat):Nat:=((Zad N).flatMap V.plc).count (j:Int)
structure LvOk (V:Lv) (N:List Rt):Prop where
 kept:Kept V.T N
 small:∀c∈V.C,c<=15
 cov:∀j,j<V.C.length->min 15 (V.cnt N j)<=getN V.C (j:Int)
 len:∀r∈N,r.k.n=V.n
theorem Zkb {C:List Nat} {j:Nat} (h:j<C.length):getN C (j:Int)=C[j]:=by
 unfold getN
 rw [if_pos (by omega),Int.toNat_natCast,List.getD_eq_getElem?_getD,List.getElem?_eq_getElem h]
 rfl
theorem Zlk (C:List Nat) (a v j:Nat) (h:j<C.length):getN (C.set a v) (j:Int)=if a=j then v else getN C (j:Int):=by
 rw [Zkb (by simpa using h),List.getElem_set,Zkb h]
theorem Z5a (C:List Nat) (i:Int) (j:Nat) (h:j<C.length) (h16:∀c∈C,c<=15):min 15 (getN C (j:Int)+[i].count (j:Int))<=getN (upL C i) (j:Int):=by
 have hj:=h16 _ (List.getElem_mem h)
 rw [<-Zkb h] at hj
 unfold upL
 by_cases e:i=(j:Int)
 ·subst e
  have hc:[(j:Int)].count (j:Int)=1:=by simp
  rw [hc]
  by_cases hb:upB C (j:Int)=true
  ·rw [if_pos hb,Zlk _ _ _ _ h,if_pos (by simp)]
   omega
  ·rw [if_neg hb]
   unfold upB at hb
   simp only [Bool.and_eq_true,decide_eq_true_eq,not_and] at hb
   have h2:=hb ⟨by omega,by omega⟩
   omega
 ·have hc:[i].count (j:Int)=0:=by simp [List.count_cons,e]
  rw [hc]
  split
  ·rename_i hb
   unfold upB at hb
   simp only [Bool.and_eq_true,decide_eq_true_eq] at hb
   rw [Zlk _ _ _ _ h,if_neg (by omega)]
   omega
  ·omega
theorem Zni (C:List Nat) (i:Int) (h16:∀c∈C,c<=15):∀c∈upL C i,c<=15:=by
 intro c hc
 unfold upL at hc
 split at hc
 ·rename_i hb
  rcases List.mem_or_eq_of_mem_set hc with h | h
  ·exact h16 c h
  ·subst h
   have:=Zka h16 i
   unfold upB at hb
   simp only [Bool.and_eq_true,decide_eq_true_eq] at hb
   omega
 ·exact h16 c hc
theorem Zua:∀(L:List Int) (C:List Nat) (j:Nat),j<C.length->(∀c∈C,c<=15)->min 15 (getN C (j:Int)+L.count (j:Int))<=getN (addL C L) (j:Int)
 | [],C,j,_,_=>by
  show min 15 (_+0)<=getN C (j:Int)
  omega
 | i::L,C,j,h,h16=>by
  show _<=getN (addL (upL C i) L) (j:Int)
  have h1:=Z5a C i j h h16
  have h2:=Zua L (upL C i) j (by rw [Zqc];exact h) (Zni C i h16)
  have h3:(i::L).count (j:Int)=[i].count (j:Int)+L.count (j:Int):=by
   rw [show i::L=[i]++L from rfl,List.count_append]
  rw [h3]
  omega
theorem Zlx:∀(L:List Int) (C:List Nat),(∀c∈C,c<=15)->∀c∈addL C L,c<=15
 | [],_,h=>h
 | i::L,C,h=>Zlx L (upL C i) (Zni C i h)
theorem Zvw {T:Tab} (H:Inv T) {k:Ky} (h:k∉Zad (Zae T)):getT T k=none:=by
 have hno:∀b,b<T.B.length->getC (T.bk b) k=none:=by
  intro b hb
  cases e:getC (T.bk b) k with
  | none=>rfl
  | some v=>
   obtain ⟨i,hi,-,q,hq,hqk,-⟩:=Ze0 (by rw [e];rfl:(getC (T.bk b) k).isSome=true)
   exact absurd (by rw [<-hqk];exact Zcd (Zir hb (hq▸List.getElem_mem hi))) h
 unfold getT
 rw [hno _ (H.x1_lt _),hno _ (H.x2_lt _)]
 show (List.find? _ _).map _=none
 rw [List.find?_eq_none.2]
 ·rfl
 ·intro r hr
  simp only [decide_eq_true_eq]
  intro e
  exact h (by rw [<-e];exact Zcd (List.mem_append_right _ hr))
theorem LvOk.get {V:Lv} {N:List Rt} (H:LvOk V N) (q:Ky):getT V.T q=getS N q:=by
 by_cases h:q∈Zad N
 ·unfold Zad at h
  obtain ⟨r,hr,rfl⟩:=List.mem_map.1 h
  rw [H.kept.get hr]
  exact ((Zbz H.kept.sort (k:=r.k) (v:=r.v)).2 hr).symm
 ·rw [Zvw H.kept.inv (fun h2=>h ((Za6 H.kept.all).mem_iff.1 h2)),Zb0.2 h]
theorem LvOk.has {V:Lv} {N:List Rt} (H:LvOk V N) (q:Ky):V.has q=true↔q∈Zad N:=by
 unfold Lv.has
 rw [H.get]
 by_cases h:q∈Zad N
 ·unfold Zad at h
  obtain ⟨r,hr,rfl⟩:=List.mem_map.1 h
  rw [(Zbz H.kept.sort (k:=r.k) (v:=r.v)).2 hr]
  simp only [Option.isSome_some,true_iff]
  exact List.mem_map.2 ⟨r,hr,rfl⟩
 ·rw [Zb0.2 h]
  simp [h]
theorem Ztw {V:Lv} {N M:List Rt} (h:(Zad N).Perm (Zad M)) (j:Nat):V.cnt N j=V.cnt M j:=by
 unfold Lv.cnt
 exact (List.Perm.flatMap_right _ h).count_eq _
theorem Ztx (V:Lv) (r:Rt) (N:List Rt) (j:Nat):V.cnt (r::N) j=(V.plc r.k).count (j:Int)+V.cnt N j:=by
 unfold Lv.cnt Zad
 rw [List.map_cons,List.flatMap_cons,List.count_append]
theorem Ztv {V W:Lv} (h1:V.s=W.s) (h2:V.k=W.k) (h3:V.C.length=W.C.length) (N:List Rt) (j:Nat):V.cnt N j=W.cnt N j:=by
 unfold Lv.cnt Lv.plc
 rw [h1,h2,h3]
theorem Zi7 {N:List Rt} {k:Ky} (h:k∉Zad N):outS N k=N:=by
 unfold outS
 rw [List.filter_eq_self]
 intro r hr
 simp only [ne_eq,decide_not,Bool.not_eq_true',decide_eq_false_iff_not]
 intro e
 exact h (by rw [<-e];exact List.mem_map.2 ⟨r,hr,rfl⟩)
theorem Zpr {V:Lv} {N:List Rt} (hn:(Zad N).Nodup) {k:Ky} (h:k∈Zad N) (j:Nat):V.cnt N j=(V.plc k).count (j:Int)+V.cnt (outS N k) j:=by
 unfold Zad at h
 obtain ⟨r,hr,rfl⟩:=List.mem_map.1 h
 rw [Ztw (Za6 (Zc4 hn hr)),Ztx]
theorem Z3u {V:Lv} {N:List Rt} (hs:Sorted N) (r:Rt) (j:Nat):V.cnt (Zao N r) j=(V.plc r.k).count (j:Int)+V.cnt (outS N r.k) j:=by
 rw [Ztw (Za6 (Za7 r hs)),Ztx]
theorem Zin:∀(L:List Int) (C:List Nat),(∀c∈C,c<=15)->∀c∈remL C L,c<=15
 | [],_,h=>h
 | i::L,C,h=>Zin L (Zb4 C i) (by
  intro c hc
  unfold Zb4 at hc
  split at hc
  ·rcases List.mem_or_eq_of_mem_set hc with h2 | h2
   ·exact h c h2
   ·have:=Zka h i
    omega
  ·exact h c hc)
theorem LvOk.turn {V:Lv} {N:List Rt} (H:LvOk V N) (c:Ch) (hc:c.k.good):LvOk (V.turn c) (rowT V.n N c):=by
 unfold Lv.turn rowT
 by_cases hn:c.k.n=V.n
 ·rw [if_pos hn,if_pos hn]
  unfold Znr
  have hnd:=H.kept.sort.nodup
  by_cases h0:0<=c.n
  ·rw [if_pos h0,if_pos h0]
   refine ⟨H.kept.put 16 ⟨c.k,c.n⟩ hc,?_,?_,?_⟩
   ·show ∀x∈(if V.has c.k=true then V.C else addL V.C (V.plc c.k)),x<=15
    split
    ·exact H.small
    ·exact Zlx _ _ H.small
   ·intro j hj
    have hl:(if V.has c.k=true then V.C else addL V.C (V.plc c.k)).length=V.C.length:=by
     split
     ·rfl
     ·exact Zjd _ _
    have hj2:j<V.C.length:=by
     rw [<-hl]
     exact hj
    rw [Ztv (V:={ V with C:=if V.has c.k then V.C else addL V.C (V.plc c.k),T:=putF 16 V.T ⟨c.k,c.n⟩ }) (W:=V) rfl rfl hl,Z3u H.kept.sort]
    show _<=getN (if V.has c.k=true then V.C else addL V.C (V.plc c.k)) (j:Int)
    by_cases hh:V.has c.k=true
    ·rw [if_pos hh]
     have:=Zpr (V:=V) hnd ((H.has _).1 hh) j
     have:=H.cov j hj2
     simp only at *
     omega
    ·rw [if_neg hh,Zi7 (fun h=>hh ((H.has _).2 h))]
     have h1:=Zua (V.plc c.k) V.C j hj2 H.small
     have:=H.cov j hj2
     simp only at *
     omega
   ·intro r hr
    show r.k.n=V.n
    rcases (Zcy H.kept.sort).1 hr with e | ⟨e,-⟩
    ·rw [e];exact hn
    ·exact H.len r e
  ·rw [if_neg h0,if_neg h0]
   by_cases hh:V.has c.k=true
   ·rw [if_pos hh]
    refine ⟨H.kept.del c.k,?_,?_,fun r hr=>H.len r (Zay.1 hr).1⟩
    ·exact Zin _ _ H.small
    ·intro j hj
     have hl:(remL V.C (V.plc c.k)).length=V.C.length:=Zi0 _ _
     have hj2:j<V.C.length:=by
      rw [<-hl]
      exact hj
     rw [Ztv (V:={ V with C:=remL V.C (V.plc c.k),T:=(delT V.T c.k).1 }) (W:=V) rfl rfl hl]
     show _<=getN (remL V.C (V.plc c.k)) (j:Int)
     have h16:getN V.C (j:Int)<=15:=by
      have:=Zka H.small (j:Int)
      omega
     rw [Zi1 _ _ _ hj2 h16]
     have h1:=Zpr (V:=V) hnd ((H.has _).1 hh) j
     have h2:=H.cov j hj2
     split<;>omega
   ·rw [if_neg hh,Zi7 (fun h=>hh ((H.has _).2 h))]
    exact H
 ·rw [if_neg hn,if_neg hn]
  exact H
theorem LvOk.sure {V:Lv} {N:List Rt} (H:LvOk V N) {q:Ky} (h:q∈Zad N):mayL V.C (V.plc q)=true:=by
 refine Zs0 fun i hi => ?_
 obtain ⟨h0,h1⟩:=Z7x V.s q.h q.l q.n V.k V.C.length i hi
 have h0:0<=(V.plc q)[i]:=h0
 have h1:(V.plc q)[i]<(V.C.length:Int):=h1
 have hm:(V.plc q)[i]∈(Zad N).flatMap V.plc:=List.mem_flatMap.2 ⟨q,h,List.getElem_mem hi⟩
 obtain ⟨j,hj⟩:=Int.eq_ofNat_of_zero_le h0
 rw [hj] at h1 hm ⊢
 have h2:=H.cov j (by omega)
 have h3:0<V.cnt N j:=List.count_pos_iff.2 hm
 omega
theorem LvOk.hit {V:Lv} {N:List Rt} (H:LvOk V N) (ah al:Nat):V.hit ah al=getS N (V.key ah al):=by
 unfold Lv.hit
 rw [H.get]
 by_cases h:V.key ah al∈Zad N
 ·rw [show V.may ah al=true from H.sure h,if_pos rfl]
 ·rw [Zb0.2 h]
  split<;>rfl
theorem Zqj {L:List Rt} (hn:(Zad L).Nodup) (q:Rt):q∈Zap L↔q∈L:=by
 rw [(Za9 L).2]
 constructor
 ·intro e
  unfold lst at e
  exact (List.mem_filter.1 (List.mem_of_getLast? e)).1
 ·intro hq
  unfold lst
  have hall:∀x∈L.filter (fun r=>decide (r.k=q.k)),x=q:=fun x hx=>by
   obtain ⟨h3,h4⟩:=List.mem_filter.1 hx
   have h4:x.k=q.k:=of_decide_eq_true h4
   exact Zju hn h3 hq h4
  cases hl:(L.filter fun r=>decide (r.k=q.k)).getLast? with
  | none=>
   have:=List.getLast?_eq_none_iff.1 hl
   have hm:q∈L.filter (fun r=>decide (r.k=q.k)):=List.mem_filter.2 ⟨hq,by simp⟩
   rw [this] at hm
   cases hm
  | some x=>rw [hall x (List.mem_of_getLast? hl)]
theorem Kept.row {T:Tab} {N:List Rt} (H:Kept T N):allT T=N:=
 Zbt (Za9 _).1 H.sort fun q=>by
  show q∈Zap (Zae T)↔_
  rw [Zqj H.inv.keys,H.all.mem_iff]
def newV (n:Int) (s:Nat) (k:Int) (m b:Nat):Lv:=⟨n,s,k,List.replicate m 0,Zbq (mixN s) b⟩
theorem Z50 (n:Int) (s:Nat) (k:Int) (m b:Nat) (h1:1<=b) (h2:b<=65536):LvOk (newV n s k m b) []:=by
 refine ⟨Kept.empty (Zdl s) h1 h2,?_,?_,?_⟩
 ·intro c hc
  have hc:c∈List.replicate m 0:=hc
  rw [List.eq_of_mem_replicate hc]
  omega
 ·intro j hj
  show min 15 (List.count _ (List.flatMap _ []))<=_
  simp
 ·intro r hr
  cases hr
def badV (n k m b:Int):Prop:=¬(1<=n/\n<=128/\(1<=k/\k<=16/\1<=m/\m<=65536)/\1<=b/\b<=65536)
def Zek (n:Int) (N:List Rt) (L:List Ch):List Rt:=L.foldl (rowT n) N
theorem Zhx (n:Int) (N:List Rt) (L:List Ch) (c:Ch):Zek n N (L++[c])=rowT n (Zek n N L) c:=by unfold Zek;rw [List.foldl_append];rfl
theorem Z7o (V:Lv) (c:Ch):(V.turn c).n=V.n:=by
 unfold Lv.turn
 split
 ·split
  ·rfl
  ·split<;>rfl
 ·rfl
theorem Z7n (V:Lv) (c:Ch):(V.turn c).s=V.s/\(V.turn c).k=V.k/\(V.turn c).C.length=V.C.length:=by
 unfold Lv.turn
 split
 ·split
  ·refine ⟨rfl,rfl,?_⟩
   show (if V.has c.k=true then V.C else addL V.C (V.plc c.k)).length=_
   split
   ·rfl
   ·exact Zjd _ _
  ·split
   ·exact ⟨rfl,rfl,Zi0 _ _⟩
   ·exact ⟨rfl,rfl,rfl⟩
 ·exact ⟨rfl,rfl,rfl⟩
theorem Zhq (V:Lv):∀(L:List Ch),(V.turns L).n=V.n:=by
 intro L
 induction L generalizing V with
 | nil=>rfl
 | cons c L ih=>
  show ((V.turn c).turns L).n=V.n
  rw [ih,Z7o]
theorem Zws (V:Lv):∀(L:List Ch),(V.turns L).s=V.s/\(V.turns L).k=V.k/\(V.turns L).C.length=V.C.length:=by
 intro L
 induction L generalizing V with
 | nil=>exact ⟨rfl,rfl,rfl⟩
 | cons c L ih=>
  show ((V.turn c).turns L).s=V.s/\((V.turn c).turns L).k=V.k/\((V.turn c).turns L).C.length=V.C.length
  obtain ⟨h1,h2,h3⟩:=ih (V.turn c)
  obtain ⟨h4,h5,h6⟩:=Z7n V c
  exact ⟨h1.trans h4,h2.trans h5,h3.trans h6⟩
theorem Z1n (n:Int) (N:List Rt) (h:Sorted N) (c:Ch):(rowT n N c).length<=N.length+1:=by
 unfold rowT Znr
 have h1:(outS N c.k).length<=N.length:=List.length_filter_le _ _
 split
 ·split
  ·have:=(Za7 ⟨c.k,c.n⟩ h).length_eq
   simp only [List.length_cons] at this
   omega
  ·omega
 ·omega
theorem LvOk.turns {V:Lv} {N:List Rt} (H:LvOk V N):∀(L:List Ch),(∀c∈L,c.k.good)->LvOk (V.turns L) (Zek V.n N L)/\(Zek V.n N L).length<=N.length+L.length:=by
 intro L
 suffices HH:∀(m:Nat) (L:List Ch),L.length=m->(∀c∈L,c.k.good)->LvOk (V.turns L) (Zek V.n N L)/\(Zek V.n N L).length<=N.length+L.length from HH L.length L rfl
 intro m
 induction m with
 | zero=>
  intro L hl _
  obtain rfl:=List.eq_nil_of_length_eq_zero hl
  exact ⟨H,Nat.le_add_right _ _⟩
 | succ m ih=>
  intro L hl hg
  obtain ⟨L,c,rfl⟩:∃L' c,L=L'++[c]:=⟨L.dropLast,L.getLast (by intro e;simp [e] at hl),(List.dropLast_concat_getLast _).symm⟩
  obtain ⟨h1,h2⟩:=ih L (by simpa using hl) (fun x hx=>hg x (List.mem_append_left _ hx))
  have hc:=hg c (List.mem_append_right _ (by simp))
  rw [Lv.turns_snoc,Zhx]
  have h3:=h1.turn c hc
  rw [Zhq] at h3
  have h4:=Z1n V.n _ h1.kept.sort c
  rw [List.length_append,List.length_singleton]
  exact ⟨h3,by omega⟩
theorem Z6w {T:Tab}:T.st.length<=(Zae T).length:=by
 unfold Zae
 rw [List.length_append]
 omega
theorem LvOk.st {V:Lv} {N:List Rt} (H:LvOk V N):V.T.st.length<=N.length:=by
 have:=Z6w (T:=V.T)
 rw [H.kept.len] at this
 exact this
theorem Zdx (a:Rt) (A:List Rt) (k:Ky):getS (a::A) k=if a.k=k then some a.v else getS A k:=by
 unfold getS
 rw [List.find?_cons]
 by_cases h:a.k=k<;>simp [h]
theorem Zfj {a:Ky} {B:List Rt} (hb:∀b∈B,Zau a b.k=true):getS B a=none:=by
 rw [Zb0]
 unfold Zad
 rw [List.mem_map]
 rintro ⟨b,hb',e⟩
 have:=hb b hb'
 rw [e,Za0] at this
 cases this
theorem of_later {a:Ky} {A B:List Rt} (ha:∀b∈A,Zau a b.k=true) (hb:∀b∈B,Zau a b.k=true):∀c∈ofS A B,Zau a c.k=true:=by
 intro c hc
 have h:=Zgp ((Zdd A B c).1 hc).1
 unfold Zad at h
 obtain ⟨r,hr,e⟩:=List.mem_map.1 h
 rw [<-e]
 rcases List.mem_append.1 hr with h1 | h1
 ·exact ha r h1
 ·exact hb r h1
theorem Z5u {a:Rt} {A B:List Rt} (hA:Sorted (a::A)) (hb:∀b∈B,Zau a.k b.k=true):ofS (a::A) B=⟨a.k,a.v,-1⟩::ofS A B:=by
 obtain ⟨ha,-⟩:=List.pairwise_cons.1 hA
 have n1:=Zfj ha
 have n2:=Zfj hb
 refine (Zsr (List.pairwise_cons.2 ⟨of_later ha hb,Zdc A B⟩) fun c => ?_).symm
 rw [List.mem_cons,Zdd]
 obtain ⟨k,o,n⟩:=c
 by_cases e:a.k=k
 ·subst e
  unfold chS
  simp only [Zdx,if_true,n1,n2,ne_eq,not_true_eq_false,false_and,or_false]
  constructor
  ·intro h
   injection h with _ h2 h3
   rw [h2,h3]
   exact ⟨by simp,rfl⟩
  ·rintro ⟨-,h⟩
   exact h
 ·unfold chS
  simp only [Zdx,if_neg e]
  constructor
  ·rintro (h | h)
   ·injection h with h
    exact absurd h.symm e
   ·exact h
  ·exact .inr
theorem Z5v {a b:Rt} {A B:List Rt} (hA:Sorted (a::A)) (hB:Sorted (b::B)) (h:a.k=b.k):ofS (a::A) (b::B)=(if a.v=b.v then [] else [⟨b.k,a.v,b.v⟩])++ofS A B:=by
 obtain ⟨ha,-⟩:=List.pairwise_cons.1 hA
 obtain ⟨hb,-⟩:=List.pairwise_cons.1 hB
 rw [<-h] at hb
 have n1:=Zfj ha
 have n2:=Zfj hb
 have hl:=of_later ha hb
 have hs:Zgm ((if a.v=b.v then [] else [⟨b.k,a.v,b.v⟩])++ofS A B):=by
  by_cases e:a.v=b.v
  ·rw [if_pos e];exact Zdc A B
  ·rw [if_neg e,<-h];exact List.pairwise_cons.2 ⟨hl,Zdc A B⟩
 refine (Zsr hs fun c => ?_).symm
 rw [List.mem_append,Zdd]
 obtain ⟨k,o,n⟩:=c
 by_cases e:a.k=k
 ·subst e
  unfold chS
  simp only [Zdx,if_true,<-h,n1,n2,ne_eq,not_true_eq_false,false_and,or_false]
  by_cases e2:a.v=b.v
  ·rw [if_pos e2,e2]
   simp
  ·rw [if_neg e2]
   simp [e2]
 ·unfold chS
  have e2:¬b.k=k:=by rw [<-h];exact e
  simp only [Zdx,if_neg e,if_neg e2]
  constructor
  ·rintro (h1 | h1)
   ·split at h1
    ·cases h1
    ·simp at h1
     exact absurd h1.1.symm e2
   ·exact h1
  ·exact .inr
def Ze5:List Rt->List Rt->Bool
 | [],_=>false
 | _::_,[]=>true
 | a::_,b::_=>Zau a.k b.k
theorem Zlw {a:Rt} {A B:List Rt} (hA:Sorted (a::A)) (hB:Sorted B) (h:Ze5 (a::A) B=true):ofS (a::A) B=⟨a.k,a.v,-1⟩::ofS A B:=by
 refine Z5u hA fun q hq => ?_
 rcases B with _ | ⟨b,B⟩
 ·cases hq
 ·have h:Zau a.k b.k=true:=h
  rcases List.mem_cons.1 hq with rfl | hq
  ·exact h
  ·exact Zbh h ((List.pairwise_cons.1 hB).1 q hq)
theorem Zr2 {b:Rt} {A B:List Rt} (hA:Sorted A) (hB:Sorted (b::B)) (h:Ze5 (b::B) A=true):ofS A (b::B)=⟨b.k,-1,b.v⟩::ofS A B:=by
 rw [Zyc,Zlw hB hA h,List.map_cons,<-Zyc]
 rfl
theorem Zwc {A B:List Rt} (h1:Ze5 A B=false) (h2:Ze5 B A=false):(A=[]/\B=[])\/∃a A' b B',A=a::A'/\B=b::B'/\a.k=b.k:=by
 rcases A with _ | ⟨a,A⟩<;>rcases B with _ | ⟨b,B⟩
 ·exact .inl ⟨rfl,rfl⟩
 ·cases h2
 ·cases h1
 ·refine .inr ⟨a,A,b,B,rfl,rfl,?_⟩
  by_cases e:a.k=b.k
  ·exact e
  ·have:=Zb3 e
   have h1:Zau a.k b.k=false:=h1
   have h2:Zau b.k a.k=false:=h2
   rw [h1,h2] at this
   cases this
def Zg5 (p q:Ky):Bool:=decide (min p.n q.n<=(Zbr p.h p.l q.h q.l:Int))
def Zcr (p:Ky) (N:List Rt):List Rt:=N.filter fun r=>Zg5 p r.k
theorem Zil (P:Ky->Bool) (L:List Rt):Zap (L.filter fun r=>P r.k)=(Zap L).filter fun r=>P r.k:=by
 obtain ⟨h1,h2⟩:=Za9 L
 obtain ⟨h3,h4⟩:=Za9 (L.filter fun r=>P r.k)
 refine Zbt h3 (List.Pairwise.filter _ h1) fun q => ?_
 rw [h4,List.mem_filter,h2]
 unfold lst
 rw [List.filter_filter]
 by_cases hp:P q.k=true
 ·have:(L.filter fun r=>decide (r.k=q.k)&&P r.k)=L.filter fun r=>decide (r.k=q.k):=List.filter_congr fun r _=>by
   by_cases e:r.k=q.k
   ·rw [e,hp];simp
   ·simp [e]
  rw [this]
  simp [hp]
 ·have:(L.filter fun r=>decide (r.k=q.k)&&P r.k)=[]:=List.filter_eq_nil_iff.2 fun r _=>by
   by_cases e:r.k=q.k
   ·rw [e];simp [hp]
   ·simp [e]
  rw [this]
  simp [hp]
theorem Zea (P:Ky->Bool) (N:List Rt) (k:Ky):getS (N.filter fun r=>P r.k) k=if P k=true then getS N k else none:=by
 induction N with
 | nil=>simp [getS]
 | cons a N ih=>
  rw [List.filter_cons,Zdx]
  by_cases h:P a.k=true
  ·rw [if_pos h,Zdx,ih]
   by_cases e:a.k=k
   ·rw [if_pos e,if_pos e,if_pos (by rw [<-e];exact h)]
   ·rw [if_neg e,if_neg e]
  ·rw [if_neg h,ih]
   by_cases e:a.k=k
   ·rw [if_neg (by rw [<-e];exact h),if_neg (by rw [<-e];exact h)]
   ·rw [if_neg e]
theorem Zpo (ah al m x:Nat) (h:x<=m):cutK (cutK ah al m).h (cutK ah al m).l x=cutK ah al x:=by
 unfold cutK
 simp only
 rw [Zdf,Zdf,Nat.min_eq_right h,Nat.min_eq_right (by omega)]
theorem Zmn {ah al m m':Nat} (a:W64 ah) (b:W64 al) (h1:m<=128):Zg5 (cutK ah al m) (cutK ah al m')=true:=by
 unfold Zg5
 have g:=Zpn (m:=m) a b
 have g':=Zpn (m:=m') a b
 have h:=(Zru (m:=min m m') (m':=min m m') g.1 g.2 g'.1 g'.2 (by omega)).1 (by rw [Zpo _ _ _ _ (Nat.min_le_left _ _),Zpo _ _ _ _ (Nat.min_le_right _ _)])
 have hn:(cutK ah al m).n=(m:Int):=rfl
 have hn':(cutK ah al m').n=(m':Int):=rfl
 rw [decide_eq_true_eq,hn,hn']
 have:=h.2
 omega
theorem Zsu {N:List Rt} (hN:Sorted N) (hg:∀r∈N,W64 r.k.h/\W64 r.k.l) {p k:Ky} (hp:W64 p.h/\W64 p.l) {low high:Int} (hl:low<high) (hk:k∈sprK p high):getS (setS (Zcr p N) low high) k=getS (setS N low high) k:=by
 obtain ⟨k1,k2,k3,k4,k5,k6,k7,k8⟩:=(Zat hp.1 hp.2 _ _).1 hk
 obtain ⟨m,hm,hpm⟩:=(Zdn _ _ _).1 k8
 have hNs:Sorted (Zcr p N):=List.Pairwise.filter _ hN
 have hnear:∀j:Ky,hasB j.h j.l j.n k.h k.l=true->Zg5 p j=true:=fun j hj=>by
  obtain ⟨m',hm',hj'⟩:=(Zdn _ _ _).1 hj
  rw [hpm,hj']
  exact Zmn k5 k6 hm
 have hin:k∈Zbd (Zcr p N) low high↔k∈Zbd N low high:=by
  rw [Zcs,Zcs]
  constructor
  ·rintro ⟨j,hj,h2⟩
   refine ⟨j,?_,h2⟩
   unfold Zad Zcr at hj
   obtain ⟨r,hr,e⟩:=List.mem_map.1 hj
   exact List.mem_map.2 ⟨r,(List.mem_filter.1 hr).1,e⟩
  ·rintro ⟨j,hj,h2,h3,h4⟩
   refine ⟨j,?_,h2,h3,h4⟩
   have hg4:=Zdw hg hj
   have h5:=((Zat hg4.1 hg4.2 _ _).1 h4).2.2.2.2.2.2.2
   unfold Zad at hj
   obtain ⟨r,hr,e⟩:=List.mem_map.1 hj
   exact List.mem_map.2 ⟨r,List.mem_filter.2 ⟨hr,by rw [e];exact hnear j h5⟩,e⟩
 have hD:∀m:Nat,m<129->depV (Zcr p N) k.h k.l m=depV N k.h k.l m:=fun m' hm'=>by
  rw [Zgh,Zgh]
  unfold Zcr
  rw [Zea,if_pos]
  rw [hpm]
  exact Zmn k5 k6 hm
 rw [Zhb hl,Zhb hl]
 have hv:hopV (Zcr p N) low k=hopV N low k:=by
  unfold hopV
  rw [Zi9 hNs,Zi9 hN]
  have hb:Zbi (depV (Zcr p N) k.h k.l) low k.n 129=Zbi (depV N k.h k.l) low k.n 129:=Zfq fun m' hm'=>by rw [hD m' hm']
  rw [hb]
  cases hbm:Zbi (depV N k.h k.l) low k.n 129 with
  | none=>rfl
  | some b=>
   have h2:=(Zce.1 hbm).1
   show (depV (Zcr p N) k.h k.l b).getD 0=(depV N k.h k.l b).getD 0
   rw [hD b h2]
 rw [hv]
 by_cases h:k∈Zbd N low high
 ·rw [if_pos h,if_pos (hin.2 h)]
 ·rw [if_neg h,if_neg (fun e=>h (hin.1 e))]
theorem Zer {N:List Rt} (h:Sorted N) (p:Ky):Sorted (Zcr p N):=List.Pairwise.filter _ h
theorem Zor {p:Ky} {N:List Rt} {r:Rt} (h:r∈Zcr p N):r∈N:=(List.mem_filter.1 h).1
theorem Z19 {N:List Rt} (hN:Sorted N) (p:Ky) (hop:Int) (hp:Zg5 p p=true):lvlM (Zcr p N) p hop=Zcr p (lvlM N p hop):=by
 have hNs:=Zer hN p
 refine Zti (Zfe hNs p hop) (Zer (Zfe hN p hop) p) fun k => ?_
 have e1:∀k,getS (Zcr p N) k=if Zg5 p k=true then getS N k else none:=fun k=>Zea (Zg5 p) N k
 have e2:getS (Zcr p (lvlM N p hop)) k=if Zg5 p k=true then getS (lvlM N p hop) k else none:=Zea (Zg5 p) _ k
 rw [e2]
 unfold lvlM
 by_cases h:0<=hop
 ·rw [if_pos h,if_pos h,Zhc (Zav _ hNs),Zhc (Zav _ hN),Zd9 hNs,Zd9 hN,e1]
  by_cases e:k=p
  ·subst e
   simp [hp]
  ·simp only [if_neg e]
 ·rw [if_neg h,if_neg h,Zd9 hNs,Zd9 hN,e1]
  by_cases e:k=p
  ·subst e
   simp
  ·simp only [if_neg e]
theorem Z5t {N:List Rt} (hN:Sorted N) (hg:∀r∈N,W64 r.k.h/\W64 r.k.l) {p:Ky} (hp:W64 p.h/\W64 p.l) (hop:Int) {low high:Int} (hl:low<high) :
 ofS (setS (Zcr p N) low high) (setS (lvlM (Zcr p N) p hop) low high)=ofS (setS N low high) (setS (lvlM N p hop) low high):=by
 have hNs:=Zer hN p
 have hgs:∀r∈Zcr p N,W64 r.k.h/\W64 r.k.l:=fun r hr=>hg r (Zor hr)
 have hMg:=Zs3 hg hp hN hop
 have hM:=Zfe hN p hop
 have key:∀k,k∈sprK p high->getS (setS (Zcr p N) low high) k=getS (setS N low high) k/\getS (setS (lvlM (Zcr p N) p hop) low high) k=getS (setS (lvlM N p hop) low high) k:=fun k hk=>by
  refine ⟨Zsu hN hg hp hl hk,?_⟩
  have h1:=(Zat hp.1 hp.2 _ _).1 hk
  obtain ⟨m,hm,hpm⟩:=(Zdn _ _ _).1 h1.2.2.2.2.2.2.2
  have hself:Zg5 p p=true:=by
   rw [hpm]
   exact Zmn h1.2.2.2.2.1 h1.2.2.2.2.2.1 hm
  rw [Z19 hN p hop hself]
  exact Zsu hM hMg hp hl hk
 refine Zsr (Zdc _ _) fun c => ?_
 constructor
 ·intro hc
  have h1:=(few hNs hgs hp hop hl hc).2.2.2.2
  obtain ⟨h2,h3⟩:=(Zdd _ _ c).1 hc
  obtain ⟨e1,e2⟩:=key _ h1
  rw [e1,e2] at h2
  refine ⟨h2,?_⟩
  unfold chS at h3 ⊢
  rw [e1,e2] at h3
  exact h3
 ·rintro ⟨h2,h3⟩
  have hc:c∈ofS (setS N low high) (setS (lvlM N p hop) low high):=(Zdd _ _ c).2 ⟨h2,h3⟩
  have h1:=(few hN hg hp hop hl hc).2.2.2.2
  obtain ⟨e1,e2⟩:=key _ h1
  refine (Zdd _ _ c).2 ⟨by rw [e1,e2];exact h2,?_⟩
  unfold chS at h3 ⊢
  rw [e1,e2]
  exact h3
theorem Z75 {N:List Rt} (hN:Sorted N) (hg:∀r∈N,W64 r.k.h/\W64 r.k.l) {p:Ky} (hp:W64 p.h/\W64 p.l) (hop:Int) {low high:Int} (h:p.n<=low\/high<p.n):ofS (setS N low high) (setS (lvlM N p hop) low high)=[]:=by
 by_cases hl:low<high
 ·cases hO:ofS (setS N low high) (setS (lvlM N p hop) low high) with
  | nil=>rfl
  | cons c L=>
   have:=few hN hg hp hop hl (c:=c) (by rw [hO];exact List.mem_cons_self)
   omega
 ·unfold setS
  rw [if_neg hl,if_neg hl]
  exact Zyb _
theorem Zw9 (p:Ky) (L:List Rt):Zap (Zcr p L)=Zcr p (Zap L):=Zil (Zg5 p) L
theorem Z1k (p:Ky) (hop:Int) (L:List Rt):Zap (if 0<=hop then outS L p++[⟨p,hop⟩] else outS L p)=lvlM (Zap L) p hop:=by
 have e:Zap (outS L p)=outS (Zap L) p:=by
  have h:=Zil (fun k => !decide (k=p)) L
  unfold outS
  simpa using h
 unfold lvlM
 by_cases h:0<=hop
 ·rw [if_pos h,if_pos h,Ze9,e]
 ·rw [if_neg h,if_neg h,e]
theorem Zla {A B:List Rt} (hA:∀r∈A,r.k.good) (hB:∀r∈B,r.k.good):∀c∈ofS A B,c.k.good:=by
 intro c hc
 have:=Zgp ((Zdd _ _ _).1 hc).1
 unfold Zad at this
 obtain ⟨r,hr,e⟩:=List.mem_map.1 this
 rw [<-e]
 rcases List.mem_append.1 hr with h | h
 ·exact hA r h
 ·exact hB r h
theorem Zfb {N:List Rt} (hg:∀r∈N,r.k.good) {low high:Int} {r:Rt} (hr:r∈setS N low high):r.k.good/\r.k.n=high:=by
 have h:=((Zdm _ _ _ _).1 hr).2.1
 obtain ⟨j,hj,-,-,hk⟩:=Zcs.1 h
 have hgj:=Zdw (N:=N) hg hj
 have h5:=(Zat hgj.1 hgj.2 _ _).1 hk
 exact ⟨⟨h5.2.2.2.2.1,h5.2.2.2.2.2.1⟩,h5.2.2.2.1⟩
theorem Zsf {N:List Rt} (hp:∀r∈N,0<=r.v) (low high:Int):∀r∈setS N low high,0<=r.v:=by
 intro r hr
 rw [((Zdm _ _ _ _).1 hr).2.2]
 unfold hopV hopK
 cases e:lngI N (Za8 r.k.h r.k.l low r.k.n) N.length with
 | none=>exact Int.le_refl _
 | some b=>
  have h:=Zoy N (Za8 r.k.h r.k.l low r.k.n) N.length (Nat.le_refl _)
  rw [e] at h
  obtain ⟨hb,-⟩:=h
  show 0<=(N.getD b _).v
  rw [getD_at hb]
  exact hp _ (List.getElem_mem hb)
theorem Z5g {A B:List Rt} (hA:Sorted A) (hB:Sorted B) (pA:∀r∈A,0<=r.v) (pB:∀r∈B,0<=r.v) {m:Int} (nA:∀r∈A,r.k.n=m) (nB:∀r∈B,r.k.n=m):Zek m A (ofS A B)=B:=by
 have hn:∀c∈ofS A B,c.k.n=m:=fun c hc=>by
  have:=Zgp ((Zdd _ _ _).1 hc).1
  unfold Zad at this
  obtain ⟨r,hr,e⟩:=List.mem_map.1 this
  rw [<-e]
  rcases List.mem_append.1 hr with h | h
  ·exact nA r h
  ·exact nB r h
 have key:∀i,i<=(ofS A B).length->MidC A B i (Zek m A ((ofS A B).take i)):=by
  intro i
  induction i with
  | zero=>intro _;exact MidC.start hA
  | succ i ih=>
   intro hi
   have hlt:i<(ofS A B).length:=hi
   have h:=((ih (by omega)).now hA hB pA pB hlt).2
   rw [List.take_succ_eq_append_getElem hlt,Zhx]
   unfold rowT
   rw [if_pos (hn _ (List.getElem_mem hlt))]
   exact h
 have h:=key _ (Nat.le_refl _)
 rw [List.take_length] at h
 exact h.done hB
def Zd2 (R R':List Rt):Int->List Lv->List Lv
 | _,[]=>[]
 | a,V::L=>V.turns (ofS (setS R a V.n) (setS R' a V.n))::Zd2 R R' V.n L
def EgLv (R:List Rt):Int->List Lv->Prop
 | _,[]=>True
 | a,V::L=>((0<=a/\a<V.n/\V.n-a<=8/\V.n<=128)/\LvOk V (setS R a V.n))/\EgLv R V.n L
def topE:Int->List Lv->Int
 | a,[]=>a
 | _,V::L=>topE V.n L
structure Zie (R:List Rt):Prop where
 sort:Sorted R
 good:∀r∈R,r.k.good
 pos:∀r∈R,0<=r.v
theorem Zr9 {R R':List Rt} (h:Zie R) (h':Zie R'):∀(L:List Lv) (a:Int),EgLv R a L->EgLv R' a (Zd2 R R' a L)
 | [],_,_=>trivial
 | V::L,a,⟨⟨h1,h2⟩,h3⟩=>by
  have hs:=h2.turns (ofS (setS R a V.n) (setS R' a V.n)) (Zla (fun r hr=>(Zfb h.good hr).1) (fun r hr=>(Zfb h'.good hr).1))
  rw [Z5g (Zc1 _ _ _) (Zc1 _ _ _) (Zsf h.pos _ _) (Zsf h'.pos _ _) (fun r hr=>(Zfb h.good hr).2) (fun r hr=>(Zfb h'.good hr).2)] at hs
  have ih:=Zr9 h h' L V.n h3
  unfold Zd2 EgLv
  rw [Zhq]
  exact ⟨⟨h1,hs.1⟩,ih⟩
theorem Znk (R R':List Rt):∀(L:List Lv) (a:Int),topE a (Zd2 R R' a L)=topE a L
 | [],_=>rfl
 | V::L,a=>by
  unfold Zd2 topE
  rw [Zhq]
  exact Znk R R' L V.n
theorem Zei (R R':List Rt):∀(L:List Lv) (a:Int),(Zd2 R R' a L).length=L.length
 | [],_=>rfl
 | V::L,a=>by
  unfold Zd2
  rw [List.length_cons,List.length_cons,Zei R R' L V.n]
theorem Zl3 (R R':List Rt):∀(L:List Lv) (a:Int),(Zd2 R R' a L).map Lv.n=L.map Lv.n
 | [],_=>rfl
 | V::L,a=>by
  unfold Zd2
  rw [List.map_cons,List.map_cons,Zhq,Zl3 R R' L V.n]
theorem Znm {R:List Rt}:∀(L:List Lv) (a:Int),EgLv R a L->a<=topE a L
 | [],_,_=>Int.le_refl _
 | V::L,a,⟨⟨h1,_⟩,h3⟩=>by
  have:=Znm L V.n h3
  unfold topE
  omega
def Zam (ah al:Nat):List Lv->Option Int×List Int
 | []=>(none,[])
 | V::M=>if V.may ah al then (match V.hit ah al with
  | some v=>(some v,[V.n])
  | none=>((Zam ah al M).1,V.n::(Zam ah al M).2)) else Zam ah al M
theorem Zev (ah al:Nat) (V:Lv) (M:List Lv):(Zam ah al (V::M)).1=(V.hit ah al).or (Zam ah al M).1:=by
 rw [show Zam ah al (V::M)=if V.may ah al then (match V.hit ah al with
  | some v=>(some v,[V.n])
  | none=>((Zam ah al M).1,V.n::(Zam ah al M).2)) else Zam ah al M from rfl]
 by_cases h:V.may ah al=true
 ·rw [if_pos h]
  cases V.hit ah al<;>rfl
 ·rw [if_neg h]
  unfold Lv.hit
  rw [if_neg h]
  rfl
theorem Zd6 (ah al:Nat):∀(X Y:List Lv),(Zam ah al (X++Y)).1=(Zam ah al X).1.or (Zam ah al Y).1
 | [],_=>rfl
 | V::X,Y=>by
  rw [List.cons_append,Zev,Zev,Zd6 ah al X Y,Option.or_assoc]
theorem Zre {N:List Rt} (hN:Sorted N) (ah al m:Nat) (low:Int):hopK N low (cutK ah al m)=(Zbi (depV N ah al) low (m:Int) 129).bind (depV N ah al):=by
 unfold hopK
 rw [Zt0]
 rcases Zkl (N:=N) ah al low (m:Int) with ⟨h1,h2⟩ | ⟨b,hb,j,h1,h2,h3⟩
 ·rw [h1,h2];rfl
 ·rw [h1,h2]
  show some (N.getD b _).v=depV N ah al j
  rw [getD_at hb,Z0z hN.nodup (List.getElem_mem hb) h3]
theorem Zm8 {D:Nat->Option Int} {low high:Int} {b f:Nat} (h:Zbi D low high f=some b):∃v,D b=some v:=by
 have:=(Zce.1 h).2.1.2.2
 cases e:D b with
 | none=>rw [e] at this;cases this
 | some v=>exact ⟨v,rfl⟩
theorem Zyx {R:List Rt} (h:Zie R) {V:Lv} {a:Int} (h0:0<=a) (h1:a<V.n) (h8:V.n-a<=8) (h2:V.n<=128) (hV:LvOk V (setS R a V.n)) {ah al:Nat} (wa:W64 ah) (wb:W64 al) :
 V.hit ah al=(Zbi (depV R ah al) a V.n 129).bind (depV R ah al):=by
 rw [hV.hit]
 obtain ⟨n,hn⟩:=Int.eq_ofNat_of_zero_le (show 0<=V.n by omega)
 have hk:V.key ah al=cutK ah al n:=by unfold Lv.key;rw [hn];rfl
 rw [hk,hn,Zhb (by omega)]
 have hlv:=Zy4 (N:=R) h.good (low:=a) wa wb (show n<=128 by omega) (by omega)
 have hh:=Zre h.sort ah al n a
 rcases Zkl (N:=R) ah al a (n:Int) with ⟨g1,g2⟩ | ⟨b,hb,j,g1,g2,g3⟩
 ·rw [if_neg,g2]
  ·rfl
  ·intro hin
   have:=Zyw.2 (hlv.1 hin)
   rw [g1] at this
   cases this
 ·rw [if_pos (hlv.2 (Zyw.1 (by rw [g1];rfl)))]
  rw [<-hh]
  unfold hopV
  rw [hh,g2]
  obtain ⟨v,hv⟩:=Zm8 g2
  show some ((depV R ah al j).getD 0)=depV R ah al j
  rw [hv]
  rfl
theorem Zjz {R:List Rt} (h:Zie R) {ah al:Nat} (wa:W64 ah) (wb:W64 al):∀(L:List Lv) (a:Int),EgLv R a L->(Zam ah al L.reverse).1=(Zbi (depV R ah al) a (topE a L) 129).bind (depV R ah al)
 | [],a,_=>by
  have:Zbi (depV R ah al) a a 129=none:=Zdy.2 fun m _ g=>by omega
  show none=(Zbi (depV R ah al) a a 129).bind _
  rw [this]
  rfl
 | V::L,a,⟨⟨⟨g0,g1,g2,g3⟩,hV⟩,hL⟩=>by
  have ih:=Zjz h wa wb L V.n hL
  have ht:=Znm L V.n hL
  rw [List.reverse_cons,Zd6,Zev,ih,Zyx h g0 g1 g2 g3 hV wa wb]
  show _=(Zbi (depV R ah al) a (topE V.n L) 129).bind (depV R ah al)
  cases e:Zbi (depV R ah al) V.n (topE V.n L) 129 with
  | some b=>
   rw [Zls (by omega) e]
   obtain ⟨v,hv⟩:=Zm8 e
   show (depV R ah al b).or _=depV R ah al b
   rw [hv]
   rfl
  | none=>
   rw [Zlt (high':=V.n) (fun m _=>by omega) e]
   show Option.or none (Option.or _ none)=_
   rw [Option.or_none]
   rfl
def upS (R:List Rt) (d:Int):List Rt:=R.filter fun r=>decide (r.k.n<=d)
theorem Z4y (R:List Rt) (d:Int) (ah al m:Nat):depV (upS R d) ah al m=if (m:Int)<=d then depV R ah al m else none:=by
 rw [Zgh,Zgh]
 have:=Zea (fun k=>decide (k.n<=d)) R (cutK ah al m)
 unfold upS
 rw [this]
 have hn:(cutK ah al m).n=(m:Int):=rfl
 rw [hn]
 by_cases h:(m:Int)<=d
 ·rw [if_pos (by simpa using h),if_pos h]
 ·rw [if_neg (by simpa using h),if_neg h]
theorem Zto {R:List Rt} (h:Sorted R) (ah al d:Nat):hopK (upS R (d:Int)) (-1) (cutK ah al d)=(Zbi (depV R ah al) (-1) (d:Int) 129).bind (depV R ah al):=by
 have hs:Sorted (upS R (d:Int)):=List.Pairwise.filter _ h
 rw [Zre hs]
 have hb:Zbi (depV (upS R (d:Int)) ah al) (-1) (d:Int) 129=Zbi (depV R ah al) (-1) (d:Int) 129:=Zfq fun m _=>by
  rw [Z4y]
  by_cases g:(m:Int)<=(d:Int)
  ·rw [if_pos g]
  ·rw [if_neg g]
   constructor
   ·rintro ⟨_,g2,_⟩;exact absurd g2 g
   ·rintro ⟨_,g2,_⟩;exact absurd g2 g
 rw [hb]
 cases e:Zbi (depV R ah al) (-1) (d:Int) 129 with
 | none=>rfl
 | some b=>
  have:=(Zce.1 e).2.1.2.1
  show depV (upS R (d:Int)) ah al b=depV R ah al b
  rw [Z4y,if_pos this]
theorem Zv2 {R:List Rt} (h:Zie R) {ah al d:Nat} (wa:W64 ah) (wb:W64 al) {L:List Lv} (hL:EgLv R (d:Int) L) :
 (Zam ah al L.reverse).1.or (hopK (upS R (d:Int)) (-1) (cutK ah al d))=(Zbi (depV R ah al) (-1) (topE (d:Int) L) 129).bind (depV R ah al):=by
 rw [Zjz h wa wb L _ hL,Zto h.sort]
 have ht:=Znm L _ hL
 cases e:Zbi (depV R ah al) (d:Int) (topE (d:Int) L) 129 with
 | some b=>
  rw [Zls (by omega) e]
  obtain ⟨v,hv⟩:=Zm8 e
  show (depV R ah al b).or _=depV R ah al b
  rw [hv]
  rfl
 | none=>
  rw [Zlt (high':=(d:Int)) (fun m _=>by omega) e]
  rfl
theorem Zeu (ah al:Nat):∀(M:List Lv),(Zam ah al M).2.Sublist (M.map Lv.n)
 | []=>List.Sublist.slnil
 | V::M=>by
  have ih:=Zeu ah al M
  rw [show Zam ah al (V::M)=if V.may ah al then (match V.hit ah al with
   | some v=>(some v,[V.n])
   | none=>((Zam ah al M).1,V.n::(Zam ah al M).2)) else Zam ah al M from rfl]
  rw [List.map_cons]
  by_cases h:V.may ah al=true
  ·rw [if_pos h]
   cases V.hit ah al with
   | some v=>exact List.Sublist.cons_cons _ (List.nil_sublist _)
   | none=>exact List.Sublist.cons_cons _ ih
  ·rw [if_neg h]
   exact List.Sublist.cons _ ih
theorem Z77 {R:List Rt}:∀(L:List Lv) (a:Int),EgLv R a L->(∀x∈L.map Lv.n,a<x)/\(L.map Lv.n).Pairwise (· < ·)
 | [],_,_=>⟨fun x hx=>(by cases hx),List.Pairwise.nil⟩
 | V::L,a,⟨⟨⟨_,g1,_,_⟩,_⟩,hL⟩=>by
  obtain ⟨h1,h2⟩:=Z77 L V.n hL
  rw [List.map_cons]
  refine ⟨fun x hx => ?_,List.pairwise_cons.2 ⟨h1,h2⟩⟩
  rcases List.mem_cons.1 hx with rfl | hx
  ·exact g1
  ·exact Int.lt_trans g1 (h1 x hx)
theorem Zqt {R:List Rt} {L:List Lv} {a:Int} (h:EgLv R a L) (ah al:Nat):(Zam ah al L.reverse).2.Pairwise (· > ·):=by
 refine List.Pairwise.sublist (Zeu ah al L.reverse) ?_
 rw [List.map_reverse,List.pairwise_reverse]
 exact (Z77 L a h).2
end Go.Proofs.YtgfjmgebecmbiaaGreat

/-
  Plain mathematics of a generation: levels that hold what the routes make, how they turn to other routes, what an address finds in them, from the last one down; that this is the hop of the longest route. No condition but those that stand in each.
-/
import Derived.Test.YtgfjmgebecmbiaaGreatW12b
import Derived.Test.YtgfjmgebecmbiaaGreatW16
import Derived.Test.YtgfjmgebecmbiaaGreatM19b
set_option linter.unusedSimpArgs false
set_option linter.unusedVariables false
namespace Go.Proofs.YtgfjmgebecmbiaaGreat
open M
structure Lv where
 n:Int
 s:Nat
 k:Int
 C:List Nat
 T:Tab
def Lv.plc (V:Lv) (q:Ky):List Int:=Go.Proofs.YtgfjmgebecmbiaaGreat.plc V.s q.h q.l q.n V.k V.C.length
def Lv.has (V:Lv) (q:Ky):Bool:=(getT V.T q).isSome
def Lv.turn (V:Lv) (c:Ch):Lv:=
 if c.k.n=V.n then
  if 0<=c.n then { V with C:=if V.has c.k then V.C else addL V.C (V.plc c.k),T:=putF 16 V.T ⟨c.k,c.n⟩ }
  else if V.has c.k then { V with C:=remL V.C (V.plc c.k),T:=(delT V.T c.k).1 } else V
 else V
def Lv.turns (V:Lv) (L:List Ch):Lv:=L.foldl Lv.turn V
theorem Lv.turns_snoc (V:Lv) (L:List Ch) (c:Ch):V.turns (L++[c])=(V.turns L).turn c:=by unfold Lv.turns;rw [List.foldl_append];rfl
def Lv.key (V:Lv) (ah al:Nat):Ky:=cutK ah al V.n.toNat
def Lv.may (V:Lv) (ah al:Nat):Bool:=mayL V.C (V.plc (V.key ah al))
def Lv.hit (V:Lv) (ah al:Nat):Option Int:=if V.may ah al then getT V.T (V.key ah al) else none
def rowT (n:Int) (N:List Rt) (c:Ch):List Rt:=if c.k.n=n then stepC N c else N
def Lv.cnt (V:Lv) (N:List Rt) (j:Nat):Nat:=((keysR N).flatMap V.plc).count (j:Int)
structure LvOk (V:Lv) (N:List Rt):Prop where
 kept:Kept V.T N
 small:∀c∈V.C,c<=15
 cov:∀j,j<V.C.length->min 15 (V.cnt N j)<=getN V.C (j:Int)
 len:∀r∈N,r.k.n=V.n
theorem getN_at21 {C:List Nat} {j:Nat} (h:j<C.length):getN C (j:Int)=C[j]:=by
 unfold getN
 rw [if_pos (by omega),Int.toNat_natCast,List.getD_eq_getElem?_getD,List.getElem?_eq_getElem h]
 rfl
theorem getN_set21 (C:List Nat) (a v j:Nat) (h:j<C.length):getN (C.set a v) (j:Int)=if a=j then v else getN C (j:Int):=by
 rw [getN_at21 (by simpa using h),List.getElem_set,getN_at21 h]
theorem upL_get (C:List Nat) (i:Int) (j:Nat) (h:j<C.length) (h16:∀c∈C,c<=15):min 15 (getN C (j:Int)+[i].count (j:Int))<=getN (upL C i) (j:Int):=by
 have hj:=h16 _ (List.getElem_mem h)
 rw [<-getN_at21 h] at hj
 unfold upL
 by_cases e:i=(j:Int)
 ·subst e
  have hc:[(j:Int)].count (j:Int)=1:=by simp
  rw [hc]
  by_cases hb:upB C (j:Int)=true
  ·rw [if_pos hb,getN_set21 _ _ _ _ h,if_pos (by simp)]
   omega
  ·rw [if_neg hb]
   unfold upB at hb
   simp only [Bool.and_eq_true,decide_eq_true_eq,not_and] at hb
   have h2:=hb ⟨by omega,by omega⟩
   omega
 ·have hc:[i].count (j:Int)=0:=by simp [List.count_cons,e]
  rw [hc]
  split
  ·rename_i hb
   unfold upB at hb
   simp only [Bool.and_eq_true,decide_eq_true_eq] at hb
   rw [getN_set21 _ _ _ _ h,if_neg (by omega)]
   omega
  ·omega
theorem upL_small (C:List Nat) (i:Int) (h16:∀c∈C,c<=15):∀c∈upL C i,c<=15:=by
 intro c hc
 unfold upL at hc
 split at hc
 ·rename_i hb
  rcases List.mem_or_eq_of_mem_set hc with h | h
  ·exact h16 c h
  ·subst h
   have:=getN_lt h16 i
   unfold upB at hb
   simp only [Bool.and_eq_true,decide_eq_true_eq] at hb
   omega
 ·exact h16 c hc
theorem addL_get:∀(L:List Int) (C:List Nat) (j:Nat),j<C.length->(∀c∈C,c<=15)->min 15 (getN C (j:Int)+L.count (j:Int))<=getN (addL C L) (j:Int)
 | [],C,j,_,_=>by
  show min 15 (_+0)<=getN C (j:Int)
  omega
 | i::L,C,j,h,h16=>by
  show _<=getN (addL (upL C i) L) (j:Int)
  have h1:=upL_get C i j h h16
  have h2:=addL_get L (upL C i) j (by rw [upL_len];exact h) (upL_small C i h16)
  have h3:(i::L).count (j:Int)=[i].count (j:Int)+L.count (j:Int):=by
   rw [show i::L=[i]++L from rfl,List.count_append]
  rw [h3]
  omega
theorem addL_small:∀(L:List Int) (C:List Nat),(∀c∈C,c<=15)->∀c∈addL C L,c<=15
 | [],_,h=>h
 | i::L,C,h=>addL_small L (upL C i) (upL_small C i h)
theorem get_none21 {T:Tab} (H:Inv T) {k:Ky} (h:k∉keysR (contT T)):getT T k=none:=by
 have hno:∀b,b<T.B.length->getC (T.bk b) k=none:=by
  intro b hb
  cases e:getC (T.bk b) k with
  | none=>rfl
  | some v=>
   obtain ⟨i,hi,-,q,hq,hqk,-⟩:=getC_some (by rw [e];rfl:(getC (T.bk b) k).isSome=true)
   exact absurd (by rw [<-hqk];exact mem_keys (mem_bk hb (hq▸List.getElem_mem hi))) h
 unfold getT
 rw [hno _ (H.x1_lt _),hno _ (H.x2_lt _)]
 show (List.find? _ _).map _=none
 rw [List.find?_eq_none.2]
 ·rfl
 ·intro r hr
  simp only [decide_eq_true_eq]
  intro e
  exact h (by rw [<-e];exact mem_keys (List.mem_append_right _ hr))
theorem LvOk.get {V:Lv} {N:List Rt} (H:LvOk V N) (q:Ky):getT V.T q=getS N q:=by
 by_cases h:q∈keysR N
 ·unfold keysR at h
  obtain ⟨r,hr,rfl⟩:=List.mem_map.1 h
  rw [H.kept.get hr]
  exact ((getS_some H.kept.sort (k:=r.k) (v:=r.v)).2 hr).symm
 ·rw [get_none21 H.kept.inv (fun h2=>h ((keysR_perm H.kept.all).mem_iff.1 h2)),getS_none.2 h]
theorem LvOk.has {V:Lv} {N:List Rt} (H:LvOk V N) (q:Ky):V.has q=true↔q∈keysR N:=by
 unfold Lv.has
 rw [H.get]
 by_cases h:q∈keysR N
 ·unfold keysR at h
  obtain ⟨r,hr,rfl⟩:=List.mem_map.1 h
  rw [(getS_some H.kept.sort (k:=r.k) (v:=r.v)).2 hr]
  simp only [Option.isSome_some,true_iff]
  exact List.mem_map.2 ⟨r,hr,rfl⟩
 ·rw [getS_none.2 h]
  simp [h]
theorem cnt_perm {V:Lv} {N M:List Rt} (h:(keysR N).Perm (keysR M)) (j:Nat):V.cnt N j=V.cnt M j:=by
 unfold Lv.cnt
 exact (List.Perm.flatMap_right _ h).count_eq _
theorem cnt_cons (V:Lv) (r:Rt) (N:List Rt) (j:Nat):V.cnt (r::N) j=(V.plc r.k).count (j:Int)+V.cnt N j:=by
 unfold Lv.cnt keysR
 rw [List.map_cons,List.flatMap_cons,List.count_append]
theorem cnt_same {V W:Lv} (h1:V.s=W.s) (h2:V.k=W.k) (h3:V.C.length=W.C.length) (N:List Rt) (j:Nat):V.cnt N j=W.cnt N j:=by
 unfold Lv.cnt Lv.plc
 rw [h1,h2,h3]
theorem out_same {N:List Rt} {k:Ky} (h:k∉keysR N):outS N k=N:=by
 unfold outS
 rw [List.filter_eq_self]
 intro r hr
 simp only [ne_eq,decide_not,Bool.not_eq_true',decide_eq_false_iff_not]
 intro e
 exact h (by rw [<-e];exact List.mem_map.2 ⟨r,hr,rfl⟩)
theorem cnt_split {V:Lv} {N:List Rt} (hn:(keysR N).Nodup) {k:Ky} (h:k∈keysR N) (j:Nat):V.cnt N j=(V.plc k).count (j:Int)+V.cnt (outS N k) j:=by
 unfold keysR at h
 obtain ⟨r,hr,rfl⟩:=List.mem_map.1 h
 rw [cnt_perm (keysR_perm (split_key hn hr)),cnt_cons]
theorem cnt_into {V:Lv} {N:List Rt} (hs:Sorted N) (r:Rt) (j:Nat):V.cnt (intoS N r) j=(V.plc r.k).count (j:Int)+V.cnt (outS N r.k) j:=by
 rw [cnt_perm (keysR_perm (intoS_perm r hs)),cnt_cons]
theorem remL_small21:∀(L:List Int) (C:List Nat),(∀c∈C,c<=15)->∀c∈remL C L,c<=15
 | [],_,h=>h
 | i::L,C,h=>remL_small21 L (downL C i) (by
  intro c hc
  unfold downL at hc
  split at hc
  ·rcases List.mem_or_eq_of_mem_set hc with h2 | h2
   ·exact h c h2
   ·have:=getN_lt h i
    omega
  ·exact h c hc)
theorem LvOk.turn {V:Lv} {N:List Rt} (H:LvOk V N) (c:Ch) (hc:c.k.good):LvOk (V.turn c) (rowT V.n N c):=by
 unfold Lv.turn rowT
 by_cases hn:c.k.n=V.n
 ·rw [if_pos hn,if_pos hn]
  unfold stepC
  have hnd:=H.kept.sort.nodup
  by_cases h0:0<=c.n
  ·rw [if_pos h0,if_pos h0]
   refine ⟨H.kept.put 16 ⟨c.k,c.n⟩ hc,?_,?_,?_⟩
   ·show ∀x∈(if V.has c.k=true then V.C else addL V.C (V.plc c.k)),x<=15
    split
    ·exact H.small
    ·exact addL_small _ _ H.small
   ·intro j hj
    have hl:(if V.has c.k=true then V.C else addL V.C (V.plc c.k)).length=V.C.length:=by
     split
     ·rfl
     ·exact addL_len _ _
    have hj2:j<V.C.length:=by
     rw [<-hl]
     exact hj
    rw [cnt_same (V:={ V with C:=if V.has c.k then V.C else addL V.C (V.plc c.k),T:=putF 16 V.T ⟨c.k,c.n⟩ }) (W:=V) rfl rfl hl,cnt_into H.kept.sort]
    show _<=getN (if V.has c.k=true then V.C else addL V.C (V.plc c.k)) (j:Int)
    by_cases hh:V.has c.k=true
    ·rw [if_pos hh]
     have:=cnt_split (V:=V) hnd ((H.has _).1 hh) j
     have:=H.cov j hj2
     simp only at *
     omega
    ·rw [if_neg hh,out_same (fun h=>hh ((H.has _).2 h))]
     have h1:=addL_get (V.plc c.k) V.C j hj2 H.small
     have:=H.cov j hj2
     simp only at *
     omega
   ·intro r hr
    show r.k.n=V.n
    rcases (mem_into H.kept.sort).1 hr with e | ⟨e,-⟩
    ·rw [e];exact hn
    ·exact H.len r e
  ·rw [if_neg h0,if_neg h0]
   by_cases hh:V.has c.k=true
   ·rw [if_pos hh]
    refine ⟨H.kept.del c.k,?_,?_,fun r hr=>H.len r (mem_outS.1 hr).1⟩
    ·exact remL_small21 _ _ H.small
    ·intro j hj
     have hl:(remL V.C (V.plc c.k)).length=V.C.length:=remL_len _ _
     have hj2:j<V.C.length:=by
      rw [<-hl]
      exact hj
     rw [cnt_same (V:={ V with C:=remL V.C (V.plc c.k),T:=(delT V.T c.k).1 }) (W:=V) rfl rfl hl]
     show _<=getN (remL V.C (V.plc c.k)) (j:Int)
     have h16:getN V.C (j:Int)<=15:=by
      have:=getN_lt H.small (j:Int)
      omega
     rw [remL_get _ _ _ hj2 h16]
     have h1:=cnt_split (V:=V) hnd ((H.has _).1 hh) j
     have h2:=H.cov j hj2
     split<;>omega
   ·rw [if_neg hh,out_same (fun h=>hh ((H.has _).2 h))]
    exact H
 ·rw [if_neg hn,if_neg hn]
  exact H
theorem LvOk.sure {V:Lv} {N:List Rt} (H:LvOk V N) {q:Ky} (h:q∈keysR N):mayL V.C (V.plc q)=true:=by
 refine mayL_yes fun i hi => ?_
 obtain ⟨h0,h1⟩:=plc_in V.s q.h q.l q.n V.k V.C.length i hi
 have h0:0<=(V.plc q)[i]:=h0
 have h1:(V.plc q)[i]<(V.C.length:Int):=h1
 have hm:(V.plc q)[i]∈(keysR N).flatMap V.plc:=List.mem_flatMap.2 ⟨q,h,List.getElem_mem hi⟩
 obtain ⟨j,hj⟩:=Int.eq_ofNat_of_zero_le h0
 rw [hj] at h1 hm ⊢
 have h2:=H.cov j (by omega)
 have h3:0<V.cnt N j:=List.count_pos_iff.2 hm
 omega
theorem LvOk.hit {V:Lv} {N:List Rt} (H:LvOk V N) (ah al:Nat):V.hit ah al=getS N (V.key ah al):=by
 unfold Lv.hit
 rw [H.get]
 by_cases h:V.key ah al∈keysR N
 ·rw [show V.may ah al=true from H.sure h,if_pos rfl]
 ·rw [getS_none.2 h]
  split<;>rfl
theorem sortR_nodup {L:List Rt} (hn:(keysR L).Nodup) (q:Rt):q∈sortR L↔q∈L:=by
 rw [(sortR_mem L).2]
 constructor
 ·intro e
  unfold lst at e
  exact (List.mem_filter.1 (List.mem_of_getLast? e)).1
 ·intro hq
  unfold lst
  have hall:∀x∈L.filter (fun r=>decide (r.k=q.k)),x=q:=fun x hx=>by
   obtain ⟨h3,h4⟩:=List.mem_filter.1 hx
   have h4:x.k=q.k:=of_decide_eq_true h4
   exact one_key18 hn h3 hq h4
  cases hl:(L.filter fun r=>decide (r.k=q.k)).getLast? with
  | none=>
   have:=List.getLast?_eq_none_iff.1 hl
   have hm:q∈L.filter (fun r=>decide (r.k=q.k)):=List.mem_filter.2 ⟨hq,by simp⟩
   rw [this] at hm
   cases hm
  | some x=>rw [hall x (List.mem_of_getLast? hl)]
theorem Kept.row {T:Tab} {N:List Rt} (H:Kept T N):allT T=N:=
 sorted_ext (sortR_mem _).1 H.sort fun q=>by
  show q∈sortR (contT T)↔_
  rw [sortR_nodup H.inv.keys,H.all.mem_iff]
def newV (n:Int) (s:Nat) (k:Int) (m b:Nat):Lv:=⟨n,s,k,List.replicate m 0,emptyT (mixN s) b⟩
theorem newV_ok (n:Int) (s:Nat) (k:Int) (m b:Nat) (h1:1<=b) (h2:b<=65536):LvOk (newV n s k m b) []:=by
 refine ⟨Kept.empty (mixN_w s) h1 h2,?_,?_,?_⟩
 ·intro c hc
  have hc:c∈List.replicate m 0:=hc
  rw [List.eq_of_mem_replicate hc]
  omega
 ·intro j hj
  show min 15 (List.count _ (List.flatMap _ []))<=_
  simp
 ·intro r hr
  cases hr
def badV (n k m b:Int):Prop:=¬(1<=n/\n<=128/\(1<=k/\k<=16/\1<=m/\m<=65536)/\1<=b/\b<=65536)
def rowsT (n:Int) (N:List Rt) (L:List Ch):List Rt:=L.foldl (rowT n) N
theorem rowsT_snoc (n:Int) (N:List Rt) (L:List Ch) (c:Ch):rowsT n N (L++[c])=rowT n (rowsT n N L) c:=by unfold rowsT;rw [List.foldl_append];rfl
theorem turn_n (V:Lv) (c:Ch):(V.turn c).n=V.n:=by
 unfold Lv.turn
 split
 ·split
  ·rfl
  ·split<;>rfl
 ·rfl
theorem turn_s (V:Lv) (c:Ch):(V.turn c).s=V.s/\(V.turn c).k=V.k/\(V.turn c).C.length=V.C.length:=by
 unfold Lv.turn
 split
 ·split
  ·refine ⟨rfl,rfl,?_⟩
   show (if V.has c.k=true then V.C else addL V.C (V.plc c.k)).length=_
   split
   ·rfl
   ·exact addL_len _ _
  ·split
   ·exact ⟨rfl,rfl,remL_len _ _⟩
   ·exact ⟨rfl,rfl,rfl⟩
 ·exact ⟨rfl,rfl,rfl⟩
theorem turns_n (V:Lv):∀(L:List Ch),(V.turns L).n=V.n:=by
 intro L
 induction L generalizing V with
 | nil=>rfl
 | cons c L ih=>
  show ((V.turn c).turns L).n=V.n
  rw [ih,turn_n]
theorem turns_s (V:Lv):∀(L:List Ch),(V.turns L).s=V.s/\(V.turns L).k=V.k/\(V.turns L).C.length=V.C.length:=by
 intro L
 induction L generalizing V with
 | nil=>exact ⟨rfl,rfl,rfl⟩
 | cons c L ih=>
  show ((V.turn c).turns L).s=V.s/\((V.turn c).turns L).k=V.k/\((V.turn c).turns L).C.length=V.C.length
  obtain ⟨h1,h2,h3⟩:=ih (V.turn c)
  obtain ⟨h4,h5,h6⟩:=turn_s V c
  exact ⟨h1.trans h4,h2.trans h5,h3.trans h6⟩
theorem rowT_len (n:Int) (N:List Rt) (h:Sorted N) (c:Ch):(rowT n N c).length<=N.length+1:=by
 unfold rowT stepC
 have h1:(outS N c.k).length<=N.length:=List.length_filter_le _ _
 split
 ·split
  ·have:=(intoS_perm ⟨c.k,c.n⟩ h).length_eq
   simp only [List.length_cons] at this
   omega
  ·omega
 ·omega
theorem LvOk.turns {V:Lv} {N:List Rt} (H:LvOk V N):∀(L:List Ch),(∀c∈L,c.k.good)->LvOk (V.turns L) (rowsT V.n N L)/\(rowsT V.n N L).length<=N.length+L.length:=by
 intro L
 suffices HH:∀(m:Nat) (L:List Ch),L.length=m->(∀c∈L,c.k.good)->LvOk (V.turns L) (rowsT V.n N L)/\(rowsT V.n N L).length<=N.length+L.length from HH L.length L rfl
 intro m
 induction m with
 | zero=>
  intro L hl _
  obtain rfl:=List.eq_nil_of_length_eq_zero hl
  exact ⟨H,Nat.le_add_right _ _⟩
 | succ m ih=>
  intro L hl hg
  obtain ⟨L,c,rfl⟩:∃L' c,L=L'++[c]:=⟨L.dropLast,L.getLast (by intro e;simp [e] at hl),(List.dropLast_concat_getLast _).symm⟩
  obtain ⟨h1,h2⟩:=ih L (by simpa using hl) (fun x hx=>hg x (List.mem_append_left _ hx))
  have hc:=hg c (List.mem_append_right _ (by simp))
  rw [Lv.turns_snoc,rowsT_snoc]
  have h3:=h1.turn c hc
  rw [turns_n] at h3
  have h4:=rowT_len V.n _ h1.kept.sort c
  rw [List.length_append,List.length_singleton]
  exact ⟨h3,by omega⟩
theorem cont_le {T:Tab}:T.st.length<=(contT T).length:=by
 unfold contT
 rw [List.length_append]
 omega
theorem LvOk.st {V:Lv} {N:List Rt} (H:LvOk V N):V.T.st.length<=N.length:=by
 have:=cont_le (T:=V.T)
 rw [H.kept.len] at this
 exact this
theorem getS_cons (a:Rt) (A:List Rt) (k:Ky):getS (a::A) k=if a.k=k then some a.v else getS A k:=by
 unfold getS
 rw [List.find?_cons]
 by_cases h:a.k=k<;>simp [h]
theorem getS_later {a:Ky} {B:List Rt} (hb:∀b∈B,lessK a b.k=true):getS B a=none:=by
 rw [getS_none]
 unfold keysR
 rw [List.mem_map]
 rintro ⟨b,hb',e⟩
 have:=hb b hb'
 rw [e,lessK_irr] at this
 cases this
theorem of_later {a:Ky} {A B:List Rt} (ha:∀b∈A,lessK a b.k=true) (hb:∀b∈B,lessK a b.k=true):∀c∈ofS A B,lessK a c.k=true:=by
 intro c hc
 have h:=turn_keys ((mem_of A B c).1 hc).1
 unfold keysR at h
 obtain ⟨r,hr,e⟩:=List.mem_map.1 h
 rw [<-e]
 rcases List.mem_append.1 hr with h1 | h1
 ·exact ha r h1
 ·exact hb r h1
theorem of_left {a:Rt} {A B:List Rt} (hA:Sorted (a::A)) (hb:∀b∈B,lessK a.k b.k=true):ofS (a::A) B=⟨a.k,a.v,-1⟩::ofS A B:=by
 obtain ⟨ha,-⟩:=List.pairwise_cons.1 hA
 have n1:=getS_later ha
 have n2:=getS_later hb
 refine (of_one (List.pairwise_cons.2 ⟨of_later ha hb,of_sorted A B⟩) fun c => ?_).symm
 rw [List.mem_cons,mem_of]
 obtain ⟨k,o,n⟩:=c
 by_cases e:a.k=k
 ·subst e
  unfold chS
  simp only [getS_cons,if_true,n1,n2,ne_eq,not_true_eq_false,false_and,or_false]
  constructor
  ·intro h
   injection h with _ h2 h3
   rw [h2,h3]
   exact ⟨by simp,rfl⟩
  ·rintro ⟨-,h⟩
   exact h
 ·unfold chS
  simp only [getS_cons,if_neg e]
  constructor
  ·rintro (h | h)
   ·injection h with h
    exact absurd h.symm e
   ·exact h
  ·exact .inr
theorem of_both {a b:Rt} {A B:List Rt} (hA:Sorted (a::A)) (hB:Sorted (b::B)) (h:a.k=b.k):ofS (a::A) (b::B)=(if a.v=b.v then [] else [⟨b.k,a.v,b.v⟩])++ofS A B:=by
 obtain ⟨ha,-⟩:=List.pairwise_cons.1 hA
 obtain ⟨hb,-⟩:=List.pairwise_cons.1 hB
 rw [<-h] at hb
 have n1:=getS_later ha
 have n2:=getS_later hb
 have hl:=of_later ha hb
 have hs:SortedC ((if a.v=b.v then [] else [⟨b.k,a.v,b.v⟩])++ofS A B):=by
  by_cases e:a.v=b.v
  ·rw [if_pos e];exact of_sorted A B
  ·rw [if_neg e,<-h];exact List.pairwise_cons.2 ⟨hl,of_sorted A B⟩
 refine (of_one hs fun c => ?_).symm
 rw [List.mem_append,mem_of]
 obtain ⟨k,o,n⟩:=c
 by_cases e:a.k=k
 ·subst e
  unfold chS
  simp only [getS_cons,if_true,<-h,n1,n2,ne_eq,not_true_eq_false,false_and,or_false]
  by_cases e2:a.v=b.v
  ·rw [if_pos e2,e2]
   simp
  ·rw [if_neg e2]
   simp [e2]
 ·unfold chS
  have e2:¬b.k=k:=by rw [<-h];exact e
  simp only [getS_cons,if_neg e,if_neg e2]
  constructor
  ·rintro (h1 | h1)
   ·split at h1
    ·cases h1
    ·simp at h1
     exact absurd h1.1.symm e2
   ·exact h1
  ·exact .inr
def aheadB:List Rt->List Rt->Bool
 | [],_=>false
 | _::_,[]=>true
 | a::_,b::_=>lessK a.k b.k
theorem ahead_left {a:Rt} {A B:List Rt} (hA:Sorted (a::A)) (hB:Sorted B) (h:aheadB (a::A) B=true):ofS (a::A) B=⟨a.k,a.v,-1⟩::ofS A B:=by
 refine of_left hA fun q hq => ?_
 rcases B with _ | ⟨b,B⟩
 ·cases hq
 ·have h:lessK a.k b.k=true:=h
  rcases List.mem_cons.1 hq with rfl | hq
  ·exact h
  ·exact lessK_trans h ((List.pairwise_cons.1 hB).1 q hq)
theorem ahead_right {b:Rt} {A B:List Rt} (hA:Sorted A) (hB:Sorted (b::B)) (h:aheadB (b::B) A=true):ofS A (b::B)=⟨b.k,-1,b.v⟩::ofS A B:=by
 rw [of_back,ahead_left hB hA h,List.map_cons,<-of_back]
 rfl
theorem ahead_none {A B:List Rt} (h1:aheadB A B=false) (h2:aheadB B A=false):(A=[]/\B=[])\/∃a A' b B',A=a::A'/\B=b::B'/\a.k=b.k:=by
 rcases A with _ | ⟨a,A⟩<;>rcases B with _ | ⟨b,B⟩
 ·exact .inl ⟨rfl,rfl⟩
 ·cases h2
 ·cases h1
 ·refine .inr ⟨a,A,b,B,rfl,rfl,?_⟩
  by_cases e:a.k=b.k
  ·exact e
  ·have:=lessK_total e
   have h1:lessK a.k b.k=false:=h1
   have h2:lessK b.k a.k=false:=h2
   rw [h1,h2] at this
   cases this
def nearB (p q:Ky):Bool:=decide (min p.n q.n<=(commonN p.h p.l q.h q.l:Int))
def nearR (p:Ky) (N:List Rt):List Rt:=N.filter fun r=>nearB p r.k
theorem sortR_filter (P:Ky->Bool) (L:List Rt):sortR (L.filter fun r=>P r.k)=(sortR L).filter fun r=>P r.k:=by
 obtain ⟨h1,h2⟩:=sortR_mem L
 obtain ⟨h3,h4⟩:=sortR_mem (L.filter fun r=>P r.k)
 refine sorted_ext h3 (List.Pairwise.filter _ h1) fun q => ?_
 rw [h4,List.mem_filter,h2]
 unfold lst
 rw [List.filter_filter]
 by_cases hp:P q.k=true
 ·have:(L.filter fun r=>decide (r.k=q.k)&&P r.k)=L.filter fun r=>decide (r.k=q.k):=List.filter_congr fun r _=>by
   by_cases e:r.k=q.k
   ·rw [e,hp];simp
   ·simp [e]
  rw [this]
  simp [hp]
 ·have:(L.filter fun r=>decide (r.k=q.k)&&P r.k)=[]:=List.filter_eq_nil_iff.2 fun r _=>by
   by_cases e:r.k=q.k
   ·rw [e];simp [hp]
   ·simp [e]
  rw [this]
  simp [hp]
theorem getS_filter (P:Ky->Bool) (N:List Rt) (k:Ky):getS (N.filter fun r=>P r.k) k=if P k=true then getS N k else none:=by
 induction N with
 | nil=>simp [getS]
 | cons a N ih=>
  rw [List.filter_cons,getS_cons]
  by_cases h:P a.k=true
  ·rw [if_pos h,getS_cons,ih]
   by_cases e:a.k=k
   ·rw [if_pos e,if_pos e,if_pos (by rw [<-e];exact h)]
   ·rw [if_neg e,if_neg e]
  ·rw [if_neg h,ih]
   by_cases e:a.k=k
   ·rw [if_neg (by rw [<-e];exact h),if_neg (by rw [<-e];exact h)]
   ·rw [if_neg e]
theorem cutK_cutK (ah al m x:Nat) (h:x<=m):cutK (cutK ah al m).h (cutK ah al m).l x=cutK ah al x:=by
 unfold cutK
 simp only
 rw [cutW_cutW,cutW_cutW,Nat.min_eq_right h,Nat.min_eq_right (by omega)]
theorem near_cut {ah al m m':Nat} (a:W64 ah) (b:W64 al) (h1:m<=128):nearB (cutK ah al m) (cutK ah al m')=true:=by
 unfold nearB
 have g:=cutK_good (m:=m) a b
 have g':=cutK_good (m:=m') a b
 have h:=(cutK_common (m:=min m m') (m':=min m m') g.1 g.2 g'.1 g'.2 (by omega)).1 (by rw [cutK_cutK _ _ _ _ (Nat.min_le_left _ _),cutK_cutK _ _ _ _ (Nat.min_le_right _ _)])
 have hn:(cutK ah al m).n=(m:Int):=rfl
 have hn':(cutK ah al m').n=(m':Int):=rfl
 rw [decide_eq_true_eq,hn,hn']
 have:=h.2
 omega
theorem near_get {N:List Rt} (hN:Sorted N) (hg:∀r∈N,W64 r.k.h/\W64 r.k.l) {p k:Ky} (hp:W64 p.h/\W64 p.l) {low high:Int} (hl:low<high) (hk:k∈sprK p high):getS (setS (nearR p N) low high) k=getS (setS N low high) k:=by
 obtain ⟨k1,k2,k3,k4,k5,k6,k7,k8⟩:=(mem_spr hp.1 hp.2 _ _).1 hk
 obtain ⟨m,hm,hpm⟩:=(has_cutK _ _ _).1 k8
 have hNs:Sorted (nearR p N):=List.Pairwise.filter _ hN
 have hnear:∀j:Ky,hasB j.h j.l j.n k.h k.l=true->nearB p j=true:=fun j hj=>by
  obtain ⟨m',hm',hj'⟩:=(has_cutK _ _ _).1 hj
  rw [hpm,hj']
  exact near_cut k5 k6 hm
 have hin:k∈keysS (nearR p N) low high↔k∈keysS N low high:=by
  rw [mem_keysS,mem_keysS]
  constructor
  ·rintro ⟨j,hj,h2⟩
   refine ⟨j,?_,h2⟩
   unfold keysR nearR at hj
   obtain ⟨r,hr,e⟩:=List.mem_map.1 hj
   exact List.mem_map.2 ⟨r,(List.mem_filter.1 hr).1,e⟩
  ·rintro ⟨j,hj,h2,h3,h4⟩
   refine ⟨j,?_,h2,h3,h4⟩
   have hg4:=keysR_good hg hj
   have h5:=((mem_spr hg4.1 hg4.2 _ _).1 h4).2.2.2.2.2.2.2
   unfold keysR at hj
   obtain ⟨r,hr,e⟩:=List.mem_map.1 hj
   exact List.mem_map.2 ⟨r,List.mem_filter.2 ⟨hr,by rw [e];exact hnear j h5⟩,e⟩
 have hD:∀m:Nat,m<129->depV (nearR p N) k.h k.l m=depV N k.h k.l m:=fun m' hm'=>by
  rw [dep_get,dep_get]
  unfold nearR
  rw [getS_filter,if_pos]
  rw [hpm]
  exact near_cut k5 k6 hm
 rw [getS_set hl,getS_set hl]
 have hv:hopV (nearR p N) low k=hopV N low k:=by
  unfold hopV
  rw [hop_best hNs,hop_best hN]
  have hb:bestM (depV (nearR p N) k.h k.l) low k.n 129=bestM (depV N k.h k.l) low k.n 129:=best_congr fun m' hm'=>by rw [hD m' hm']
  rw [hb]
  cases hbm:bestM (depV N k.h k.l) low k.n 129 with
  | none=>rfl
  | some b=>
   have h2:=(best_some.1 hbm).1
   show (depV (nearR p N) k.h k.l b).getD 0=(depV N k.h k.l b).getD 0
   rw [hD b h2]
 rw [hv]
 by_cases h:k∈keysS N low high
 ·rw [if_pos h,if_pos (hin.2 h)]
 ·rw [if_neg h,if_neg (fun e=>h (hin.1 e))]
theorem nearR_sorted {N:List Rt} (h:Sorted N) (p:Ky):Sorted (nearR p N):=List.Pairwise.filter _ h
theorem nearR_sub {p:Ky} {N:List Rt} {r:Rt} (h:r∈nearR p N):r∈N:=(List.mem_filter.1 h).1
theorem near_lvl {N:List Rt} (hN:Sorted N) (p:Ky) (hop:Int) (hp:nearB p p=true):lvlM (nearR p N) p hop=nearR p (lvlM N p hop):=by
 have hNs:=nearR_sorted hN p
 refine getS_ext (lvl_sorted hNs p hop) (nearR_sorted (lvl_sorted hN p hop) p) fun k => ?_
 have e1:∀k,getS (nearR p N) k=if nearB p k=true then getS N k else none:=fun k=>getS_filter (nearB p) N k
 have e2:getS (nearR p (lvlM N p hop)) k=if nearB p k=true then getS (lvlM N p hop) k else none:=getS_filter (nearB p) _ k
 rw [e2]
 unfold lvlM
 by_cases h:0<=hop
 ·rw [if_pos h,if_pos h,getS_into (outS_sorted _ hNs),getS_into (outS_sorted _ hN),getS_out hNs,getS_out hN,e1]
  by_cases e:k=p
  ·subst e
   simp [hp]
  ·simp only [if_neg e]
 ·rw [if_neg h,if_neg h,getS_out hNs,getS_out hN,e1]
  by_cases e:k=p
  ·subst e
   simp
  ·simp only [if_neg e]
theorem of_near {N:List Rt} (hN:Sorted N) (hg:∀r∈N,W64 r.k.h/\W64 r.k.l) {p:Ky} (hp:W64 p.h/\W64 p.l) (hop:Int) {low high:Int} (hl:low<high) :
 ofS (setS (nearR p N) low high) (setS (lvlM (nearR p N) p hop) low high)=ofS (setS N low high) (setS (lvlM N p hop) low high):=by
 have hNs:=nearR_sorted hN p
 have hgs:∀r∈nearR p N,W64 r.k.h/\W64 r.k.l:=fun r hr=>hg r (nearR_sub hr)
 have hMg:=lvl_good hg hp hN hop
 have hM:=lvl_sorted hN p hop
 have key:∀k,k∈sprK p high->getS (setS (nearR p N) low high) k=getS (setS N low high) k/\getS (setS (lvlM (nearR p N) p hop) low high) k=getS (setS (lvlM N p hop) low high) k:=fun k hk=>by
  refine ⟨near_get hN hg hp hl hk,?_⟩
  have h1:=(mem_spr hp.1 hp.2 _ _).1 hk
  obtain ⟨m,hm,hpm⟩:=(has_cutK _ _ _).1 h1.2.2.2.2.2.2.2
  have hself:nearB p p=true:=by
   rw [hpm]
   exact near_cut h1.2.2.2.2.1 h1.2.2.2.2.2.1 hm
  rw [near_lvl hN p hop hself]
  exact near_get hM hMg hp hl hk
 refine of_one (of_sorted _ _) fun c => ?_
 constructor
 ·intro hc
  have h1:=(few hNs hgs hp hop hl hc).2.2.2.2
  obtain ⟨h2,h3⟩:=(mem_of _ _ c).1 hc
  obtain ⟨e1,e2⟩:=key _ h1
  rw [e1,e2] at h2
  refine ⟨h2,?_⟩
  unfold chS at h3 ⊢
  rw [e1,e2] at h3
  exact h3
 ·rintro ⟨h2,h3⟩
  have hc:c∈ofS (setS N low high) (setS (lvlM N p hop) low high):=(mem_of _ _ c).2 ⟨h2,h3⟩
  have h1:=(few hN hg hp hop hl hc).2.2.2.2
  obtain ⟨e1,e2⟩:=key _ h1
  refine (mem_of _ _ c).2 ⟨by rw [e1,e2];exact h2,?_⟩
  unfold chS at h3 ⊢
  rw [e1,e2]
  exact h3
theorem of_out {N:List Rt} (hN:Sorted N) (hg:∀r∈N,W64 r.k.h/\W64 r.k.l) {p:Ky} (hp:W64 p.h/\W64 p.l) (hop:Int) {low high:Int} (h:p.n<=low\/high<p.n):ofS (setS N low high) (setS (lvlM N p hop) low high)=[]:=by
 by_cases hl:low<high
 ·cases hO:ofS (setS N low high) (setS (lvlM N p hop) low high) with
  | nil=>rfl
  | cons c L=>
   have:=few hN hg hp hop hl (c:=c) (by rw [hO];exact List.mem_cons_self)
   omega
 ·unfold setS
  rw [if_neg hl,if_neg hl]
  exact of_self _
theorem sort_near (p:Ky) (L:List Rt):sortR (nearR p L)=nearR p (sortR L):=sortR_filter (nearB p) L
theorem sort_lvl (p:Ky) (hop:Int) (L:List Rt):sortR (if 0<=hop then outS L p++[⟨p,hop⟩] else outS L p)=lvlM (sortR L) p hop:=by
 have e:sortR (outS L p)=outS (sortR L) p:=by
  have h:=sortR_filter (fun k => !decide (k=p)) L
  unfold outS
  simpa using h
 unfold lvlM
 by_cases h:0<=hop
 ·rw [if_pos h,if_pos h,sortR_snoc,e]
 ·rw [if_neg h,if_neg h,e]
theorem ofS_good22 {A B:List Rt} (hA:∀r∈A,r.k.good) (hB:∀r∈B,r.k.good):∀c∈ofS A B,c.k.good:=by
 intro c hc
 have:=turn_keys ((mem_of _ _ _).1 hc).1
 unfold keysR at this
 obtain ⟨r,hr,e⟩:=List.mem_map.1 this
 rw [<-e]
 rcases List.mem_append.1 hr with h | h
 ·exact hA r h
 ·exact hB r h
theorem setS_key {N:List Rt} (hg:∀r∈N,r.k.good) {low high:Int} {r:Rt} (hr:r∈setS N low high):r.k.good/\r.k.n=high:=by
 have h:=((mem_setS _ _ _ _).1 hr).2.1
 obtain ⟨j,hj,-,-,hk⟩:=mem_keysS.1 h
 have hgj:=keysR_good (N:=N) hg hj
 have h5:=(mem_spr hgj.1 hgj.2 _ _).1 hk
 exact ⟨⟨h5.2.2.2.2.1,h5.2.2.2.2.2.1⟩,h5.2.2.2.1⟩
theorem setS_pos {N:List Rt} (hp:∀r∈N,0<=r.v) (low high:Int):∀r∈setS N low high,0<=r.v:=by
 intro r hr
 rw [((mem_setS _ _ _ _).1 hr).2.2]
 unfold hopV hopK
 cases e:lngI N (candB r.k.h r.k.l low r.k.n) N.length with
 | none=>exact Int.le_refl _
 | some b=>
  have h:=lng_ok N (candB r.k.h r.k.l low r.k.n) N.length (Nat.le_refl _)
  rw [e] at h
  obtain ⟨hb,-⟩:=h
  show 0<=(N.getD b _).v
  rw [getD_at hb]
  exact hp _ (List.getElem_mem hb)
theorem rows_of {A B:List Rt} (hA:Sorted A) (hB:Sorted B) (pA:∀r∈A,0<=r.v) (pB:∀r∈B,0<=r.v) {m:Int} (nA:∀r∈A,r.k.n=m) (nB:∀r∈B,r.k.n=m):rowsT m A (ofS A B)=B:=by
 have hn:∀c∈ofS A B,c.k.n=m:=fun c hc=>by
  have:=turn_keys ((mem_of _ _ _).1 hc).1
  unfold keysR at this
  obtain ⟨r,hr,e⟩:=List.mem_map.1 this
  rw [<-e]
  rcases List.mem_append.1 hr with h | h
  ·exact nA r h
  ·exact nB r h
 have key:∀i,i<=(ofS A B).length->MidC A B i (rowsT m A ((ofS A B).take i)):=by
  intro i
  induction i with
  | zero=>intro _;exact MidC.start hA
  | succ i ih=>
   intro hi
   have hlt:i<(ofS A B).length:=hi
   have h:=((ih (by omega)).now hA hB pA pB hlt).2
   rw [List.take_succ_eq_append_getElem hlt,rowsT_snoc]
   unfold rowT
   rw [if_pos (hn _ (List.getElem_mem hlt))]
   exact h
 have h:=key _ (Nat.le_refl _)
 rw [List.take_length] at h
 exact h.done hB
def turnE (R R':List Rt):Int->List Lv->List Lv
 | _,[]=>[]
 | a,V::L=>V.turns (ofS (setS R a V.n) (setS R' a V.n))::turnE R R' V.n L
def EgLv (R:List Rt):Int->List Lv->Prop
 | _,[]=>True
 | a,V::L=>((0<=a/\a<V.n/\V.n-a<=8/\V.n<=128)/\LvOk V (setS R a V.n))/\EgLv R V.n L
def topE:Int->List Lv->Int
 | a,[]=>a
 | _,V::L=>topE V.n L
structure RtsOk (R:List Rt):Prop where
 sort:Sorted R
 good:∀r∈R,r.k.good
 pos:∀r∈R,0<=r.v
theorem turnE_ok {R R':List Rt} (h:RtsOk R) (h':RtsOk R'):∀(L:List Lv) (a:Int),EgLv R a L->EgLv R' a (turnE R R' a L)
 | [],_,_=>trivial
 | V::L,a,⟨⟨h1,h2⟩,h3⟩=>by
  have hs:=h2.turns (ofS (setS R a V.n) (setS R' a V.n)) (ofS_good22 (fun r hr=>(setS_key h.good hr).1) (fun r hr=>(setS_key h'.good hr).1))
  rw [rows_of (set_sorted _ _ _) (set_sorted _ _ _) (setS_pos h.pos _ _) (setS_pos h'.pos _ _) (fun r hr=>(setS_key h.good hr).2) (fun r hr=>(setS_key h'.good hr).2)] at hs
  have ih:=turnE_ok h h' L V.n h3
  unfold turnE EgLv
  rw [turns_n]
  exact ⟨⟨h1,hs.1⟩,ih⟩
theorem turnE_top (R R':List Rt):∀(L:List Lv) (a:Int),topE a (turnE R R' a L)=topE a L
 | [],_=>rfl
 | V::L,a=>by
  unfold turnE topE
  rw [turns_n]
  exact turnE_top R R' L V.n
theorem turnE_len (R R':List Rt):∀(L:List Lv) (a:Int),(turnE R R' a L).length=L.length
 | [],_=>rfl
 | V::L,a=>by
  unfold turnE
  rw [List.length_cons,List.length_cons,turnE_len R R' L V.n]
theorem turnE_ns (R R':List Rt):∀(L:List Lv) (a:Int),(turnE R R' a L).map Lv.n=L.map Lv.n
 | [],_=>rfl
 | V::L,a=>by
  unfold turnE
  rw [List.map_cons,List.map_cons,turns_n,turnE_ns R R' L V.n]
theorem top_ge {R:List Rt}:∀(L:List Lv) (a:Int),EgLv R a L->a<=topE a L
 | [],_,_=>Int.le_refl _
 | V::L,a,⟨⟨h1,_⟩,h3⟩=>by
  have:=top_ge L V.n h3
  unfold topE
  omega
def lookL (ah al:Nat):List Lv->Option Int×List Int
 | []=>(none,[])
 | V::M=>if V.may ah al then (match V.hit ah al with
  | some v=>(some v,[V.n])
  | none=>((lookL ah al M).1,V.n::(lookL ah al M).2)) else lookL ah al M
theorem look_cons (ah al:Nat) (V:Lv) (M:List Lv):(lookL ah al (V::M)).1=(V.hit ah al).or (lookL ah al M).1:=by
 rw [show lookL ah al (V::M)=if V.may ah al then (match V.hit ah al with
  | some v=>(some v,[V.n])
  | none=>((lookL ah al M).1,V.n::(lookL ah al M).2)) else lookL ah al M from rfl]
 by_cases h:V.may ah al=true
 ·rw [if_pos h]
  cases V.hit ah al<;>rfl
 ·rw [if_neg h]
  unfold Lv.hit
  rw [if_neg h]
  rfl
theorem look_append (ah al:Nat):∀(X Y:List Lv),(lookL ah al (X++Y)).1=(lookL ah al X).1.or (lookL ah al Y).1
 | [],_=>rfl
 | V::X,Y=>by
  rw [List.cons_append,look_cons,look_cons,look_append ah al X Y,Option.or_assoc]
theorem hop_cut {N:List Rt} (hN:Sorted N) (ah al m:Nat) (low:Int):hopK N low (cutK ah al m)=(bestM (depV N ah al) low (m:Int) 129).bind (depV N ah al):=by
 unfold hopK
 rw [cand_cut]
 rcases lng_best (N:=N) ah al low (m:Int) with ⟨h1,h2⟩ | ⟨b,hb,j,h1,h2,h3⟩
 ·rw [h1,h2];rfl
 ·rw [h1,h2]
  show some (N.getD b _).v=depV N ah al j
  rw [getD_at hb,dep_of hN.nodup (List.getElem_mem hb) h3]
theorem best_dep {D:Nat->Option Int} {low high:Int} {b f:Nat} (h:bestM D low high f=some b):∃v,D b=some v:=by
 have:=(best_some.1 h).2.1.2.2
 cases e:D b with
 | none=>rw [e] at this;cases this
 | some v=>exact ⟨v,rfl⟩
theorem level_hit {R:List Rt} (h:RtsOk R) {V:Lv} {a:Int} (h0:0<=a) (h1:a<V.n) (h8:V.n-a<=8) (h2:V.n<=128) (hV:LvOk V (setS R a V.n)) {ah al:Nat} (wa:W64 ah) (wb:W64 al) :
 V.hit ah al=(bestM (depV R ah al) a V.n 129).bind (depV R ah al):=by
 rw [hV.hit]
 obtain ⟨n,hn⟩:=Int.eq_ofNat_of_zero_le (show 0<=V.n by omega)
 have hk:V.key ah al=cutK ah al n:=by unfold Lv.key;rw [hn];rfl
 rw [hk,hn,getS_set (by omega)]
 have hlv:=key_level (N:=R) h.good (low:=a) wa wb (show n<=128 by omega) (by omega)
 have hh:=hop_cut h.sort ah al n a
 rcases lng_best (N:=R) ah al a (n:Int) with ⟨g1,g2⟩ | ⟨b,hb,j,g1,g2,g3⟩
 ·rw [if_neg,g2]
  ·rfl
  ·intro hin
   have:=lng_is.2 (hlv.1 hin)
   rw [g1] at this
   cases this
 ·rw [if_pos (hlv.2 (lng_is.1 (by rw [g1];rfl)))]
  rw [<-hh]
  unfold hopV
  rw [hh,g2]
  obtain ⟨v,hv⟩:=best_dep g2
  show some ((depV R ah al j).getD 0)=depV R ah al j
  rw [hv]
  rfl
theorem look_best {R:List Rt} (h:RtsOk R) {ah al:Nat} (wa:W64 ah) (wb:W64 al):∀(L:List Lv) (a:Int),EgLv R a L->(lookL ah al L.reverse).1=(bestM (depV R ah al) a (topE a L) 129).bind (depV R ah al)
 | [],a,_=>by
  have:bestM (depV R ah al) a a 129=none:=best_none.2 fun m _ g=>by omega
  show none=(bestM (depV R ah al) a a 129).bind _
  rw [this]
  rfl
 | V::L,a,⟨⟨⟨g0,g1,g2,g3⟩,hV⟩,hL⟩=>by
  have ih:=look_best h wa wb L V.n hL
  have ht:=top_ge L V.n hL
  rw [List.reverse_cons,look_append,look_cons,ih,level_hit h g0 g1 g2 g3 hV wa wb]
  show _=(bestM (depV R ah al) a (topE V.n L) 129).bind (depV R ah al)
  cases e:bestM (depV R ah al) V.n (topE V.n L) 129 with
  | some b=>
   rw [best_upper (by omega) e]
   obtain ⟨v,hv⟩:=best_dep e
   show (depV R ah al b).or _=depV R ah al b
   rw [hv]
   rfl
  | none=>
   rw [best_lower (high':=V.n) (fun m _=>by omega) e]
   show Option.or none (Option.or _ none)=_
   rw [Option.or_none]
   rfl
def upS (R:List Rt) (d:Int):List Rt:=R.filter fun r=>decide (r.k.n<=d)
theorem dep_up (R:List Rt) (d:Int) (ah al m:Nat):depV (upS R d) ah al m=if (m:Int)<=d then depV R ah al m else none:=by
 rw [dep_get,dep_get]
 have:=getS_filter (fun k=>decide (k.n<=d)) R (cutK ah al m)
 unfold upS
 rw [this]
 have hn:(cutK ah al m).n=(m:Int):=rfl
 rw [hn]
 by_cases h:(m:Int)<=d
 ·rw [if_pos (by simpa using h),if_pos h]
 ·rw [if_neg (by simpa using h),if_neg h]
theorem dir_best {R:List Rt} (h:Sorted R) (ah al d:Nat):hopK (upS R (d:Int)) (-1) (cutK ah al d)=(bestM (depV R ah al) (-1) (d:Int) 129).bind (depV R ah al):=by
 have hs:Sorted (upS R (d:Int)):=List.Pairwise.filter _ h
 rw [hop_cut hs]
 have hb:bestM (depV (upS R (d:Int)) ah al) (-1) (d:Int) 129=bestM (depV R ah al) (-1) (d:Int) 129:=best_congr fun m _=>by
  rw [dep_up]
  by_cases g:(m:Int)<=(d:Int)
  ·rw [if_pos g]
  ·rw [if_neg g]
   constructor
   ·rintro ⟨_,g2,_⟩;exact absurd g2 g
   ·rintro ⟨_,g2,_⟩;exact absurd g2 g
 rw [hb]
 cases e:bestM (depV R ah al) (-1) (d:Int) 129 with
 | none=>rfl
 | some b=>
  have:=(best_some.1 e).2.1.2.1
  show depV (upS R (d:Int)) ah al b=depV R ah al b
  rw [dep_up,if_pos this]
theorem eg_longest {R:List Rt} (h:RtsOk R) {ah al d:Nat} (wa:W64 ah) (wb:W64 al) {L:List Lv} (hL:EgLv R (d:Int) L) :
 (lookL ah al L.reverse).1.or (hopK (upS R (d:Int)) (-1) (cutK ah al d))=(bestM (depV R ah al) (-1) (topE (d:Int) L) 129).bind (depV R ah al):=by
 rw [look_best h wa wb L _ hL,dir_best h.sort]
 have ht:=top_ge L _ hL
 cases e:bestM (depV R ah al) (d:Int) (topE (d:Int) L) 129 with
 | some b=>
  rw [best_upper (by omega) e]
  obtain ⟨v,hv⟩:=best_dep e
  show (depV R ah al b).or _=depV R ah al b
  rw [hv]
  rfl
 | none=>
  rw [best_lower (high':=(d:Int)) (fun m _=>by omega) e]
  rfl
theorem look_probes (ah al:Nat):∀(M:List Lv),(lookL ah al M).2.Sublist (M.map Lv.n)
 | []=>List.Sublist.slnil
 | V::M=>by
  have ih:=look_probes ah al M
  rw [show lookL ah al (V::M)=if V.may ah al then (match V.hit ah al with
   | some v=>(some v,[V.n])
   | none=>((lookL ah al M).1,V.n::(lookL ah al M).2)) else lookL ah al M from rfl]
  rw [List.map_cons]
  by_cases h:V.may ah al=true
  ·rw [if_pos h]
   cases V.hit ah al with
   | some v=>exact List.Sublist.cons_cons _ (List.nil_sublist _)
   | none=>exact List.Sublist.cons_cons _ ih
  ·rw [if_neg h]
   exact List.Sublist.cons _ ih
theorem ns_up {R:List Rt}:∀(L:List Lv) (a:Int),EgLv R a L->(∀x∈L.map Lv.n,a<x)/\(L.map Lv.n).Pairwise (· < ·)
 | [],_,_=>⟨fun x hx=>(by cases hx),List.Pairwise.nil⟩
 | V::L,a,⟨⟨⟨_,g1,_,_⟩,_⟩,hL⟩=>by
  obtain ⟨h1,h2⟩:=ns_up L V.n hL
  rw [List.map_cons]
  refine ⟨fun x hx => ?_,List.pairwise_cons.2 ⟨h1,h2⟩⟩
  rcases List.mem_cons.1 hx with rfl | hx
  ·exact g1
  ·exact Int.lt_trans g1 (h1 x hx)
theorem probes_down {R:List Rt} {L:List Lv} {a:Int} (h:EgLv R a L) (ah al:Nat):(lookL ah al L.reverse).2.Pairwise (· > ·):=by
 refine List.Pairwise.sublist (look_probes ah al L.reverse) ?_
 rw [List.map_reverse,List.pairwise_reverse]
 exact (ns_up L a h).2
end Go.Proofs.YtgfjmgebecmbiaaGreat

/-
  What histo.rise and histo.taken hand back. No condition but that the rows lie in memory and are short of a million.
-/
import Derived.Test.YtgfjmgebecmbiaaGreatM12f
import Derived.Test.YtgfjmgebecmbiaaGreatM12d
import Derived.Test.YtgfjmgebecmbiaaGreatM12
import Derived.Deep.LoopGhost
set_option linter.unusedSimpArgs false
set_option linter.unusedVariables false
namespace Go.Proofs.YtgfjmgebecmbiaaGreat
open M
theorem rep_keys {T:Tab} {r:Rt} (H:Inv T):(rep12 T r=none↔r.k∉keysR (contT T)):=by
 have hp:=@absent T H r.k
 unfold rep12
 constructor
 ·intro h
  split at h
  ·cases h
  ·rename_i h1
   split at h
   ·cases h
   ·rename_i h2
    split at h
    ·cases h
    ·rename_i h3
     exact hp (by simpa using h1) (by simpa using h2) (by simpa using h3)
 ·intro h
  have g1:∀b,b<T.B.length->¬(getC (T.bk b) r.k).isSome=true:=by
   intro b hb e
   obtain ⟨i,hi,-,q,hq,hqk,-⟩:=getC_some e
   exact h (hqk▸mem_keys (mem_bk hb (hq▸List.getElem_mem hi)))
  rw [if_neg (g1 _ (H.x1_lt r.k)),if_neg (g1 _ (H.x2_lt r.k)),if_neg]
  intro e
  have:=findS_some e
  unfold keysR contT at *
  rw [List.map_append] at h
  exact h (List.mem_append_right _ this)
theorem stay_rep {T:Tab} {r:Rt} {T':Tab} (h:rep12 T r=some T'):stay T r=(T',false):=by
 unfold stay
 rw [putIn_eq,h]
theorem stay_in {T:Tab} {r:Rt} (h:rep12 T r=none) (h2:(fresh T r).2=none):stay T r=((fresh T r).1,false):=by
 unfold stay
 rw [putIn_eq,h]
 simp only [h2]
theorem stay_left {T:Tab} {r q:Rt} (h:rep12 T r=none) (h2:(fresh T r).2=some q):stay T r=({ (fresh T r).1 with st:=intoS (fresh T r).1.st q },true):=by
 unfold stay
 rw [putIn_eq,h]
 simp only [h2]
theorem fresh_putIn {T:Tab} {r:Rt} (h:rep12 T r=none):putIn T r=fresh T r:=by rw [putIn_eq,h]
theorem out_len {L:List Rt} {r:Rt} (hn:(keysR L).Nodup) (h:r.k∈keysR L):(r::outS L r.k).length=L.length:=by
 unfold keysR at h
 rw [List.mem_map] at h
 obtain ⟨q,hq,e⟩:=h
 have:=(split_key hn hq).length_eq
 rw [e] at this
 rw [this]
 rfl
theorem stay_count_old {T:Tab} {r:Rt} (H:Inv T) (hr:r.k.good) (h:rep12 T r≠none):(contT (stay T r).1).length=(contT T).length:=by
 have:=(stay_ok H r hr).all.length_eq
 rw [this]
 exact out_len H.keys (Classical.byContradiction fun hn=>h ((rep_keys H).2 hn))
theorem stay_count_new {T:Tab} {r:Rt} (H:Inv T) (hr:r.k.good) (h:rep12 T r=none):(contT (stay T r).1).length=(contT T).length+1:=by
 have:=(stay_ok H r hr).all.length_eq
 rw [this,outS_self ((rep_keys H).1 h)]
 rfl
theorem st_le (T:Tab):T.st.length<=(contT T).length:=by unfold contT;rw [List.length_append];omega
theorem fresh_like {T:Tab} {r:Rt} (H:Inv T) (hr:r.k.good) (h:rep12 T r=none):Inv (fresh T r).1/\(fresh T r).1.B.length=T.B.length/\(fresh T r).1.st.length=T.st.length/\∀q,(fresh T r).2=some q->q.k.good/\q.k∉keysR (contT (fresh T r).1):=by
 have:=putIn_ok H r hr
 rw [fresh_putIn h] at this
 exact ⟨this.inv,this.like.n,this.st,fun q hq=>⟨(this.left q hq).1,(this.left q hq).2.1⟩⟩
theorem find_absent {T:Tab} {k:Ky} (h:k∉keysR (contT T)):findS T.st k=none:=by
 cases e:findS T.st k with
 | none=>rfl
 | some i=>
  have:=findS_some (by rw [e];rfl:(findS T.st k).isSome=true)
  exact absurd (by unfold contT keysR at *;rw [List.map_append];exact List.mem_append_right _ this) h
theorem putF_stay (d:Nat) {T:Tab} {r:Rt} (h:grows (stay T r)=false):putF d T r=(stay T r).1:=by
 cases d with
 | zero=>rfl
 | succ d=>unfold putF;rw [h];rfl
theorem putF_grow (d:Nat) {T:Tab} {r:Rt} (h:grows (stay T r)=true):putF (d+1) T r=(contT (stay T r).1).foldl (putF d) (grown (stay T r).1):=by
 show (if grows (stay T r)=true then _ else _)=_
 rw [if_pos h]
theorem find12_some {l:List Rt} {k:Ky} {i:Nat} (h:findS l k=some i):∃hi:i<l.length,(l.find? fun r=>decide (r.k=k))=some l[i]/\l[i].k=k:=by
 unfold findS at h
 rw [List.findIdx?_eq_some_iff_getElem] at h
 obtain ⟨hi,h1,h2⟩:=h
 refine ⟨hi,?_,of_decide_eq_true h1⟩
 rw [List.find?_eq_some_iff_getElem]
 exact ⟨h1,i,hi,rfl,fun j hj=>by have:=h2 j hj;simpa using this⟩
theorem mem_outK {L:List Rt} {k:Ky} {q:Rt}:q∈outS L k↔q∈L/\q.k≠k:=by unfold outS;rw [List.mem_filter];simp
theorem one_key {L:List Rt} (hn:(keysR L).Nodup) {a b:Rt} (ha:a∈L) (hb:b∈L) (h:a.k=b.k):a=b:=by
 have:=(split_key hn hb).mem_iff.1 ha
 rcases List.mem_cons.1 this with e | e
 ·exact e
 ·exact absurd h (mem_outK.1 e).2
theorem get_mem {T:Tab} (H:Inv T) {r:Rt} (h:r∈contT T):getT T r.k=some r.v:=by
 have hit:∀b,b<T.B.length->∀v,getC (T.bk b) r.k=some v->v=r.v:=by
  intro b hb v e
  obtain ⟨i,hi,-,q,hq,hqk,hg⟩:=getC_some (by rw [e];rfl:(getC (T.bk b) r.k).isSome=true)
  rw [e] at hg
  injection hg with hg
  rw [hg,one_key H.keys (mem_bk hb (hq▸List.getElem_mem hi)) h hqk]
 unfold getT
 cases h1:getC (T.bk (T.x1 r.k)) r.k with
 | some v=>exact congrArg some (hit _ (H.x1_lt _) v h1)
 | none=>
  cases h2:getC (T.bk (T.x2 r.k)) r.k with
  | some v=>exact congrArg some (hit _ (H.x2_lt _) v h2)
  | none=>
   cases h3:findS T.st r.k with
   | none=>exact absurd (mem_keys h) (absent H (by rw [h1];rfl) (by rw [h2];rfl) (by rw [h3];rfl))
   | some i=>
    obtain ⟨hi,e,hk⟩:=find12_some h3
    show (List.find? _ _).map _=_
    rw [e,one_key H.keys (show T.st[i]∈contT T from List.mem_append_right _ (List.getElem_mem hi)) h hk]
    rfl
structure Hold (T:Tab) (n:Nat) (K:Nat->Ky) (V:Nat->Int):Prop where
 inv:Inv T
 len:(contT T).length=n
 mem:∀j,j<n->(⟨K j,V j⟩:Rt)∈contT T
 all:∀r∈contT T,∃j,j<n/\r.k=K j
theorem Hold.empty {s n:Nat} (hs:W64 s) (h1:1<=n) (h2:n<=65536) (K:Nat->Ky) (V:Nat->Int):Hold (emptyT s n) 0 K V:=
 ⟨empty_inv hs h1 h2,by rw [empty_cont];rfl,fun j hj=>absurd hj (by omega),fun r hr=>by rw [empty_cont] at hr;cases hr⟩
theorem Hold.get {T:Tab} {n:Nat} {K:Nat->Ky} {V:Nat->Int} (H:Hold T n K V) {j:Nat} (hj:j<n):getT T (K j)=some (V j):=by
 have h:=get_mem H.inv (H.mem j hj)
 exact h
theorem keys_out {L:List Rt} {k:Ky} (h:(keysR L).Nodup):(keysR (outS L k)).Nodup:=by
 unfold keysR outS at *
 exact h.sublist (List.filter_sublist.map _)
theorem stash_lt {l:List Rt} {k:Ky}:(outS l k).length<l.length↔k∈keysR l:=by
 constructor
 ·intro h
  exact Classical.byContradiction fun hn=>by rw [outS_self hn] at h;omega
 ·intro h
  unfold keysR at h
  rw [List.mem_map] at h
  obtain ⟨r,hr,e⟩:=h
  unfold outS
  rw [List.length_filter_lt_length_iff_exists]
  exact ⟨r,hr,by simp [e]⟩
theorem del_bucket {T:Tab} (H:Inv T) {b:Nat} (hb:b<T.B.length) {k:Ky} {j:Nat} (hj:j<(T.bk b).length) {q:Rt} (hq:(T.bk b)[j]=some q) (hk:q.k=k) :
 Inv (T.set b ((T.bk b).set j none))/\(contT (T.set b ((T.bk b).set j none))).Perm (outS (contT T) k)/\k∈keysR (contT T):=by
 have h:=cont_less H hb hj hq
 rw [hk] at h
 exact ⟨H.place hb hj (fun r e=>by cases e) h.1,h.2,hk▸mem_keys (mem_bk hb (hq▸List.getElem_mem hj))⟩
theorem delT_ok {T:Tab} (H:Inv T) (k:Ky):Inv (delT T k).1/\(contT (delT T k).1).Perm (outS (contT T) k)/\((delT T k).2=true↔k∈keysR (contT T)):=by
 unfold delT
 rcases takeC_cases (T.bk (T.x1 k)) k with ⟨e1,n1⟩ | ⟨j,hj,q,e1,hq,hk⟩
 ·rw [e1]
  rcases takeC_cases (T.bk (T.x2 k)) k with ⟨e2,n2⟩ | ⟨j,hj,q,e2,hq,hk⟩
  ·rw [e2]
   have hno:k∉keysR (T.B.flatMap allC):=by
    intro hm
    unfold keysR at hm
    rw [List.mem_map] at hm
    obtain ⟨r,hr,rfl⟩:=hm
    rw [List.mem_flatMap] at hr
    obtain ⟨C,hC,hr⟩:=hr
    obtain ⟨i,hi,rfl⟩:=List.getElem_of_mem hC
    unfold allC at hr
    rw [List.mem_filterMap] at hr
    obtain ⟨x,hx,e⟩:=hr
    simp only [id] at e
    subst e
    rw [<-bk_at T i hi] at hx
    rcases H.home i hi r hx with e | e
    ·subst e;exact idx_none n1 r hx rfl
    ·subst e;exact idx_none n2 r hx rfl
   have hc:contT { T with st:=outS T.st k }=outS (contT T) k:=by
    show T.B.flatMap allC++outS T.st k=outS (T.B.flatMap allC++T.st) k
    have:=outS_self hno
    unfold outS at *
    rw [List.filter_append,this]
   refine ⟨⟨H.lo,H.hi,H.four,H.word,fun r hr => ?_,H.home,?_,outS_sorted k H.sort⟩,by rw [hc],?_⟩
   ·rw [hc] at hr
    exact H.good r (mem_outK.1 hr).1
   ·rw [hc]
    exact keys_out H.keys
   ·rw [decide_eq_true_iff,stash_lt]
    unfold contT keysR at *
    rw [List.map_append,List.mem_append]
    exact ⟨.inr,fun h=>h.resolve_left hno⟩
  ·rw [e2]
   have h:=del_bucket H (H.x2_lt k) hj hq hk
   exact ⟨h.1,h.2.1,fun _=>h.2.2,fun _=>rfl⟩
 ·rw [e1]
  have h:=del_bucket H (H.x1_lt k) hj hq hk
  exact ⟨h.1,h.2.1,fun _=>h.2.2,fun _=>rfl⟩
structure Kept (T:Tab) (N:List Rt):Prop where
 inv:Inv T
 sort:Sorted N
 all:(contT T).Perm N
theorem Kept.empty {s n:Nat} (hs:W64 s) (h1:1<=n) (h2:n<=65536):Kept (emptyT s n) []:=⟨empty_inv hs h1 h2,List.Pairwise.nil,by rw [empty_cont]⟩
theorem Kept.len {T:Tab} {N:List Rt} (H:Kept T N):(contT T).length=N.length:=H.all.length_eq
theorem Kept.put {T:Tab} {N:List Rt} (H:Kept T N) (d:Nat) (r:Rt) (hr:r.k.good):Kept (putF d T r) (intoS N r):=by
 have h:=putF_ok d T r H.inv hr
 exact ⟨h.inv,intoS_sorted r H.sort,(h.all.trans ((outS_perm H.all r.k).cons r)).trans (intoS_perm r H.sort).symm⟩
theorem Kept.del {T:Tab} {N:List Rt} (H:Kept T N) (k:Ky):Kept (delT T k).1 (outS N k):=by
 have h:=delT_ok H.inv k
 exact ⟨h.1,outS_sorted k H.sort,h.2.1.trans (outS_perm H.all k)⟩
theorem Kept.del_tells {T:Tab} {N:List Rt} (H:Kept T N) (k:Ky):((delT T k).2=true↔k∈keysR N):=by
 rw [(delT_ok H.inv k).2.2]
 exact (keysR_perm H.all).mem_iff
theorem Kept.get {T:Tab} {N:List Rt} (H:Kept T N) {r:Rt} (hr:r∈N):getT T r.k=some r.v:=get_mem H.inv (H.all.mem_iff.2 hr)
theorem Kept.sorted {T:Tab} {N M:List Rt} (H:Kept T N) (hM:Sorted M) (hp:M.Perm (contT T)):M=N:=sorted_eq hM H.sort (hp.trans H.all)
def pathN (h l:Nat) (n:Nat):List Bool:=(List.range n).map fun i=>bitN h l i
theorem path_len (h l n:Nat):(pathN h l n).length=n:=by simp [pathN]
theorem path_at {h l n i:Nat} (hi:i<n):(pathN h l n)[i]'(by rw [path_len];exact hi)=bitN h l i:=by simp [pathN]
theorem path_cut {h l h' l' n:Nat} (a:W64 h) (b:W64 l) (c:W64 h') (d:W64 l') (hn:n<=128):pathN h l n=pathN h' l' n↔cutW h n=cutW h' n/\cutW l (n-64)=cutW l' (n-64):=by
 constructor
 ·intro e
  have hb:∀i,i<n->bitN h l i=bitN h' l' i:=fun i hi=>by
   have:=congrArg (fun L=>L[i]?) e
   simp only [List.getElem?_eq_getElem (show i<(pathN h l n).length by rw [path_len];exact hi),List.getElem?_eq_getElem (show i<(pathN h' l' n).length by rw [path_len];exact hi),path_at hi] at this
   exact Option.some.inj this
  refine addr_ext _ _ _ _ (a.cut _) (b.cut _) (c.cut _) (d.cut _) fun i _ => ?_
  rw [bitN_cut,bitN_cut]
  by_cases h:i<n
  ·rw [hb i h]
  ·simp [h]
 ·rintro ⟨e1,e2⟩
  refine List.ext_getElem (by rw [path_len,path_len]) fun i h1 h2 => ?_
  rw [path_len] at h1
  rw [path_at h1,path_at h1]
  unfold bitN
  by_cases hi:i<64
  ·rw [if_pos hi,if_pos hi]
   have:=congrArg (fun w=>w.testBit (63-i)) e1
   simp only [cutW_bit,show 64-n<=63-i by omega,decide_true,Bool.true_and] at this
   exact this
  ·rw [if_neg hi,if_neg hi,if_pos (by omega),if_pos (by omega)]
   have:=congrArg (fun w=>w.testBit (127-i)) e2
   simp only [cutW_bit,show 64-(n-64)<=127-i by omega,decide_true,Bool.true_and] at this
   exact this
def pathK (k:Ky):List Bool:=pathN k.h k.l k.n.toNat
def rightK (k:Ky):Prop:=rightB k.h k.l k.n=true
theorem cutK_good {ah al m:Nat} (a:W64 ah) (b:W64 al):(cutK ah al m).good:=⟨W64.cut _ a,W64.cut _ b⟩
theorem pathK_inj {k k':Ky} (g:k.good) (g':k'.good) (r:rightK k) (r':rightK k') (h:pathK k=pathK k'):k=k':=by
 have h1:=(rightB_iff _ _ _).1 r
 have h2:=(rightB_iff _ _ _).1 r'
 have hl:=congrArg List.length h
 unfold pathK at hl h
 rw [path_len,path_len] at hl
 have hn:k.n=k'.n:=by omega
 rw [<-hl] at h
 have hc:=(path_cut g.1 g.2 g'.1 g'.2 (by omega)).1 h
 obtain ⟨kh,kl,kn⟩:=k
 obtain ⟨kh',kl',kn'⟩:=k'
 simp only at *
 subst hn
 rw [h1.2.2.1,h2.2.2.1,h1.2.2.2,h2.2.2.2] at hc
 rw [hc.1,hc.2]
inductive Tr where
 | nil
 | node (v:Option Int) (l r:Tr)
def Tr.get:Tr->List Bool->Option Int
 | .nil,_=>none
 | .node v _ _,[]=>v
 | .node _ l r,b::p=>if b then r.get p else l.get p
def Tr.put:Tr->List Bool->Int->Tr
 | .nil,[],x => .node (some x) .nil .nil
 | .nil,b::p,x=>if b then .node none .nil (Tr.put .nil p x) else .node none (Tr.put .nil p x) .nil
 | .node _ l r,[],x => .node (some x) l r
 | .node v l r,b::p,x=>if b then .node v l (r.put p x) else .node v (l.put p x) r
def Tr.del:Tr->List Bool->Tr
 | .nil,_ => .nil
 | .node _ l r,[] => .node none l r
 | .node v l r,b::p=>if b then .node v l (r.del p) else .node v (l.del p) r
theorem Tr.get_nil (p:List Bool):Tr.nil.get p=none:=by cases p<;>rfl
theorem Tr.get_put:∀(t:Tr) (p q:List Bool) (x:Int),(t.put p x).get q=if q=p then some x else t.get q
 | .nil,[],[],x=>rfl
 | .nil,[],c::q,x=>by
  rw [if_neg (by simp)]
  cases c<;>exact Tr.get_nil q
 | .nil,b::p,[],x=>by
  rw [if_neg (by simp)]
  unfold Tr.put
  cases b<;>rfl
 | .nil,b::p,c::q,x=>by
  have ih:=Tr.get_put .nil p q x
  rw [Tr.get_nil] at ih
  unfold Tr.put
  cases b<;>cases c<;>simp [Tr.get,Tr.get_nil,ih]
 | .node v l r,[],[],x=>rfl
 | .node v l r,[],c::q,x=>by
  rw [if_neg (by simp)]
  rfl
 | .node v l r,b::p,[],x=>by
  rw [if_neg (by simp)]
  unfold Tr.put
  cases b<;>rfl
 | .node v l r,b::p,c::q,x=>by
  have i1:=Tr.get_put l p q x
  have i2:=Tr.get_put r p q x
  unfold Tr.put
  cases b<;>cases c<;>simp [Tr.get,i1,i2]
theorem Tr.get_del:∀(t:Tr) (p q:List Bool),(t.del p).get q=if q=p then none else t.get q
 | .nil,p,q=>by
  unfold Tr.del
  rw [Tr.get_nil]
  split<;>rfl
 | .node v l r,[],[]=>rfl
 | .node v l r,[],c::q=>by
  rw [if_neg (by simp)]
  rfl
 | .node v l r,b::p,[]=>by
  rw [if_neg (by simp)]
  unfold Tr.del
  cases b<;>rfl
 | .node v l r,b::p,c::q=>by
  have i1:=Tr.get_del l p q
  have i2:=Tr.get_del r p q
  unfold Tr.del
  cases b<;>cases c<;>simp [Tr.get,i1,i2]
def Tr.sub:Tr->List Bool->Tr
 | t,[]=>t
 | .nil,_::_ => .nil
 | .node _ l r,b::p=>if b then r.sub p else l.sub p
theorem Tr.sub_zero (t:Tr):t.sub []=t:=by cases t<;>rfl
def conT' (N:List Rt) (k:Ky):Option Int:=(N.find? fun r=>decide (r.k=k)).map Rt.v
theorem con_some {N:List Rt} (hn:(keysR N).Nodup) {k:Ky} {x:Int}:conT' N k=some x↔(⟨k,x⟩:Rt)∈N:=by
 unfold conT'
 induction N with
 | nil=>simp
 | cons a N ih=>
  have h1:a.k∉keysR N/\(keysR N).Nodup:=by
   unfold keysR at *
   rw [List.map_cons,List.nodup_cons] at hn
   exact hn
  rw [List.find?_cons]
  by_cases e:a.k=k
  ·simp only [e,decide_true,Option.map_some,Option.some.injEq,List.mem_cons]
   constructor
   ·intro h
    left
    rw [<-h,<-e]
   ·rintro (h | h)
    ·rw [<-h]
    ·exact absurd (by rw [e];exact mem_keys h) h1.1
  ·simp only [e,decide_false,List.mem_cons]
   rw [ih h1.2]
   constructor
   ·exact .inr
   ·rintro (h | h)
    ·exact absurd (by rw [<-h]) e
    ·exact h
theorem con_none {N:List Rt} {k:Ky}:conT' N k=none↔k∉keysR N:=by
 unfold conT' keysR
 rw [Option.map_eq_none_iff,List.find?_eq_none]
 simp
theorem con_into {N:List Rt} (h:Sorted N) (r:Rt) (k:Ky):conT' (intoS N r) k=if k=r.k then some r.v else conT' N k:=by
 have hs:=intoS_sorted r h
 have hp:=intoS_perm r h
 by_cases e:k=r.k
 ·rw [if_pos e,con_some hs.nodup]
  refine hp.mem_iff.2 ?_
  rw [e]
  exact List.mem_cons_self
 ·rw [if_neg e]
  cases hc:conT' N k with
  | none=>
   rw [con_none] at hc ⊢
   intro hm
   unfold keysR at hm hc
   rw [List.mem_map] at hm
   obtain ⟨q,hq,rfl⟩:=hm
   rcases List.mem_cons.1 (hp.mem_iff.1 hq) with e2 | e2
   ·exact e (by rw [e2])
   ·exact hc (List.mem_map_of_mem (mem_outS.1 e2).1)
  | some x=>
   rw [con_some hs.nodup]
   rw [con_some h.nodup] at hc
   exact hp.mem_iff.2 (List.mem_cons_of_mem _ (mem_outS.2 ⟨hc,e⟩))
theorem con_out {N:List Rt} (h:Sorted N) (k0 k:Ky):conT' (outS N k0) k=if k=k0 then none else conT' N k:=by
 have hs:Sorted (outS N k0):=List.Pairwise.filter _ h
 by_cases e:k=k0
 ·rw [if_pos e,con_none]
  intro hm
  unfold keysR at hm
  rw [List.mem_map] at hm
  obtain ⟨q,hq,hk⟩:=hm
  exact (mem_outS.1 hq).2 (hk.trans e)
 ·rw [if_neg e]
  cases hc:conT' N k with
  | none=>
   rw [con_none] at hc ⊢
   intro hm
   unfold keysR at hm hc
   rw [List.mem_map] at hm
   obtain ⟨q,hq,rfl⟩:=hm
   exact hc (List.mem_map_of_mem (mem_outS.1 hq).1)
  | some x=>
   rw [con_some hs.nodup]
   rw [con_some h.nodup] at hc
   exact mem_outS.2 ⟨hc,e⟩
structure TrOf (t:Tr) (N:List Rt):Prop where
 sort:Sorted N
 good:∀r∈N,r.k.good
 right:∀r∈N,rightK r.k
 has:∀k:Ky,k.good->rightK k->t.get (pathK k)=conT' N k
theorem TrOf.empty:TrOf .nil []:=⟨List.Pairwise.nil,fun _ h=>(by cases h),fun _ h=>(by cases h),fun k _ _=>Tr.get_nil _⟩
theorem TrOf.put {t:Tr} {N:List Rt} (H:TrOf t N) (r:Rt) (g:r.k.good) (hr:rightK r.k):TrOf (t.put (pathK r.k) r.v) (intoS N r):=by
 refine ⟨intoS_sorted r H.sort,fun q hq => ?_,fun q hq => ?_,fun k kg kr => ?_⟩
 ·rcases intoS_mem H.sort hq with e | e
  ·rw [e];exact g
  ·exact H.good q e
 ·rcases intoS_mem H.sort hq with e | e
  ·rw [e];exact hr
  ·exact H.right q e
 ·rw [Tr.get_put,con_into H.sort,H.has k kg kr]
  by_cases e:k=r.k
  ·rw [if_pos e,if_pos (by rw [e])]
  ·rw [if_neg e,if_neg (fun h=>e (pathK_inj kg g kr hr h))]
theorem TrOf.del {t:Tr} {N:List Rt} (H:TrOf t N) (k0:Ky) (g:k0.good) (hr:rightK k0):TrOf (t.del (pathK k0)) (outS N k0):=by
 refine ⟨List.Pairwise.filter _ H.sort,fun q hq=>H.good q (mem_outS.1 hq).1,fun q hq=>H.right q (mem_outS.1 hq).1,fun k kg kr => ?_⟩
 rw [Tr.get_del,con_out H.sort,H.has k kg kr]
 by_cases e:k=k0
 ·rw [if_pos e,if_pos (by rw [e])]
 ·rw [if_neg e,if_neg (fun h=>e (pathK_inj kg g kr hr h))]
theorem best_congr {D D':Nat->Option Int} {low high low' high':Int}:∀{f:Nat},(∀m,m<f->((low<(m:Int)/\(m:Int)<=high/\(D m).isSome=true)↔(low'<(m:Int)/\(m:Int)<=high'/\(D' m).isSome=true)))->bestM D low high f=bestM D' low' high' f
 | 0,_=>rfl
 | f+1,h=>by
  have ih:=best_congr (f:=f) fun m hm=>h m (by omega)
  unfold bestM
  by_cases c:low<(f:Int)/\(f:Int)<=high/\(D f).isSome=true
  ·rw [if_pos c,if_pos ((h f (by omega)).1 c)]
  ·rw [if_neg c,if_neg (fun g=>c ((h f (by omega)).2 g)),ih]
theorem best_upper {D:Nat->Option Int} {low mid high:Int} {f b:Nat} (h:low<=mid) (e:bestM D mid high f=some b):bestM D low high f=some b:=by
 obtain ⟨h1,h2,h3⟩:=best_some.1 e
 refine best_some.2 ⟨h1,⟨by omega,h2.2⟩,fun m hm hf g=>h3 m hm hf ⟨by omega,g.2⟩⟩
theorem best_lower {D:Nat->Option Int} {low mid high high':Int} {f:Nat} (hh:∀m:Nat,m<f->((m:Int)<=high'↔(m:Int)<=high/\(m:Int)<=mid)) (e:bestM D mid high f=none):bestM D low high f=bestM D low high' f:=by
 have h:=best_none.1 e
 refine best_congr fun m hm=>⟨fun ⟨a,b,c⟩=>⟨a,?_,c⟩,fun ⟨a,b,c⟩=>⟨a,((hh m hm).1 b).1,c⟩⟩
 refine (hh m hm).2 ⟨b,?_⟩
 by_cases g:mid<(m:Int)
 ·exact absurd ⟨g,b,c⟩ (h m hm)
 ·omega
theorem cutK_common {ah al bh bl m m':Nat} (a:W64 ah) (b:W64 al) (c:W64 bh) (d:W64 bl) (hm:m<=128):cutK ah al m=cutK bh bl m'↔m=m'/\m<=commonN ah al bh bl:=by
 constructor
 ·intro e
  have hn:m=m':=by
   unfold cutK at e
   injection e with _ _ e
   exact Int.ofNat.inj e
  subst hn
  refine ⟨rfl,?_⟩
  unfold cutK at e
  injection e with e1 e2 _
  have hp:=(path_cut a b c d hm).2 ⟨e1,e2⟩
  by_cases h:m<=commonN ah al bh bl
  ·exact h
  ·have hlt:commonN ah al bh bl<m:=by omega
   have hne:=commonN_next ah al bh bl a b c d (by omega)
   have:=congrArg (fun L=>L[commonN ah al bh bl]?) hp
   simp only [List.getElem?_eq_getElem (show commonN ah al bh bl<(pathN ah al m).length by rw [path_len];exact hlt),List.getElem?_eq_getElem (show commonN ah al bh bl<(pathN bh bl m).length by rw [path_len];exact hlt),path_at hlt] at this
   exact absurd (Option.some.inj this) hne
 ·rintro ⟨rfl,h⟩
  have hp:pathN ah al m=pathN bh bl m:=by
   refine List.ext_getElem (by rw [path_len,path_len]) fun i h1 h2 => ?_
   rw [path_len] at h1
   rw [path_at h1,path_at h1]
   exact commonN_same ah al bh bl a b c d i (by omega)
  have:=(path_cut a b c d hm).1 hp
  unfold cutK
  rw [this.1,this.2]
end Go.Proofs.YtgfjmgebecmbiaaGreat
namespace Go.Proofs.YtgfjmgebecmbiaaGreat
def atC (C:List Int) (n:Nat):Nat:=(max 0 (min (C.getD n 0) 1048576)).toNat
theorem atC_le (C:List Int) (n:Nat):atC C n<=1048576:=by unfold atC;omega
theorem atC_at (C:List Int) (n:Nat) (h:n<C.length):atC C n=(max 0 (min C[n] 1048576)).toNat:=by unfold atC;simp [h]
theorem atC_past (C:List Int) (n:Nat) (h:C.length<=n):atC C n=0:=by
 unfold atC
 rw [List.getD_eq_getElem?_getD,List.getElem?_eq_none h]
 rfl
def riseB:Int->List Int->Bool
 | _,[]=>true
 | low,a::L=>decide (low<a)&&decide (a<=128)&&riseB a L
theorem rise_mem:∀(L:List Int) (low:Int),riseB low L=true->∀a∈L,low<a/\a<=128
 | [],_,_,a,h=>by cases h
 | b::L,low,h,a,ha=>by
  simp only [riseB,Bool.and_eq_true,decide_eq_true_eq] at h
  rcases List.mem_cons.1 ha with rfl | ha
  ·exact h.1
  ·have:=rise_mem L b h.2 a ha
   omega
def near (L:List Int) (n:Nat):List Int:=L.dropWhile fun a=>decide (a<(n:Int))
theorem near_cons (a:Int) (L:List Int) (n:Nat):near (a::L) n=if a<(n:Int) then near L n else a::L:=by
 unfold near
 rw [List.dropWhile_cons]
 simp
theorem near_near:∀(L:List Int) (m n:Nat),m<=n->near (near L m) n=near L n
 | [],_,_,_=>rfl
 | a::L,m,n,h=>by
  rw [near_cons a L m]
  by_cases h1:a<(m:Int)
  ·rw [if_pos h1,near_cons a L n,if_pos (by omega),near_near L m n h]
  ·rw [if_neg h1]
theorem near_head:∀(L:List Int) (n:Nat) (a:Int) (M:List Int),near L n=a::M->(n:Int)<=a/\a∈L
 | [],_,_,_,h=>by cases h
 | b::L,n,a,M,h=>by
  rw [near_cons] at h
  by_cases h1:b<(n:Int)
  ·rw [if_pos h1] at h
   have:=near_head L n a M h
   exact ⟨this.1,List.mem_cons_of_mem _ this.2⟩
  ·rw [if_neg h1] at h
   injection h with h2 h3
   subst h2
   exact ⟨by omega,List.mem_cons_self⟩
def termH (M:List Int) (n x:Nat):Option Nat:=
 match M with
 | []=>none
 | a::_=>if 20<a-(n:Int) then none else some (x*2^(a-(n:Int)).toNat)
theorem termH_le {M:List Int} {n x t:Nat} (h:termH M n x=some t) (hx:x<=1048576):t<=1099511627776:=by
 cases M with
 | nil=>cases h
 | cons a M=>
  simp only [termH] at h
  by_cases h1:20<a-(n:Int)
  ·rw [if_pos h1] at h;cases h
  ·rw [if_neg h1] at h
   injection h with h
   subst h
   have:2^(a-(n:Int)).toNat<=2^20:=Nat.pow_le_pow_right (by decide) (by omega)
   exact Nat.le_trans (Nat.mul_le_mul hx this) (by decide)
def capS (n:Nat):Nat:=n*1099511627776
theorem capS_same {s n:Nat} (h:s<=capS n):s<=capS (n+1):=Nat.le_trans h (Nat.mul_le_mul_right _ (Nat.le_succ n))
theorem capS_next {s t n:Nat} (h:s<=capS n) (ht:t<=1099511627776):s+t<=capS (n+1):=by unfold capS at *;rw [Nat.succ_mul];exact Nat.add_le_add h ht
theorem capS_top {s n:Nat} (h:s<=capS n) (hn:n<=129):s<=141836999983104:=Nat.le_trans h (Nat.le_trans (Nat.mul_le_mul_right _ hn) (by decide))
def sumK (C L:List Int) (low:Int):Nat->Nat->Nat->Option Nat
 | 0,_,s=>some s
 | k+1,n,s=>if (n:Int)<=low\/atC C n=0 then sumK C L low k (n+1) s else
  match termH (near L n) n (atC C n) with
  | none=>none
  | some t=>sumK C L low k (n+1) (s+t)
def costK (C L:List Int) (low:Int):Option Nat:=if 0<=low/\riseB low L=true then sumK C L low 129 0 0 else none
theorem sumK_skip (C L:List Int) (low:Int) (n s:Nat) (h:n<129) (hs:(n:Int)<=low\/atC C n=0):sumK C L low (129-n) n s=sumK C L low (129-(n+1)) (n+1) s:=by
 rw [show 129-n=(129-(n+1))+1 by omega,sumK,if_pos hs]
theorem sumK_none (C L:List Int) (low:Int) (n s:Nat) (h:n<129) (hs:¬((n:Int)<=low\/atC C n=0)) (ht:termH (near L n) n (atC C n)=none):sumK C L low (129-n) n s=none:=by
 rw [show 129-n=(129-(n+1))+1 by omega,sumK,if_neg hs,ht]
theorem sumK_some (C L:List Int) (low:Int) (n s t:Nat) (h:n<129) (hs:¬((n:Int)<=low\/atC C n=0)) (ht:termH (near L n) n (atC C n)=some t) :
 sumK C L low (129-n) n s=sumK C L low (129-(n+1)) (n+1) (s+t):=by
 rw [show 129-n=(129-(n+1))+1 by omega,sumK,if_neg hs,ht]
def smF (f:Nat->Nat):Nat->Nat
 | 0=>0
 | k+1=>smF f k+f k
theorem smF_congr {f g:Nat->Nat}:∀k:Nat,(∀n,n<k->f n=g n)->smF f k=smF g k
 | 0,_=>rfl
 | k+1,h=>by rw [smF,smF,smF_congr k (fun n hn=>h n (by omega)),h k (by omega)]
theorem smF_zero:∀k:Nat,smF (fun _=>0) k=0
 | 0=>rfl
 | k+1=>by rw [smF,smF_zero k]
def keyF (L:List Int) (low:Int) (n:Nat):Nat:=if (n:Int)<=low then 0 else match near L n with | []=>0 | a::_=>2^(a-(n:Int)).toNat
end Go.Proofs.YtgfjmgebecmbiaaGreat
namespace Go.Proofs.YtgfjmgebecmbiaaGreat
open Go Go.RowKit Go.Sort M
def ansV (o:Option Nat):Value := .tuple #[.int .i64 ((o.getD 0:Nat):Int),.bool o.isSome]
theorem riseB_drop (lo:Int) (L:List Int) (i:Nat) (hi:i<L.length):riseB lo (L.drop i)=(decide (lo<L[i])&&decide (L[i]<=128)&&riseB L[i] (L.drop (i+1))):=by
 rw [List.drop_eq_getElem_cons hi]
 rfl
set_option maxHeartbeats 1000000 in
theorem rise_any (q:Option Addr) (d:Nat) (L:List Int) (low:Int) (w:World) (hL:IRow w q L) (hl:L.length<=1000000) :
 Calls Tryz.prog 98 #[.slice q L.length d,.int .i64 low] w fun e w'=>e = .returned (.bool (riseB low L))/\Below w.heap.size w w':=by
 have HL:=Lib.hid hL
 obtain ⟨R,hR⟩:∃R,R=riseB low L:=⟨_,rfl⟩
 rw [<-hR]
 have HR:=Lib.hid hR
 clear hR hL
 go_enter Tryz.func98,Tryz.ntmps98
 go_wp2
 go_loopg [1,9] L.length (fun kx s1 s9 wr=>∃(i:Nat) (lo:Int),s9 = .int .i64 (i:Int)/\L.length-i<=kx/\i<=L.length/\s1 = .int .i64 lo/\Hid (riseB lo (L.drop i)=R)/\Below w.heap.size w wr)
 case atStart=>exact ⟨0,low,rfl,by omega,by omega,rfl,Lib.hid HR.out.symm,by go_grown⟩
 case round=>
  obtain ⟨i,lo,rfl,h1,h2,rfl,HI,hb⟩:=hrel
  by_cases hi:i<L.length
  ·obtain ⟨g,o,rfl,hg,x0⟩:=(HL.out.below hb).at hi
   have hs:=riseB_drop lo L i hi
   rw [HI.out] at hs
   obtain ⟨a,ha⟩:∃a,a=L[i]:=⟨_,rfl⟩
   rw [<-ha] at x0 hs
   have i1:(0:Int)<=(i:Int):=by omega
   have i2:(i:Int)<(L.length:Int):=by omega
   clear ha
   by_cases h3:a<=lo
   ·have HF:Hid (false=R):=by rw [decide_eq_false (by omega:¬lo<a)] at hs;exact Lib.hid hs.symm
    clear hs
    go_wp2
    go_ret
    exact ⟨ret_bool HF.out,hb⟩
   ·by_cases h4:(129:Int)<=a
    ·have HF:Hid (false=R):=by rw [decide_eq_false (by omega:¬a<=128)] at hs;simp at hs;exact Lib.hid hs.symm
     clear hs
     go_wp2
     go_ret
     exact ⟨ret_bool HF.out,hb⟩
    ·have HN:Hid (riseB a (L.drop (i+1))=R):=by rw [decide_eq_true (by omega:lo<a),decide_eq_true (by omega:a<=128)] at hs;simp at hs;exact Lib.hid hs.symm
     clear hs
     go_wp2
     go_roundg (L.length-(i+1))
     case measure=>omega
     case rel=>exact ⟨i+1,a,by go_num,by omega,by omega,rfl,HN,hb⟩
  ·go_wp2
   go_ret
   have:=HI.out
   rw [List.drop_eq_nil_of_le (by omega)] at this
   exact ⟨ret_bool this,hb⟩
theorem taken_any (p:Option Addr) (c:Nat) (C:List Int) (n:Nat) (w:World) (hC:IRow w p C) (hl:C.length<=1000000) (hn:n<=1000000) :
 Calls Tryz.prog 99 #[.slice p C.length c,.int .i64 (n:Int)] w fun e w'=>e = .returned (.int .i64 (atC C n:Nat))/\Below w.heap.size w w':=by
 by_cases hi:n<C.length
 ·obtain ⟨g,o,rfl,hg,x0⟩:=hC.at hi
  have he:=atC_at C n hi
  obtain ⟨a,ha⟩:∃a,a=C[n]:=⟨_,rfl⟩
  rw [<-ha] at x0 he
  have i1:(0:Int)<=(n:Int):=by omega
  have i2:(n:Int)<(C.length:Int):=by omega
  have HE:=Lib.hid he
  clear ha he hC
  by_cases h1:a<=0
  ·by_cases h0:0<a
   ·omega
   ·have h2:¬(1048576:Int)<a:=by omega
    go_enter Tryz.func99,Tryz.ntmps99
    go_wp2
    go_ret
    exact ⟨ret_num (by have:=HE.out;omega),by go_grown⟩
  ·by_cases h2:(1048576:Int)<a
   ·have h0:0<a:=by omega
    go_enter Tryz.func99,Tryz.ntmps99
    go_wp2
    go_ret
    exact ⟨ret_num (by have:=HE.out;omega),by go_grown⟩
   ·have h0:0<a:=by omega
    go_enter Tryz.func99,Tryz.ntmps99
    go_wp2
    go_ret
    exact ⟨ret_num (by have:=HE.out;omega),by go_grown⟩
 ·have HE:=Lib.hid (atC_past C n (by omega))
  clear hC
  go_enter Tryz.func99,Tryz.ntmps99
  go_wp2
  go_ret
  exact ⟨ret_num (by rw [HE.out];rfl),by go_grown⟩
end Go.Proofs.YtgfjmgebecmbiaaGreat

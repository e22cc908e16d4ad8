import Derived.Test.YtgfjmgebecmbiaaGreatM12f
import Derived.Deep.LoopGhost
set_option linter.unusedSimpArgs false
set_option linter.unusedVariables false
set_option maxHeartbeats 1000000
namespace Go.Proofs.YtgfjmgebecmbiaaGreat
open Lib(hid)
section
open M
theorem Zsi {T:Tab} {r:Rt} (H:Inv T):(Zc9 T r=none↔r.k∉Zad (Zae T)):=by
 have hp:=@Z0t T H r.k
 unfold Zc9
 constructor
 ·intro h
  split at h
  ·cases h
  ·rename_i h1
   split at h
   ·cases h
   ·rename_i h2
    split at h
    ·cases h
    ·rename_i h3
     exact hp (by simpa using h1) (by simpa using h2) (by simpa using h3)
 ·intro h
  have g1:∀b,b<T.B.length->¬(getC (T.bk b) r.k).isSome=true:=by
   intro b hb e
   obtain ⟨i,hi,-,q,hq,hqk,-⟩:=Ze0 e
   exact h (hqk▸Zcd (Zir hb (hq▸List.getElem_mem hi)))
  rw [if_neg (g1 _ (H.x1_lt r.k)),if_neg (g1 _ (H.x2_lt r.k)),if_neg]
  intro e
  have:=Zfk e
  unfold Zad Zae at *
  rw [List.map_append] at h
  exact h (List.mem_append_right _ this)
theorem Z1j {T:Tab} {r:Rt} {T':Tab} (h:Zc9 T r=some T'):stay T r=(T',false):=by
 unfold stay
 rw [Zi4,h]
theorem Zqf {T:Tab} {r:Rt} (h:Zc9 T r=none) (h2:(fresh T r).2=none):stay T r=((fresh T r).1,false):=by
 unfold stay
 rw [Zi4,h]
 simp only [h2]
theorem Zw6 {T:Tab} {r q:Rt} (h:Zc9 T r=none) (h2:(fresh T r).2=some q):stay T r=({ (fresh T r).1 with st:=Zao (fresh T r).1.st q },true):=by
 unfold stay
 rw [Zi4,h]
 simp only [h2]
theorem Zrl {T:Tab} {r:Rt} (h:Zc9 T r=none):Zix T r=fresh T r:=by rw [Zi4,h]
theorem Z5q {L:List Rt} {r:Rt} (hn:(Zad L).Nodup) (h:r.k∈Zad L):(r::outS L r.k).length=L.length:=by
 unfold Zad at h
 rw [List.mem_map] at h
 obtain ⟨q,hq,e⟩:=h
 have:=(Zc4 hn hq).length_eq
 rw [e] at this
 rw [this]
 rfl
theorem Zfy {T:Tab} {r:Rt} (H:Inv T) (hr:r.k.good) (h:Zc9 T r≠none):(Zae (stay T r).1).length=(Zae T).length:=by
 have:=(Zhu H r hr).all.length_eq
 rw [this]
 exact Z5q H.keys (Classical.byContradiction fun hn=>h ((Zsi H).2 hn))
theorem Zfz {T:Tab} {r:Rt} (H:Inv T) (hr:r.k.good) (h:Zc9 T r=none):(Zae (stay T r).1).length=(Zae T).length+1:=by
 have:=(Zhu H r hr).all.length_eq
 rw [this,Zbm ((Zsi H).1 h)]
 rfl
theorem Zw7 (T:Tab):T.st.length<=(Zae T).length:=by unfold Zae;rw [List.length_append];omega
theorem Zvy {T:Tab} {r:Rt} (H:Inv T) (hr:r.k.good) (h:Zc9 T r=none):Inv (fresh T r).1/\(fresh T r).1.B.length=T.B.length/\(fresh T r).1.st.length=T.st.length/\∀q,(fresh T r).2=some q->q.k.good/\q.k∉Zad (Zae (fresh T r).1):=by
 have:=Zsm H r hr
 rw [Zrl h] at this
 exact ⟨this.inv,this.like.n,this.st,fun q hq=>⟨(this.left q hq).1,(this.left q hq).2.1⟩⟩
theorem Zro {T:Tab} {k:Ky} (h:k∉Zad (Zae T)):Zaw T.st k=none:=by
 cases e:Zaw T.st k with
 | none=>rfl
 | some i=>
  have:=Zfk (by rw [e];rfl:(Zaw T.st k).isSome=true)
  exact absurd (by unfold Zae Zad at *;rw [List.map_append];exact List.mem_append_right _ this) h
theorem Zen (d:Nat) {T:Tab} {r:Rt} (h:grows (stay T r)=false):putF d T r=(stay T r).1:=by
 cases d with
 | zero=>rfl
 | succ d=>unfold putF;rw [h];rfl
theorem Zxv (d:Nat) {T:Tab} {r:Rt} (h:grows (stay T r)=true):putF (d+1) T r=(Zae (stay T r).1).foldl (putF d) (grown (stay T r).1):=by
 show (if grows (stay T r)=true then _ else _)=_
 rw [if_pos h]
theorem Zrp {l:List Rt} {k:Ky} {i:Nat} (h:Zaw l k=some i):∃hi:i<l.length,(l.find? fun r=>decide (r.k=k))=some l[i]/\l[i].k=k:=by
 unfold Zaw at h
 rw [List.findIdx?_eq_some_iff_getElem] at h
 obtain ⟨hi,h1,h2⟩:=h
 refine ⟨hi,?_,of_decide_eq_true h1⟩
 rw [List.find?_eq_some_iff_getElem]
 exact ⟨h1,i,hi,rfl,fun j hj=>by have:=h2 j hj;simpa using this⟩
theorem Zsz {L:List Rt} {k:Ky} {q:Rt}:q∈outS L k↔q∈L/\q.k≠k:=by unfold outS;rw [List.mem_filter];simp
theorem Zya {L:List Rt} (hn:(Zad L).Nodup) {a b:Rt} (ha:a∈L) (hb:b∈L) (h:a.k=b.k):a=b:=by
 have:=(Zc4 hn hb).mem_iff.1 ha
 rcases List.mem_cons.1 this with e | e
 ·exact e
 ·exact absurd h (Zsz.1 e).2
theorem get_mem {T:Tab} (H:Inv T) {r:Rt} (h:r∈Zae T):getT T r.k=some r.v:=by
 have hit:∀b,b<T.B.length->∀v,getC (T.bk b) r.k=some v->v=r.v:=by
  intro b hb v e
  obtain ⟨i,hi,-,q,hq,hqk,hg⟩:=Ze0 (by rw [e];rfl:(getC (T.bk b) r.k).isSome=true)
  rw [e] at hg
  injection hg with hg
  rw [hg,Zya H.keys (Zir hb (hq▸List.getElem_mem hi)) h hqk]
 unfold getT
 cases h1:getC (T.bk (T.x1 r.k)) r.k with
 | some v=>exact congrArg some (hit _ (H.x1_lt _) v h1)
 | none=>
  cases h2:getC (T.bk (T.x2 r.k)) r.k with
  | some v=>exact congrArg some (hit _ (H.x2_lt _) v h2)
  | none=>
   cases h3:Zaw T.st r.k with
   | none=>exact absurd (Zcd h) (Z0t H (by rw [h1];rfl) (by rw [h2];rfl) (by rw [h3];rfl))
   | some i=>
    obtain ⟨hi,e,hk⟩:=Zrp h3
    show (List.find? _ _).map _=_
    rw [e,Zya H.keys (show T.st[i]∈Zae T from List.mem_append_right _ (List.getElem_mem hi)) h hk]
    rfl
structure Hold (T:Tab) (n:Nat) (K:Nat->Ky) (V:Nat->Int):Prop where
 inv:Inv T
 len:(Zae T).length=n
 mem:∀j,j<n->(⟨K j,V j⟩:Rt)∈Zae T
 all:∀r∈Zae T,∃j,j<n/\r.k=K j
theorem Hold.empty {s n:Nat} (hs:W64 s) (h1:1<=n) (h2:n<=65536) (K:Nat->Ky) (V:Nat->Int):Hold (Zbq s n) 0 K V:=
 ⟨Zkc hs h1 h2,by rw [Zb8];rfl,fun j hj=>absurd hj (by omega),fun r hr=>by rw [Zb8] at hr;cases hr⟩
theorem Hold.get {T:Tab} {n:Nat} {K:Nat->Ky} {V:Nat->Int} (H:Hold T n K V) {j:Nat} (hj:j<n):getT T (K j)=some (V j):=by
 have h:=get_mem H.inv (H.mem j hj)
 exact h
theorem Z2r {L:List Rt} {k:Ky} (h:(Zad L).Nodup):(Zad (outS L k)).Nodup:=by
 unfold Zad outS at *
 exact h.sublist (List.filter_sublist.map _)
theorem Zsd {l:List Rt} {k:Ky}:(outS l k).length<l.length↔k∈Zad l:=by
 constructor
 ·intro h
  exact Classical.byContradiction fun hn=>by rw [Zbm hn] at h;omega
 ·intro h
  unfold Zad at h
  rw [List.mem_map] at h
  obtain ⟨r,hr,e⟩:=h
  unfold outS
  rw [List.length_filter_lt_length_iff_exists]
  exact ⟨r,hr,by simp [e]⟩
theorem Zlp {T:Tab} (H:Inv T) {b:Nat} (hb:b<T.B.length) {k:Ky} {j:Nat} (hj:j<(T.bk b).length) {q:Rt} (hq:(T.bk b)[j]=some q) (hk:q.k=k) :
 Inv (T.set b ((T.bk b).set j none))/\(Zae (T.set b ((T.bk b).set j none))).Perm (outS (Zae T) k)/\k∈Zad (Zae T):=by
 have h:=Z0g H hb hj hq
 rw [hk] at h
 exact ⟨H.place hb hj (fun r e=>by cases e) h.1,h.2,hk▸Zcd (Zir hb (hq▸List.getElem_mem hj))⟩
theorem Zrs {T:Tab} (H:Inv T) (k:Ky):Inv (delT T k).1/\(Zae (delT T k).1).Perm (outS (Zae T) k)/\((delT T k).2=true↔k∈Zad (Zae T)):=by
 unfold delT
 rcases Zjl (T.bk (T.x1 k)) k with ⟨e1,n1⟩ | ⟨j,hj,q,e1,hq,hk⟩
 ·rw [e1]
  rcases Zjl (T.bk (T.x2 k)) k with ⟨e2,n2⟩ | ⟨j,hj,q,e2,hq,hk⟩
  ·rw [e2]
   have hno:k∉Zad (T.B.flatMap allC):=by
    intro hm
    unfold Zad at hm
    rw [List.mem_map] at hm
    obtain ⟨r,hr,rfl⟩:=hm
    rw [List.mem_flatMap] at hr
    obtain ⟨C,hC,hr⟩:=hr
    obtain ⟨i,hi,rfl⟩:=List.getElem_of_mem hC
    unfold allC at hr
    rw [List.mem_filterMap] at hr
    obtain ⟨x,hx,e⟩:=hr
    simp only [id] at e
    subst e
    rw [<-Zrw T i hi] at hx
    rcases H.home i hi r hx with e | e
    ·subst e;exact Zi8 n1 r hx rfl
    ·subst e;exact Zi8 n2 r hx rfl
   have hc:Zae { T with st:=outS T.st k }=outS (Zae T) k:=by
    show T.B.flatMap allC++outS T.st k=outS (T.B.flatMap allC++T.st) k
    have:=Zbm hno
    unfold outS at *
    rw [List.filter_append,this]
   refine ⟨⟨H.lo,H.hi,H.four,H.word,fun r hr => ?_,H.home,?_,Zav k H.sort⟩,by rw [hc],?_⟩
   ·rw [hc] at hr
    exact H.good r (Zsz.1 hr).1
   ·rw [hc]
    exact Z2r H.keys
   ·rw [decide_eq_true_iff,Zsd]
    unfold Zae Zad at *
    rw [List.map_append,List.mem_append]
    exact ⟨.inr,fun h=>h.resolve_left hno⟩
  ·rw [e2]
   have h:=Zlp H (H.x2_lt k) hj hq hk
   exact ⟨h.1,h.2.1,fun _=>h.2.2,fun _=>rfl⟩
 ·rw [e1]
  have h:=Zlp H (H.x1_lt k) hj hq hk
  exact ⟨h.1,h.2.1,fun _=>h.2.2,fun _=>rfl⟩
structure Kept (T:Tab) (N:List Rt):Prop where
 inv:Inv T
 sort:Sorted N
 all:(Zae T).Perm N
theorem Kept.empty {s n:Nat} (hs:W64 s) (h1:1<=n) (h2:n<=65536):Kept (Zbq s n) []:=⟨Zkc hs h1 h2,List.Pairwise.nil,by rw [Zb8]⟩
theorem Kept.len {T:Tab} {N:List Rt} (H:Kept T N):(Zae T).length=N.length:=H.all.length_eq
theorem Kept.put {T:Tab} {N:List Rt} (H:Kept T N) (d:Nat) (r:Rt) (hr:r.k.good):Kept (putF d T r) (Zao N r):=by
 have h:=Zqr d T r H.inv hr
 exact ⟨h.inv,Zaq r H.sort,(h.all.trans ((Zg1 H.all r.k).cons r)).trans (Za7 r H.sort).symm⟩
theorem Kept.del {T:Tab} {N:List Rt} (H:Kept T N) (k:Ky):Kept (delT T k).1 (outS N k):=by
 have h:=Zrs H.inv k
 exact ⟨h.1,Zav k H.sort,h.2.1.trans (Zg1 H.all k)⟩
theorem Kept.del_tells {T:Tab} {N:List Rt} (H:Kept T N) (k:Ky):((delT T k).2=true↔k∈Zad N):=by
 rw [(Zrs H.inv k).2.2]
 exact (Za6 H.all).mem_iff
theorem Kept.get {T:Tab} {N:List Rt} (H:Kept T N) {r:Rt} (hr:r∈N):getT T r.k=some r.v:=get_mem H.inv (H.all.mem_iff.2 hr)
theorem Kept.sorted {T:Tab} {N M:List Rt} (H:Kept T N) (hM:Sorted M) (hp:M.Perm (Zae T)):M=N:=Zgv hM H.sort (hp.trans H.all)
def Zh2 (h l:Nat) (n:Nat):List Bool:=(List.range n).map fun i=>bitN h l i
theorem Zbu (h l n:Nat):(Zh2 h l n).length=n:=by simp [Zh2]
theorem Zh1 {h l n i:Nat} (hi:i<n):(Zh2 h l n)[i]'(by rw [Zbu];exact hi)=bitN h l i:=by simp [Zh2]
theorem Zmh {h l h' l' n:Nat} (a:W64 h) (b:W64 l) (c:W64 h') (d:W64 l') (hn:n<=128):Zh2 h l n=Zh2 h' l' n↔cutW h n=cutW h' n/\cutW l (n-64)=cutW l' (n-64):=by
 constructor
 ·intro e
  have hb:∀i,i<n->bitN h l i=bitN h' l' i:=fun i hi=>by
   have:=congrArg (fun L=>L[i]?) e
   simp only [List.getElem?_eq_getElem (show i<(Zh2 h l n).length by rw [Zbu];exact hi),List.getElem?_eq_getElem (show i<(Zh2 h' l' n).length by rw [Zbu];exact hi),Zh1 hi] at this
   exact Option.some.inj this
  refine Z4a _ _ _ _ (a.cut _) (b.cut _) (c.cut _) (d.cut _) fun i _ => ?_
  rw [Zt4,Zt4]
  by_cases h:i<n
  ·rw [hb i h]
  ·simp [h]
 ·rintro ⟨e1,e2⟩
  refine List.ext_getElem (by rw [Zbu,Zbu]) fun i h1 h2 => ?_
  rw [Zbu] at h1
  rw [Zh1 h1,Zh1 h1]
  unfold bitN
  by_cases hi:i<64
  ·rw [if_pos hi,if_pos hi]
   have:=congrArg (fun w=>w.testBit (63-i)) e1
   simp only [Zcn,show 64-n<=63-i by omega,decide_true,Bool.true_and] at this
   exact this
  ·rw [if_neg hi,if_neg hi,if_pos (by omega),if_pos (by omega)]
   have:=congrArg (fun w=>w.testBit (127-i)) e2
   simp only [Zcn,show 64-(n-64)<=127-i by omega,decide_true,Bool.true_and] at this
   exact this
def Zu7 (k:Ky):List Bool:=Zh2 k.h k.l k.n.toNat
def Zk4 (k:Ky):Prop:=Zan k.h k.l k.n=true
theorem Zpn {ah al m:Nat} (a:W64 ah) (b:W64 al):(cutK ah al m).good:=⟨W64.cut _ a,W64.cut _ b⟩
theorem Zoh {k k':Ky} (g:k.good) (g':k'.good) (r:Zk4 k) (r':Zk4 k') (h:Zu7 k=Zu7 k'):k=k':=by
 have h1:=(Zds _ _ _).1 r
 have h2:=(Zds _ _ _).1 r'
 have hl:=congrArg List.length h
 unfold Zu7 at hl h
 rw [Zbu,Zbu] at hl
 have hn:k.n=k'.n:=by omega
 rw [<-hl] at h
 have hc:=(Zmh g.1 g.2 g'.1 g'.2 (by omega)).1 h
 obtain ⟨kh,kl,kn⟩:=k
 obtain ⟨kh',kl',kn'⟩:=k'
 simp only at *
 subst hn
 rw [h1.2.2.1,h2.2.2.1,h1.2.2.2,h2.2.2.2] at hc
 rw [hc.1,hc.2]
inductive Tr where
 | nil
 | node (v:Option Int) (l r:Tr)
def Tr.get:Tr->List Bool->Option Int
 | .nil,_=>none
 | .node v _ _,[]=>v
 | .node _ l r,b::p=>if b then r.get p else l.get p
def Tr.put:Tr->List Bool->Int->Tr
 | .nil,[],x => .node (some x) .nil .nil
 | .nil,b::p,x=>if b then .node none .nil (Tr.put .nil p x) else .node none (Tr.put .nil p x) .nil
 | .node _ l r,[],x => .node (some x) l r
 | .node v l r,b::p,x=>if b then .node v l (r.put p x) else .node v (l.put p x) r
def Tr.del:Tr->List Bool->Tr
 | .nil,_ => .nil
 | .node _ l r,[] => .node none l r
 | .node v l r,b::p=>if b then .node v l (r.del p) else .node v (l.del p) r
theorem Tr.get_nil (p:List Bool):Tr.nil.get p=none:=by cases p<;>rfl
theorem Tr.get_put:∀(t:Tr) (p q:List Bool) (x:Int),(t.put p x).get q=if q=p then some x else t.get q
 | .nil,[],[],x=>rfl
 | .nil,[],c::q,x=>by
  rw [if_neg (by simp)]
  cases c<;>exact Tr.get_nil q
 | .nil,b::p,[],x=>by
  rw [if_neg (by simp)]
  unfold Tr.put
  cases b<;>rfl
 | .nil,b::p,c::q,x=>by
  have ih:=Tr.get_put .nil p q x
  rw [Tr.get_nil] at ih
  unfold Tr.put
  cases b<;>cases c<;>simp [Tr.get,Tr.get_nil,ih]
 | .node v l r,[],[],x=>rfl
 | .node v l r,[],c::q,x=>by
  rw [if_neg (by simp)]
  rfl
 | .node v l r,b::p,[],x=>by
  rw [if_neg (by simp)]
  unfold Tr.put
  cases b<;>rfl
 | .node v l r,b::p,c::q,x=>by
  have i1:=Tr.get_put l p q x
  have i2:=Tr.get_put r p q x
  unfold Tr.put
  cases b<;>cases c<;>simp [Tr.get,i1,i2]
theorem Tr.get_del:∀(t:Tr) (p q:List Bool),(t.del p).get q=if q=p then none else t.get q
 | .nil,p,q=>by
  unfold Tr.del
  rw [Tr.get_nil]
  split<;>rfl
 | .node v l r,[],[]=>rfl
 | .node v l r,[],c::q=>by
  rw [if_neg (by simp)]
  rfl
 | .node v l r,b::p,[]=>by
  rw [if_neg (by simp)]
  unfold Tr.del
  cases b<;>rfl
 | .node v l r,b::p,c::q=>by
  have i1:=Tr.get_del l p q
  have i2:=Tr.get_del r p q
  unfold Tr.del
  cases b<;>cases c<;>simp [Tr.get,i1,i2]
def Tr.sub:Tr->List Bool->Tr
 | t,[]=>t
 | .nil,_::_ => .nil
 | .node _ l r,b::p=>if b then r.sub p else l.sub p
theorem Tr.sub_zero (t:Tr):t.sub []=t:=by cases t<;>rfl
def Zkg (N:List Rt) (k:Ky):Option Int:=(N.find? fun r=>decide (r.k=k)).map Rt.v
theorem Zhh {N:List Rt} (hn:(Zad N).Nodup) {k:Ky} {x:Int}:Zkg N k=some x↔(⟨k,x⟩:Rt)∈N:=by
 unfold Zkg
 induction N with
 | nil=>simp
 | cons a N ih=>
  have h1:a.k∉Zad N/\(Zad N).Nodup:=by
   unfold Zad at *
   rw [List.map_cons,List.nodup_cons] at hn
   exact hn
  rw [List.find?_cons]
  by_cases e:a.k=k
  ·simp only [e,decide_true,Option.map_some,Option.some.injEq,List.mem_cons]
   constructor
   ·intro h
    left
    rw [<-h,<-e]
   ·rintro (h | h)
    ·rw [<-h]
    ·exact absurd (by rw [e];exact Zcd h) h1.1
  ·simp only [e,decide_false,List.mem_cons]
   rw [ih h1.2]
   constructor
   ·exact .inr
   ·rintro (h | h)
    ·exact absurd (by rw [<-h]) e
    ·exact h
theorem Zm6 {N:List Rt} {k:Ky}:Zkg N k=none↔k∉Zad N:=by
 unfold Zkg Zad
 rw [Option.map_eq_none_iff,List.find?_eq_none]
 simp
theorem Z3t {N:List Rt} (h:Sorted N) (r:Rt) (k:Ky):Zkg (Zao N r) k=if k=r.k then some r.v else Zkg N k:=by
 have hs:=Zaq r h
 have hp:=Za7 r h
 by_cases e:k=r.k
 ·rw [if_pos e,Zhh hs.nodup]
  refine hp.mem_iff.2 ?_
  rw [e]
  exact List.mem_cons_self
 ·rw [if_neg e]
  cases hc:Zkg N k with
  | none=>
   rw [Zm6] at hc ⊢
   intro hm
   unfold Zad at hm hc
   rw [List.mem_map] at hm
   obtain ⟨q,hq,rfl⟩:=hm
   rcases List.mem_cons.1 (hp.mem_iff.1 hq) with e2 | e2
   ·exact e (by rw [e2])
   ·exact hc (List.mem_map_of_mem (Zay.1 e2).1)
  | some x=>
   rw [Zhh hs.nodup]
   rw [Zhh h.nodup] at hc
   exact hp.mem_iff.2 (List.mem_cons_of_mem _ (Zay.2 ⟨hc,e⟩))
theorem Z6x {N:List Rt} (h:Sorted N) (k0 k:Ky):Zkg (outS N k0) k=if k=k0 then none else Zkg N k:=by
 have hs:Sorted (outS N k0):=List.Pairwise.filter _ h
 by_cases e:k=k0
 ·rw [if_pos e,Zm6]
  intro hm
  unfold Zad at hm
  rw [List.mem_map] at hm
  obtain ⟨q,hq,hk⟩:=hm
  exact (Zay.1 hq).2 (hk.trans e)
 ·rw [if_neg e]
  cases hc:Zkg N k with
  | none=>
   rw [Zm6] at hc ⊢
   intro hm
   unfold Zad at hm hc
   rw [List.mem_map] at hm
   obtain ⟨q,hq,rfl⟩:=hm
   exact hc (List.mem_map_of_mem (Zay.1 hq).1)
  | some x=>
   rw [Zhh hs.nodup]
   rw [Zhh h.nodup] at hc
   exact Zay.2 ⟨hc,e⟩
structure TrOf (t:Tr) (N:List Rt):Prop where
 sort:Sorted N
 good:∀r∈N,r.k.good
 right:∀r∈N,Zk4 r.k
 has:∀k:Ky,k.good->Zk4 k->t.get (Zu7 k)=Zkg N k
theorem TrOf.empty:TrOf .nil []:=⟨List.Pairwise.nil,fun _ h=>(by cases h),fun _ h=>(by cases h),fun k _ _=>Tr.get_nil _⟩
theorem TrOf.put {t:Tr} {N:List Rt} (H:TrOf t N) (r:Rt) (g:r.k.good) (hr:Zk4 r.k):TrOf (t.put (Zu7 r.k) r.v) (Zao N r):=by
 refine ⟨Zaq r H.sort,fun q hq => ?_,fun q hq => ?_,fun k kg kr => ?_⟩
 ·rcases Zj6 H.sort hq with e | e
  ·rw [e];exact g
  ·exact H.good q e
 ·rcases Zj6 H.sort hq with e | e
  ·rw [e];exact hr
  ·exact H.right q e
 ·rw [Tr.get_put,Z3t H.sort,H.has k kg kr]
  by_cases e:k=r.k
  ·rw [if_pos e,if_pos (by rw [e])]
  ·rw [if_neg e,if_neg (fun h=>e (Zoh kg g kr hr h))]
theorem TrOf.del {t:Tr} {N:List Rt} (H:TrOf t N) (k0:Ky) (g:k0.good) (hr:Zk4 k0):TrOf (t.del (Zu7 k0)) (outS N k0):=by
 refine ⟨List.Pairwise.filter _ H.sort,fun q hq=>H.good q (Zay.1 hq).1,fun q hq=>H.right q (Zay.1 hq).1,fun k kg kr => ?_⟩
 rw [Tr.get_del,Z6x H.sort,H.has k kg kr]
 by_cases e:k=k0
 ·rw [if_pos e,if_pos (by rw [e])]
 ·rw [if_neg e,if_neg (fun h=>e (Zoh kg g kr hr h))]
theorem Zfq {D D':Nat->Option Int} {low high low' high':Int}:∀{f:Nat},(∀m,m<f->((low<(m:Int)/\(m:Int)<=high/\(D m).isSome=true)↔(low'<(m:Int)/\(m:Int)<=high'/\(D' m).isSome=true)))->Zbi D low high f=Zbi D' low' high' f
 | 0,_=>rfl
 | f+1,h=>by
  have ih:=Zfq (f:=f) fun m hm=>h m (by omega)
  unfold Zbi
  by_cases c:low<(f:Int)/\(f:Int)<=high/\(D f).isSome=true
  ·rw [if_pos c,if_pos ((h f (by omega)).1 c)]
  ·rw [if_neg c,if_neg (fun g=>c ((h f (by omega)).2 g)),ih]
theorem Zls {D:Nat->Option Int} {low mid high:Int} {f b:Nat} (h:low<=mid) (e:Zbi D mid high f=some b):Zbi D low high f=some b:=by
 obtain ⟨h1,h2,h3⟩:=Zce.1 e
 refine Zce.2 ⟨h1,⟨by omega,h2.2⟩,fun m hm hf g=>h3 m hm hf ⟨by omega,g.2⟩⟩
theorem Zlt {D:Nat->Option Int} {low mid high high':Int} {f:Nat} (hh:∀m:Nat,m<f->((m:Int)<=high'↔(m:Int)<=high/\(m:Int)<=mid)) (e:Zbi D mid high f=none):Zbi D low high f=Zbi D low high' f:=by
 have h:=Zdy.1 e
 refine Zfq fun m hm=>⟨fun ⟨a,b,c⟩=>⟨a,?_,c⟩,fun ⟨a,b,c⟩=>⟨a,((hh m hm).1 b).1,c⟩⟩
 refine (hh m hm).2 ⟨b,?_⟩
 by_cases g:mid<(m:Int)
 ·exact absurd ⟨g,b,c⟩ (h m hm)
 ·omega
theorem Zru {ah al bh bl m m':Nat} (a:W64 ah) (b:W64 al) (c:W64 bh) (d:W64 bl) (hm:m<=128):cutK ah al m=cutK bh bl m'↔m=m'/\m<=Zbr ah al bh bl:=by
 constructor
 ·intro e
  have hn:m=m':=by
   unfold cutK at e
   injection e with _ _ e
   exact Int.ofNat.inj e
  subst hn
  refine ⟨rfl,?_⟩
  unfold cutK at e
  injection e with e1 e2 _
  have hp:=(Zmh a b c d hm).2 ⟨e1,e2⟩
  by_cases h:m<=Zbr ah al bh bl
  ·exact h
  ·have hlt:Zbr ah al bh bl<m:=by omega
   have hne:=Zpq ah al bh bl a b c d (by omega)
   have:=congrArg (fun L=>L[Zbr ah al bh bl]?) hp
   simp only [List.getElem?_eq_getElem (show Zbr ah al bh bl<(Zh2 ah al m).length by rw [Zbu];exact hlt),List.getElem?_eq_getElem (show Zbr ah al bh bl<(Zh2 bh bl m).length by rw [Zbu];exact hlt),Zh1 hlt] at this
   exact absurd (Option.some.inj this) hne
 ·rintro ⟨rfl,h⟩
  have hp:Zh2 ah al m=Zh2 bh bl m:=by
   refine List.ext_getElem (by rw [Zbu,Zbu]) fun i h1 h2 => ?_
   rw [Zbu] at h1
   rw [Zh1 h1,Zh1 h1]
   exact Zpp ah al bh bl a b c d i (by omega)
  have:=(Zmh a b c d hm).1 hp
  unfold cutK
  rw [this.1,this.2]
end
section
def atC (C:List Int) (n:Nat):Nat:=(max 0 (min (C.getD n 0) 1048576)).toNat
theorem Z8w (C:List Int) (n:Nat):atC C n<=1048576:=by unfold atC;omega
theorem Z8x (C:List Int) (n:Nat) (h:n<C.length):atC C n=(max 0 (min C[n] 1048576)).toNat:=by unfold atC;simp [h]
theorem Z38 (C:List Int) (n:Nat) (h:C.length<=n):atC C n=0:=by
 unfold atC
 rw [List.getD_eq_getElem?_getD,List.getElem?_eq_none h]
 rfl
def Zg0:Int->List Int->Bool
 | _,[]=>true
 | low,a::L=>decide (low<a)&&decide (a<=128)&&Zg0 a L
theorem Zsh:∀(L:List Int) (low:Int),Zg0 low L=true->∀a∈L,low<a/\a<=128
 | [],_,_,a,h=>by cases h
 | b::L,low,h,a,ha=>by
  simp only [Zg0,Bool.and_eq_true,decide_eq_true_eq] at h
  rcases List.mem_cons.1 ha with rfl | ha
  ·exact h.1
  ·have:=Zsh L b h.2 a ha
   omega
def near (L:List Int) (n:Nat):List Int:=L.dropWhile fun a=>decide (a<(n:Int))
theorem Zdu (a:Int) (L:List Int) (n:Nat):near (a::L) n=if a<(n:Int) then near L n else a::L:=by
 unfold near
 rw [List.dropWhile_cons]
 simp
theorem Zjw:∀(L:List Int) (m n:Nat),m<=n->near (near L m) n=near L n
 | [],_,_,_=>rfl
 | a::L,m,n,h=>by
  rw [Zdu a L m]
  by_cases h1:a<(m:Int)
  ·rw [if_pos h1,Zdu a L n,if_pos (by omega),Zjw L m n h]
  ·rw [if_neg h1]
theorem Zoq:∀(L:List Int) (n:Nat) (a:Int) (M:List Int),near L n=a::M->(n:Int)<=a/\a∈L
 | [],_,_,_,h=>by cases h
 | b::L,n,a,M,h=>by
  rw [Zdu] at h
  by_cases h1:b<(n:Int)
  ·rw [if_pos h1] at h
   have:=Zoq L n a M h
   exact ⟨this.1,List.mem_cons_of_mem _ this.2⟩
  ·rw [if_neg h1] at h
   injection h with h2 h3
   subst h2
   exact ⟨by omega,List.mem_cons_self⟩
def Zhs (M:List Int) (n x:Nat):Option Nat:=
 match M with
 | []=>none
 | a::_=>if 20<a-(n:Int) then none else some (x*2^(a-(n:Int)).toNat)
theorem Z1c {M:List Int} {n x t:Nat} (h:Zhs M n x=some t) (hx:x<=1048576):t<=1099511627776:=by
 cases M with
 | nil=>cases h
 | cons a M=>
  simp only [Zhs] at h
  by_cases h1:20<a-(n:Int)
  ·rw [if_pos h1] at h;cases h
  ·rw [if_neg h1] at h
   injection h with h
   subst h
   have:2^(a-(n:Int)).toNat<=2^20:=Nat.pow_le_pow_right (by decide) (by omega)
   exact Nat.le_trans (Nat.mul_le_mul hx this) (by decide)
def capS (n:Nat):Nat:=n*1099511627776
theorem Zpt {s n:Nat} (h:s<=capS n):s<=capS (n+1):=Nat.le_trans h (Nat.mul_le_mul_right _ (Nat.le_succ n))
theorem Z0k {s t n:Nat} (h:s<=capS n) (ht:t<=1099511627776):s+t<=capS (n+1):=by unfold capS at *;rw [Nat.succ_mul];exact Nat.add_le_add h ht
theorem Z3x {s n:Nat} (h:s<=capS n) (hn:n<=129):s<=141836999983104:=Nat.le_trans h (Nat.le_trans (Nat.mul_le_mul_right _ hn) (by decide))
def sumK (C L:List Int) (low:Int):Nat->Nat->Nat->Option Nat
 | 0,_,s=>some s
 | k+1,n,s=>if (n:Int)<=low\/atC C n=0 then sumK C L low k (n+1) s else
  match Zhs (near L n) n (atC C n) with
  | none=>none
  | some t=>sumK C L low k (n+1) (s+t)
def Zkf (C L:List Int) (low:Int):Option Nat:=if 0<=low/\Zg0 low L=true then sumK C L low 129 0 0 else none
theorem Zw2 (C L:List Int) (low:Int) (n s:Nat) (h:n<129) (hs:(n:Int)<=low\/atC C n=0):sumK C L low (129-n) n s=sumK C L low (129-(n+1)) (n+1) s:=by
 rw [show 129-n=(129-(n+1))+1 by omega,sumK,if_pos hs]
theorem Zw3 (C L:List Int) (low:Int) (n s:Nat) (h:n<129) (hs:¬((n:Int)<=low\/atC C n=0)) (ht:Zhs (near L n) n (atC C n)=none):sumK C L low (129-n) n s=none:=by
 rw [show 129-n=(129-(n+1))+1 by omega,sumK,if_neg hs,ht]
theorem Zw1 (C L:List Int) (low:Int) (n s t:Nat) (h:n<129) (hs:¬((n:Int)<=low\/atC C n=0)) (ht:Zhs (near L n) n (atC C n)=some t) :
 sumK C L low (129-n) n s=sumK C L low (129-(n+1)) (n+1) (s+t):=by
 rw [show 129-n=(129-(n+1))+1 by omega,sumK,if_neg hs,ht]
def smF (f:Nat->Nat):Nat->Nat
 | 0=>0
 | k+1=>smF f k+f k
theorem Zc6 {f g:Nat->Nat}:∀k:Nat,(∀n,n<k->f n=g n)->smF f k=smF g k
 | 0,_=>rfl
 | k+1,h=>by rw [smF,smF,Zc6 k (fun n hn=>h n (by omega)),h k (by omega)]
theorem Zma:∀k:Nat,smF (fun _=>0) k=0
 | 0=>rfl
 | k+1=>by rw [smF,Zma k]
def keyF (L:List Int) (low:Int) (n:Nat):Nat:=if (n:Int)<=low then 0 else match near L n with | []=>0 | a::_=>2^(a-(n:Int)).toNat
end
section
open Go Go.RowKit Go.Sort M
def ansV (o:Option Nat):Value := .tuple #[.int .i64 ((o.getD 0:Nat):Int),.bool o.isSome]
theorem Zuw (lo:Int) (L:List Int) (i:Nat) (hi:i<L.length):Zg0 lo (L.drop i)=(decide (lo<L[i])&&decide (L[i]<=128)&&Zg0 L[i] (L.drop (i+1))):=by
 rw [List.drop_eq_getElem_cons hi]
 rfl
theorem Z1o (q:Option Addr) (d:Nat) (L:List Int) (low:Int) (w:World) (hL:IRow w q L) (hl:L.length<=1000000) :
 Calls Tryz.prog 98 #[.slice q L.length d,.int .i64 low] w fun e w'=>e = .returned (.bool (Zg0 low L))/\Below w.heap.size w w':=by
 have HL:=hid hL
 obtain ⟨R,hR⟩:∃R,R=Zg0 low L:=⟨_,rfl⟩
 rw [<-hR]
 have HR:=hid hR
 clear hR hL
 go_enter Tryz.func98,Tryz.ntmps98
 go_wp2
 go_loopg [1,9] L.length (fun kx s1 s9 wr=>∃(i:Nat) (lo:Int),s9 = .int .i64 (i:Int)/\L.length-i<=kx/\i<=L.length/\s1 = .int .i64 lo/\Hid (Zg0 lo (L.drop i)=R)/\Below w.heap.size w wr)
 case atStart=>exact ⟨0,low,rfl,by omega,by omega,rfl,hid HR.out.symm,by go_grown⟩
 case round=>
  obtain ⟨i,lo,rfl,h1,h2,rfl,HI,hb⟩:=hrel
  by_cases hi:i<L.length
  ·obtain ⟨g,o,rfl,hg,x0⟩:=(HL.out.below hb).at hi
   have hs:=Zuw lo L i hi
   rw [HI.out] at hs
   obtain ⟨a,ha⟩:∃a,a=L[i]:=⟨_,rfl⟩
   rw [<-ha] at x0 hs
   have i1:(0:Int)<=(i:Int):=by omega
   have i2:(i:Int)<(L.length:Int):=by omega
   clear ha
   by_cases h3:a<=lo
   ·have HF:Hid (false=R):=by rw [decide_eq_false (by omega:¬lo<a)] at hs;exact hid hs.symm
    clear hs
    go_wp2
    go_ret
    exact ⟨Zai HF.out,hb⟩
   ·by_cases h4:(129:Int)<=a
    ·have HF:Hid (false=R):=by rw [decide_eq_false (by omega:¬a<=128)] at hs;simp at hs;exact hid hs.symm
     clear hs
     go_wp2
     go_ret
     exact ⟨Zai HF.out,hb⟩
    ·have HN:Hid (Zg0 a (L.drop (i+1))=R):=by rw [decide_eq_true (by omega:lo<a),decide_eq_true (by omega:a<=128)] at hs;simp at hs;exact hid hs.symm
     clear hs
     go_wp2
     go_roundg (L.length-(i+1))
     case measure=>omega
     case rel=>exact ⟨i+1,a,by go_num,by omega,by omega,rfl,HN,hb⟩
  ·go_wp2
   go_ret
   have:=HI.out
   rw [List.drop_eq_nil_of_le (by omega)] at this
   exact ⟨Zai this,hb⟩
theorem Zww (p:Option Addr) (c:Nat) (C:List Int) (n:Nat) (w:World) (hC:IRow w p C) (hl:C.length<=1000000) (hn:n<=1000000) :
 Calls Tryz.prog 99 #[.slice p C.length c,.int .i64 (n:Int)] w fun e w'=>e = .returned (.int .i64 (atC C n:Nat))/\Below w.heap.size w w':=by
 by_cases hi:n<C.length
 ·obtain ⟨g,o,rfl,hg,x0⟩:=hC.at hi
  have he:=Z8x C n hi
  obtain ⟨a,ha⟩:∃a,a=C[n]:=⟨_,rfl⟩
  rw [<-ha] at x0 he
  have i1:(0:Int)<=(n:Int):=by omega
  have i2:(n:Int)<(C.length:Int):=by omega
  have HE:=hid he
  clear ha he hC
  by_cases h1:a<=0
  ·by_cases h0:0<a
   ·omega
   ·have h2:¬(1048576:Int)<a:=by omega
    go_enter Tryz.func99,Tryz.ntmps99
    go_wp2
    go_ret
    exact ⟨Zbb (by have:=HE.out;omega),by go_grown⟩
  ·by_cases h2:(1048576:Int)<a
   ·have h0:0<a:=by omega
    go_enter Tryz.func99,Tryz.ntmps99
    go_wp2
    go_ret
    exact ⟨Zbb (by have:=HE.out;omega),by go_grown⟩
   ·have h0:0<a:=by omega
    go_enter Tryz.func99,Tryz.ntmps99
    go_wp2
    go_ret
    exact ⟨Zbb (by have:=HE.out;omega),by go_grown⟩
 ·have HE:=hid (Z38 C n (by omega))
  clear hC
  go_enter Tryz.func99,Tryz.ntmps99
  go_wp2
  go_ret
  exact ⟨Zbb (by rw [HE.out];rfl),by go_grown⟩
end
end Go.Proofs.YtgfjmgebecmbiaaGreat

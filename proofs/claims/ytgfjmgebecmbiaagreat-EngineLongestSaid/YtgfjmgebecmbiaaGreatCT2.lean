import Derived.Test.YtgfjmgebecmbiaaGreatOwn
import Derived.OrdersHeld
import Derived.Deep.RegionHeld3
import Derived.Test.YtgfjmgebecmbiaaGreatAppR
set_option linter.unusedSimpArgs false
set_option linter.unusedVariables false
namespace Go.Proofs.YtgfjmgebecmbiaaGreat
section
open Go Go.RowKit Go.Sort
section
variable {P:Program} {ops:Array Oper} {md:Region.Mode} {C:World->Prop}
def Zwo (md:Region.Mode) (ops:Array Oper) (n:Nat):Bool:=
 (List.range ops.size).all fun t=>decide (t<=n)||(List.range t).any fun j=>decide (n<=j)&&Region.waitsFor md ops t j
theorem Znh {n:Nat} {listed:Array Bool} (hs:Region.sinkB md ops n=true) (hc:Zwo md ops n=true) (inv:HeadInv md ops n listed) (hn:n<ops.size) :
 ∀(d i:Nat),n-i=d->i<n->listed.getD i true=false->∀t,n<=t->t∉Region.ready md ops listed:=by
 intro d
 induction d using Nat.strongRecOn with
 | _ d ih=>
  intro i hd hi hun t ht hr
  obtain ⟨_,ot,hot,hall⟩:=mem_ready.1 hr
  have htlt:t<ops.size:=(Array.getElem?_eq_some_iff.1 hot).1
  by_cases htn:t=n
  ·subst htn
   have h1:=List.all_eq_true.1 hs i (List.mem_range.2 hi)
   obtain ⟨j,hj,hj2⟩:=List.any_eq_true.1 h1
   simp only [Bool.and_eq_true,decide_eq_true_eq] at hj2
   obtain ⟨oj,hoj,e,he,hb,hon⟩:=Region.waitsFor_spec hj2.2
   have hjle:j<=t:=by have:=List.mem_range.1 hj;omega
   by_cases hjt:j=t
   ·subst hjt
    have:oj=ot:=Option.some.inj (hoj.symm.trans hot)
    subst this
    have h2:=hall e he hb
    rw [hon,getD_both hun] at h2
    cases h2
   ·cases hl:listed.getD j false with
    | true=>
     have h2:=inv.closed j oj hoj hl e he hb
     rw [hon,getD_both hun] at h2
     cases h2
    | false=>
     have hjs:j<listed.size:=by rw [inv.size];omega
     exact ih (t-j) (by omega) j rfl (by omega) (getD_in hjs hl) t (Nat.le_refl _) hr
  ·have h1:=List.all_eq_true.1 hc t (List.mem_range.2 htlt)
   simp only [Bool.or_eq_true,decide_eq_true_eq] at h1
   rcases h1 with h1 | h1
   ·omega
   ·obtain ⟨j,hj,hj2⟩:=List.any_eq_true.1 h1
    simp only [Bool.and_eq_true,decide_eq_true_eq] at hj2
    obtain ⟨o',ho',e,he,hb,hon⟩:=Region.waitsFor_spec hj2.2
    have:o'=ot:=Option.some.inj (ho'.symm.trans hot)
    subst this
    have h2:=hall e he hb
    have hjt:=List.mem_range.1 hj
    rw [hon,getD_both (inv.tail j hj2.1 (by omega))] at h2
    cases h2
theorem Zrg {n i:Nat} {oi:Oper} {v:Value} {L:Array Bool->Act->Prop} (hi:ops[i]? = some oi) (hsel:∀(j:Nat) (o:Oper) cs b,ops[j]? = some o->o.op ≠ .select cs b)
 (hs:Region.sinkB md ops n=true) (hc:Zwo md ops n=true) (hn:n<ops.size) (hin:i<n)
 (hdone:∀listed a,L listed a->∀j∈Region.ready md ops listed,n<=j) :
 ∀(f:Nat) (listed:Array Bool) (a:Act),HeadInv md ops n listed ->
  (∀j oj,ops[j]? = some oj->j≠i->listed.getD j true=false->(∀e∈oj.after,Region.binds md e=true->e.on≠i)->oi.apart ops oj=true) ->
  i∈Region.ready md ops listed->YieldsIn P ops C oi v a ->
  Zey P md ops C n L f (listed.setIfInBounds i true) (a.put oi.dst v)->Zey P md ops C n L (f+1) listed a:=by
 intro f
 induction f with
 | zero=>
  intro listed a inv _ hr hy H
  refine ⟨fun h=>(by rw [h] at hr;cases hr),fun j hj => ?_⟩
  have hjn:j<n:=Nat.lt_of_not_le fun h=>Znh hs hc inv hn _ i rfl hin (mem_ready.1 hr).1 j h hj
  refine ⟨hjn,?_⟩
  by_cases hji:j=i
  ·subst hji;exact hy.qOp hi H
  ·have:=hdone _ _ H j (ready_mono hj hji)
   omega
 | succ f ih=>
  intro listed a inv hfree hr hy H
  have hun:=(mem_ready.1 hr).1
  refine ⟨fun h=>(by rw [h] at hr;cases hr),fun j hj => ?_⟩
  have hjn:j<n:=Nat.lt_of_not_le fun h=>Znh hs hc inv hn _ i rfl hin hun j h hj
  refine ⟨hjn,?_⟩
  by_cases hji:j=i
  ·subst hji;exact hy.qOp hi H
  ·have h1:=(H.2 j (ready_mono hj hji)).2
   obtain ⟨hjun,oj,hoj,hall⟩:=mem_ready.1 hj
   have hnot:∀e∈oj.after,Region.binds md e=true->e.on≠i:=fun e he hb heq=>by
    have h3:=hall e he hb
    rw [heq,getD_both hun] at h3
    cases h3
   have h2:=qOp_put hoj (hfree j oj hoj hji hjun hnot) (fun cs b=>hsel i oi cs b hi) (fun cs b=>hsel j oj cs b hoj) hy h1
   have hfree':∀k ok,ops[k]? = some ok->k≠i->(listed.setIfInBounds j true).getD k true=false ->
    (∀e∈ok.after,Region.binds md e=true->e.on≠i)->oi.apart ops ok=true:=fun k ok hk hki hun2 hno=>by
    refine hfree k ok hk hki ?_ hno
    by_cases hjk:j=k
    ·subst hjk;exact hjun
    ·rw [getD_set_ne true hjk] at hun2;exact hun2
   refine qOp_mono (fun a' h3=>ih (listed.setIfInBounds j true) a' (inv.set hj hjn) hfree' (ready_mono hr (Ne.symm hji)) h3.1 ?_) h2
   rw [Array.setIfInBounds_comm _ _ hji]
   exact h3.2
def Zvp (md:Region.Mode) (ops:Array Oper) (F:Array Bool->Bool):Nat->Nat->Array Bool->Bool
 | 0,_,listed=>F listed
 | f+1,k,listed=>(Region.ready md ops listed).contains k&&Region.free md ops listed k&&Zvp md ops F f (k+1) (listed.setIfInBounds k true)
theorem Zh7 {n:Nat} {F:Array Bool->Bool} {Lq:Act->Prop} (hF:∀listed,F listed=true->∀j∈Region.ready md ops listed,n<=j) (hsel:Region.noSelect ops=true) (hs:Region.sinkB md ops n=true) (hc:Zwo md ops n=true) (hn:n<ops.size) :
 ∀(l:List Oper) (k:Nat) (listed:Array Bool) (a:Act),(∀j,j<l.length->l[j]? = ops[k+j]?)->k+l.length=n->HeadInv md ops n listed ->
 Zvp md ops F l.length k listed=true->wpQuiet P ops C Lq l a ->
 Zey P md ops C n (fun listed' a'=>(F listed'=true/\HeadInv md ops n listed')/\Lq a') l.length listed a
 | [],k,listed,a,_,hk,inv,hB,h=>⟨⟨by simpa [Zvp] using hB,inv⟩,h⟩
 | o::l,k,listed,a,hl,hk,inv,hB,h=>by
  have h0:ops[k]? = some o:=by simpa using (hl 0 (by simp)).symm
  simp only [List.length_cons,Zvp,Bool.and_eq_true] at hB
  obtain ⟨⟨hr,hf⟩,hB'⟩:=hB
  have hkn:k<n:=by simp only [List.length_cons] at hk;omega
  have hr':k∈Region.ready md ops listed:=by simpa using hr
  have hst:qOp P ops C k (wpQuiet P ops C Lq l) a:=by unfold qOp;simp only [h0];exact h
  obtain ⟨v,hy,hK⟩:=yieldsIn_of_qOp h0 hst
  exact Zrg h0 (Region.noSelect_spec hsel) hs hc hn hkn (fun listed' a' hL=>hF _ hL.1.1) l.length listed a inv (Region.free_spec h0 hf) hr' hy
   (Zh7 hF hsel hs hc hn l (k+1) _ _ (fun j hj=>by have:=hl (j+1) (by simp;omega);simpa [Nat.add_assoc,Nat.add_comm 1 j] using this) (by simp only [List.length_cons] at hk;omega) (inv.set hr' hkn) hB' hK)
def Rg (w:World) (w':World):Prop:=∃p:Regrown,w'=grow (redrawn w p.d) p.os
theorem Rg.self (w:World):Rg w w:=⟨⟨w.drawn,#[]⟩,by rw [grow_empty];rfl⟩
def phB (ops:Array Oper) (nT:Nat):List Nat->Nat->Array Bool->Bool
 | [],k,listed=>decide (k<=nT)&&decide (nT<ops.size)&&Region.sinkB .any ops nT&&Zwo .any ops nT&&Zvp .any ops (Region.seqB .any ops (ops.size-nT) nT) (nT-k) k listed
 | n::ns,k,listed=>decide (k<=n)&&decide (n<ops.size)&&Region.sinkB .any ops n&&Zwo .any ops n&&Zvp .any ops (fun l1=>decide (Region.ready .any ops l1=[n])&&phB ops nT ns (n+1) (l1.setIfInBounds n true)) (n-k) k listed
def phQ (P:Program) (ops:Array Oper) (Q:Exit->Act->World->Prop) (nT:Nat):List Nat->Nat->List Oper->Act->World->Prop
 | [],k,l,a,w=>wpQuiet P ops (fun w'=>∃p:Regrown,w'=grow (redrawn w p.d) p.os) (fun a'=>∀w',Below w.heap.size w w'->wpList P ops Q (l.drop (nT-k)) a' w') (l.take (nT-k)) a
 | n::ns,k,l,a,w=>wpQuiet P ops (fun w'=>∃p:Regrown,w'=grow (redrawn w p.d) p.os) (fun a'=>∀w',Below w.heap.size w w'->∀(K:Act->World->Prop),(∀a2 w2,phQ P ops Q nT ns (n+1) (l.drop (n-k+1)) a2 w2->K a2 w2) ->
  ∀o,l[n-k]? = some o->if Region.wanted o (yielded ops a'.tmps)=true then o.wp P a' w' K Q else K (a'.put o.dst undef) w') (l.take (n-k)) a
theorem Z2u {n:Nat} {listed:Array Bool} (inv:HeadInv md ops n listed) (hi:n∈Region.ready md ops listed):HeadInv md ops (n+1) (listed.setIfInBounds n true):=by
 obtain ⟨_,oi,hoi,hall⟩:=mem_ready.1 hi
 refine ⟨by simp [inv.size],fun j oj hj hl e he hb => ?_,fun t ht ht'=>by rw [getD_set_ne true (by omega)];exact inv.tail t (by omega) ht'⟩
 by_cases hij:n=j
 ·subst hij
  have:oj=oi:=Option.some.inj (hj.symm.trans hoi)
  subst this
  exact getD_set_true (hall e he hb)
 ·rw [getD_set_ne false hij] at hl
  exact getD_set_true (inv.closed j oj hj hl e he hb)
theorem Z4u {k n:Nat} {listed:Array Bool} (inv:HeadInv md ops k listed) (h:k<=n):HeadInv md ops n listed:=⟨inv.size,inv.closed,fun t ht ht'=>inv.tail t (by omega) ht'⟩
theorem Z4l {Q:Exit->Act->World->Prop} {nT:Nat} (hsel:Region.noSelect ops=true):∀(ns:List Nat) (k:Nat) (l:List Oper) (listed:Array Bool) (a:Act) (w wc:World),(∀j,l[j]? = ops[k+j]?)->HeadInv .any ops k listed ->
 phB ops nT ns k listed=true->Rg w wc->phQ P ops Q nT ns k l a w->wpAny P .any ops Q (ops.size-k) listed a wc
 | [],k,l,listed,a,w,wc,hl,inv,hB,hC,h=>by
  simp only [phB,Bool.and_eq_true,decide_eq_true_eq] at hB
  obtain ⟨⟨⟨⟨hk,hn⟩,hs⟩,hw⟩,hlex⟩:=hB
  have hll:l.length=ops.size-k:=by
   rcases Nat.lt_or_ge l.length (ops.size-k) with h1 | h1
   ·have:=hl l.length
    rw [List.getElem?_eq_none (Nat.le_refl _),Array.getElem?_eq_getElem (by omega)] at this
    cases this
   ·rcases Nat.lt_or_ge (ops.size-k) l.length with h2 | h2
    ·have:=hl (ops.size-k)
     rw [List.getElem?_eq_getElem h2,Array.getElem?_eq_none (by omega)] at this
     cases this
    ·omega
  have htl:(l.take (nT-k)).length=nT-k:=by simp;omega
  have hdl:(l.drop (nT-k)).length=ops.size-nT:=by simp;omega
  have H:=Zh7 (P:=P) (C:=Rg w) (md := .any) (F:=Region.seqB .any ops (ops.size-nT) nT) (fun listed hF=>seqB_ready hF) hsel hs hw hn (l.take (nT-k)) k listed a (fun j hj=>by
   have hj':j<nT-k:=by rw [htl] at hj;exact hj
   rw [List.getElem?_take,if_pos hj']
   exact hl j) (by rw [htl];omega) (Z4u inv hk) (by rw [htl];exact hlex) h
  have:=Zfi (Q':=Q) (g:=ops.size-nT) (fun listed a' w' hw' hL=>by
   have:=wpAny_of_seq (md := .any) (Q':=Q) (l.drop (nT-k)) nT listed a' w' (fun j=>by rw [List.getElem?_drop,hl];congr 1;omega) (by rw [hdl];exact hL.1.1) (hL.2 w' (by obtain ⟨p,rfl⟩:=hw';exact below_regrown _ _ _))
   rwa [hdl] at this) _ _ _ _ hC H
  rw [htl,show nT-k+(ops.size-nT)=ops.size-k by omega] at this
  exact this
 | n::ns,k,l,listed,a,w,wc,hl,inv,hB,hC,h=>by
  simp only [phB,Bool.and_eq_true,decide_eq_true_eq] at hB
  obtain ⟨⟨⟨⟨hk,hn⟩,hs⟩,hw⟩,hlex⟩:=hB
  have hlen:n-k<l.length:=by
   rcases Nat.lt_or_ge (n-k) l.length with h1 | h1
   ·exact h1
   ·have:=hl (n-k)
    rw [List.getElem?_eq_none h1,Array.getElem?_eq_getElem (by omega)] at this
    cases this
  have htl:(l.take (n-k)).length=n-k:=by simp;omega
  have H:=Zh7 (P:=P) (C:=Rg w) (md := .any) (F:=fun l1=>decide (Region.ready .any ops l1=[n])&&phB ops nT ns (n+1) (l1.setIfInBounds n true)) (fun listed hF j hj=>by
   simp only [Bool.and_eq_true,decide_eq_true_eq] at hF
   rw [hF.1] at hj
   simp at hj
   omega) hsel hs hw hn (l.take (n-k)) k listed a (fun j hj=>by
   have hj':j<n-k:=by rw [htl] at hj;exact hj
   rw [List.getElem?_take,if_pos hj']
   exact hl j) (by rw [htl];omega) (Z4u inv hk) (by rw [htl];exact hlex) h
  have:=Zfi (Q':=Q) (g:=ops.size-n) (fun listed a' w' hw' hL=>by
   obtain ⟨⟨hF,inv'⟩,hq⟩:=hL
   simp only [Bool.and_eq_true,decide_eq_true_eq] at hF
   have h0:l[n-k]? = some (l[n-k]'hlen):=List.getElem?_eq_getElem hlen
   have h1:ops[n]? = some (l[n-k]'hlen):=by rw [<-h0,hl];congr 1;omega
   rw [show ops.size-n=(ops.size-(n+1))+1 by omega]
   refine ⟨fun h=>(by rw [hF.1] at h;cases h),fun i hi => ?_⟩
   rw [hF.1] at hi
   have hin:i=n:=by simpa using hi
   subst hin
   have hq':=hq w' (by obtain ⟨p,rfl⟩:=hw';exact below_regrown _ _ _) (wpAny P .any ops Q (ops.size-(i+1)) (listed.setIfInBounds i true)) (fun a2 w2 h2=>
    Z4l hsel ns (i+1) (l.drop (i-k+1)) (listed.setIfInBounds i true) a2 w2 w2 (fun j=>by rw [List.getElem?_drop,hl];congr 1;omega) (Z2u inv' (by rw [hF.1];simp)) hF.2 (Rg.self w2) h2) _ h0
   unfold wpOp
   simp only [h1]
   split
   ·rename_i hw1
    rw [if_pos hw1] at hq'
    exact .inl hq'
   ·rename_i hw1
    rw [if_neg hw1] at hq'
    exact hq') _ _ _ _ hC H
  rw [htl,show n-k+(ops.size-n)=ops.size-k by omega] at this
  exact this
theorem Zbc {id:Nat} {Q:Exit->Act->World->Prop} {a:Act} {w:World} {l:List Oper} (ns:List Nat) (nT:Nat) (hm:P.follows .mixedOrders=true) (hsel:Region.noSelect l.toArray=true) (hB:phB l.toArray nT ns 0 (Array.replicate l.toArray.size false)=true)
 (h:phQ P l.toArray Q nT ns 0 l a w):(Code.region id l.toArray true).wp P Q a w:=by
 refine wp_region_any hm ?_
 have inv0:HeadInv .any l.toArray 0 (Array.replicate l.toArray.size false):=
  ⟨by simp,fun j oj _ hl=>(by rw [getD_replicate_false] at hl;cases hl),fun t _ ht=>getD_in (by simpa using ht) (getD_replicate_false _ _)⟩
 have:=Z4l (P:=P) (Q:=Q) hsel ns 0 l _ a w _ (fun j=>by simp) inv0 hB (⟨⟨w.drawn+1,#[]⟩,by rw [grow_empty];rfl⟩:Rg w { w with drawn:=w.drawn+1 }) h
 simpa using this
end
section
variable {P:Program} {ops:Array Oper} {md:Region.Mode} {C:World->Prop} {Q:Exit->Act->World->Prop} {S:World->Prop} {pre:Nat->Bool}
def Zsb (o:Oper):Bool:=
 match o.op with
 | .move _ | .assign _ | .load _ _ | .fieldAddr _ _ _ | .indexAddr _ _ _ | .extract _ _ | .binOp _ _ _ _ _ | .unOp _ _ _ | .convert _ _ _ | .slice _ _ _ _ _=>true
 | .nilCheck _=>true
 | .call ⟨.builtin .len,_,_⟩ | .call ⟨.builtin .cap,_,_⟩ | .call ⟨.builtin .min,_,_⟩ | .call ⟨.builtin .max,_,_⟩=>true
 | _=>false
theorem Zhp (s:Sem Value) (w:World):∀(n:Next) (w':World),(Sem.run P (do pure (Next.value (<-s))) w) = .ok n w'->∃v,n = .value v:=by
 intro n w' h
 simp only [Sem.run_bind] at h
 generalize Sem.run P s w=r at h
 cases r with
 | ok v w1=>
  simp only [Result.andThen,Sem.run_pure] at h
  injection h with h1 h2
  exact ⟨v,h1.symm⟩
 | halt x w1=>simp [Result.andThen] at h
theorem Zjn {o:Oper} (hs:Zsb o=true) {a:Act} {w:World} {v:Value} (h:Oper.quietUpon P C w v ((execOp a.eval o).run P w)):(execOp a.eval o).run P w = .ok (.value v) w:=by
 have key:∀n w',(execOp a.eval o).run P w = .ok n w'->∃u,n = .value u:=by
  intro n w' hr
  unfold execOp at hr
  unfold Zsb at hs
  split at hs
  all_goals first
   | (rename_i he;simp only [he] at hr;first|exact Zhp _ w n w' hr|(simp only [Sem.run_pure] at hr;injection hr with h1 h2;exact ⟨_,h1.symm⟩))
   | skip
  ·rename_i x he
   simp only [he] at hr
   generalize a.eval x=p at hr
   split at hr
   all_goals first
    | (simp [runtimePanic,Sem.run,Result.andThen] at hr;done)
    | (simp only [Sem.run_pure] at hr;injection hr with h1 h2;exact ⟨_,h1.symm⟩)
    | skip
   ·split at hr
    ·simp [runtimePanic,Sem.run,Result.andThen] at hr
    ·rename_i t w1 _
     simp only [Sem.run_bind] at hr
     generalize Sem.run P program w=r1 at hr
     cases r1 with
     | halt x w2=>simp [Result.andThen] at hr
     | ok p2 w2=>
      simp only [Result.andThen] at hr
      generalize Sem.run P (nilAhead _ _ _ _) w2=r2 at hr
      cases r2 with
      | halt x w3=>simp at hr
      | ok b w3=>
       simp only at hr
       split at hr
       ·simp [unsupported,Sem.run,Result.andThen] at hr
       ·simp only [Sem.run_pure] at hr
        injection hr with h1 h2
        exact ⟨_,h1.symm⟩
    ·simp only [Sem.run_pure] at hr
     injection hr with h1 h2
     exact ⟨_,h1.symm⟩
  all_goals first
   | (cases hs;done)
   | (rename_i he
      simp only [he,resolve,invoke,builtin,Sem.run_bind,Sem.run_pure,Result.andThen_ok] at hr
      refine Zhp (P:=P) _ w n w' ?_
      simp only [Sem.run_bind,Sem.run_pure]
      exact hr)
 generalize (execOp a.eval o).run P w=r at h key
 cases r with
 | ok n w'=>
  obtain ⟨u,rfl⟩:=key n w' rfl
  obtain ⟨rfl,rfl⟩:=h
  rfl
 | halt x w'=>exact h.elim
def anyP (P:Program) (md:Region.Mode) (ops:Array Oper) (Q:Exit->Act->World->Prop) (S:World->Prop) (pre:Nat->Bool):Nat->Array Bool->Act->World->Prop
 | 0,listed,a,w=>Region.ready md ops listed=[]/\Q .normal a w
 | f+1,listed,a,w=>(Region.ready md ops listed=[]->Q .normal a w) /\
  ∀i∈Region.ready md ops listed,wpOp P ops Q i (fun a' w'=>(pre i=true->S w->S w')/\anyP P md ops Q S pre f (listed.setIfInBounds i true) a' w') a w
theorem Zbs:∀(f:Nat) (listed:Array Bool) (a:Act) (w:World),anyP P md ops Q S pre f listed a w->wpAny P md ops Q f listed a w
 | 0,_,_,_,h=>h
 | f+1,_,_,_,h=>⟨h.1,fun i hi=>wpOp_mono (fun a' w' h'=>Zbs f _ a' w' h'.2) (h.2 i hi)⟩
theorem Zj5 {i:Nat} {listed:Array Bool} (inv:HeadInv md ops ops.size listed) (hi:i∈Region.ready md ops listed):HeadInv md ops ops.size (listed.setIfInBounds i true):=by
 obtain ⟨_,oi,hoi,_⟩:=mem_ready.1 hi
 exact inv.set hi (Array.getElem?_eq_some_iff.1 hoi).1
theorem Zlv {i:Nat} {oi:Oper} {v:Value} {T:World->Prop} (hi:ops[i]? = some oi) (hsel:∀(j:Nat) (o:Oper) cs b,ops[j]? = some o->o.op ≠ .select cs b) (hQ:∀c a w,Q (.panic c) a w->False) (hST:∀w,S w->T w)
 (hT:∀j listed,HeadInv md ops ops.size listed->listed.getD i true=false->j∈Region.ready md ops listed->j≠i->pre j=true\/∀w,T w) :
 ∀(f:Nat) (listed:Array Bool) (a:Act) (w:World),HeadInv md ops ops.size listed ->
  (∀j oj,ops[j]? = some oj->j≠i->listed.getD j true=false->(∀e∈oj.after,Region.binds md e=true->e.on≠i)->oi.apart ops oj=true) ->
  i∈Region.ready md ops listed->YieldsIf P ops T oi v a->(S w\/∀w,T w)->anyP P md ops Q S pre f (listed.setIfInBounds i true) (a.put oi.dst v) w->anyP P md ops Q S pre (f+1) listed a w:=by
 have tw:∀{w},(S w\/∀w,T w)->T w:=fun h=>h.elim (hST _) (fun h=>h _)
 intro f
 induction f with
 | zero=>
  intro listed a w _ _ hr hy hS H
  refine ⟨fun h=>(by rw [h] at hr;cases hr),fun j hj => ?_⟩
  by_cases hji:j=i
  ·subst hji;exact hy.wpOp hi (tw hS) ⟨fun _ h=>h,H⟩
  ·have:=ready_mono hj hji
   rw [H.1] at this
   cases this
 | succ f ih=>
  intro listed a w inv hfree hr hy hS H
  have hun:=(mem_ready.1 hr).1
  refine ⟨fun h=>(by rw [h] at hr;cases hr),fun j hj => ?_⟩
  by_cases hji:j=i
  ·subst hji;exact hy.wpOp hi (tw hS) ⟨fun _ h=>h,H⟩
  ·have h1:=H.2 j (ready_mono hj hji)
   obtain ⟨hjun,oj,hoj,hall⟩:=mem_ready.1 hj
   have hnot:∀e∈oj.after,Region.binds md e=true->e.on≠i:=fun e he hb heq=>by
    have h3:=hall e he hb
    rw [heq,getD_both hun] at h3
    cases h3
   have h2:=wpOp_putIf (S:=T) hoj (hfree j oj hoj hji hjun hnot) (fun cs b=>hsel i oi cs b hi) (fun cs b=>hsel j oj cs b hoj) (fun c a w h=>(hQ c _ w h).elim) hy h1
   have hfree':∀k ok,ops[k]? = some ok->k≠i->(listed.setIfInBounds j true).getD k true=false ->
    (∀e∈ok.after,Region.binds md e=true->e.on≠i)->oi.apart ops ok=true:=fun k ok hk hki hun2 hno=>by
    refine hfree k ok hk hki ?_ hno
    by_cases hjk:j=k
    ·subst hjk;exact hjun
    ·rw [getD_set_ne true hjk] at hun2;exact hun2
   refine wpOp_mono (fun a' w' h3=>⟨h3.2.1,ih (listed.setIfInBounds j true) a' w' (Zj5 inv hj) hfree' (ready_mono hr (Ne.symm hji)) h3.1 ?_ ?_⟩) h2
   ·rcases hT j listed inv hun hj hji with h4 | h4
    ·rcases hS with h5 | h5
     ·exact .inl (h3.2.1 h4 h5)
     ·exact .inr h5
    ·exact .inr h4
   ·rw [Array.setIfInBounds_comm _ _ hji]
    exact h3.2.2
def Zr8 (md:Region.Mode) (ops:Array Oper):Nat->Nat->Nat->Bool
 | 0,j,i=>Region.waitsFor md ops j i
 | f+1,j,i=>Region.waitsFor md ops j i||(List.range ops.size).any fun k=>Region.waitsFor md ops j k&&Zr8 md ops f k i
def Zit (md:Region.Mode) (ops:Array Oper) (pre:Nat->Bool) (i:Nat):Bool:=(List.range ops.size).all fun j=>pre j||decide (j=i)||Zr8 md ops 6 j i
theorem Zqa {i:Nat} {listed:Array Bool} (inv:HeadInv md ops ops.size listed) (hun:listed.getD i true=false):∀(f j:Nat),Zr8 md ops f j i=true->(∀oj,ops[j]? = some oj->∀e∈oj.after,Region.binds md e=true->listed.getD e.on false=true)->False:=by
 have direct:∀j,Region.waitsFor md ops j i=true->(∀oj,ops[j]? = some oj->∀e∈oj.after,Region.binds md e=true->listed.getD e.on false=true)->False:=by
  intro j h1 hall
  obtain ⟨oj,hoj,e,he,hb,hon⟩:=Region.waitsFor_spec h1
  have h2:=hall oj hoj e he hb
  rw [hon,getD_both hun] at h2
  cases h2
 intro f
 induction f with
 | zero=>exact fun j h hall=>direct j h hall
 | succ f ih=>
  intro j h hall
  simp only [Zr8,Bool.or_eq_true] at h
  rcases h with h | h
  ·exact direct j h hall
  ·obtain ⟨k,_,hk⟩:=List.any_eq_true.1 h
   simp only [Bool.and_eq_true] at hk
   obtain ⟨oj,hoj,e,he,hb,hon⟩:=Region.waitsFor_spec hk.1
   have h2:=hall oj hoj e he hb
   rw [hon] at h2
   exact ih k hk.2 fun ok hok e2 he2 hb2=>inv.closed k ok hok h2 e2 he2 hb2
theorem Zle {i:Nat} (h:Zit md ops pre i=true):∀j listed,HeadInv md ops ops.size listed->listed.getD i true=false->j∈Region.ready md ops listed->j≠i->pre j=true:=by
 intro j listed inv hun hj hne
 obtain ⟨_,oj,hoj,hall⟩:=mem_ready.1 hj
 have h1:=List.all_eq_true.1 h j (List.mem_range.2 (Array.getElem?_eq_some_iff.1 hoj).1)
 simp only [Bool.or_eq_true,decide_eq_true_eq] at h1
 rcases h1 with (h1 | h1) | h1
 ·exact h1
 ·exact absurd h1 hne
 ·exact (Zqa inv hun 6 j h1 fun o ho=>by
   have:o=oj:=Option.some.inj (ho.symm.trans hoj)
   subst this
   exact hall).elim
def Zah (ops:Array Oper) (t:List Nat):List Oper:=t.filterMap fun i=>ops[i]?
def takeB (md:Region.Mode) (ops:Array Oper) (ok:Nat->Bool) (F:Array Bool->Bool):List Nat->Array Bool->Bool
 | [],listed=>F listed
 | i::t,listed=>(Region.ready md ops listed).contains i&&Region.free md ops listed i&&ok i&&((ops[i]?).map Zsb).getD false&&takeB md ops ok F t (listed.setIfInBounds i true)
theorem Zib {T:World->Prop} {F:Array Bool->Bool} {ok:Nat->Bool} {Lq:Act->Prop} {g:Nat} {w:World} (hsel:Region.noSelect ops=true) (hQ:∀c a w,Q (.panic c) a w->False) (hST:∀w,S w->T w) (hok:∀i,ok i=true->(Zit md ops pre i=true\/∀w,T w)) (hS:S w)
 (hL:∀listed a,F listed=true->HeadInv md ops ops.size listed->Lq a->anyP P md ops Q S pre g listed a w) :
 ∀(t:List Nat) (listed:Array Bool) (a:Act),takeB md ops ok F t listed=true->HeadInv md ops ops.size listed->wpQuiet P ops T Lq (Zah ops t) a->anyP P md ops Q S pre (t.length+g) listed a w
 | [],listed,a,hB,inv,h=>by rw [List.length_nil,Nat.zero_add];exact hL listed a hB inv h
 | i::t,listed,a,hB,inv,h=>by
  simp only [takeB,Bool.and_eq_true] at hB
  obtain ⟨⟨⟨⟨hr,hf⟩,ho⟩,hst⟩,hB'⟩:=hB
  have hr':i∈Region.ready md ops listed:=by simpa using hr
  obtain ⟨_,oi,hoi,_⟩:=mem_ready.1 hr'
  rw [hoi] at hst
  simp only [Option.map_some,Option.getD_some] at hst
  have hp:Zah ops (i::t)=oi::Zah ops t:=by unfold Zah;rw [List.filterMap_cons,hoi]
  rw [hp] at h
  have hq:qOp P ops T i (wpQuiet P ops T Lq (Zah ops t)) a:=by unfold qOp;simp only [hoi];exact h
  obtain ⟨v,hy,hK⟩:=yieldsIn_of_qOp hoi hq
  have hy':YieldsIf P ops T oi v a:=hy.imp (fun ⟨hw,hv⟩=>⟨hw,fun w hw2=>Zjn hst (hv w hw2)⟩) id
  rw [List.length_cons,show t.length+1+g=(t.length+g)+1 by omega]
  exact Zlv hoi (Region.noSelect_spec hsel) hQ hST (fun j l1 inv1 hun hj hne=>(hok i ho).imp (fun hl=>Zle hl j l1 inv1 hun hj hne) id) _ listed a w inv (Region.free_spec hoi hf) hr' hy' (.inl hS)
   (Zib hsel hQ hST hok hS hL t _ _ hB' (Zj5 inv hr') hK)
def Zkr (P:Program) (ops:Array Oper) (Q:Exit->Act->World->Prop) (i:Nat) (K:Act->World->Prop) (a:Act) (w:World):Prop:=
 ∀o,ops[i]? = some o->if Region.wanted o (yielded ops a.tmps)=true then o.wp P a w K Q else K (a.put o.dst undef) w
theorem Zkr.wpOp {i:Nat} {K:Act->World->Prop} {a:Act} {w:World} (h:Zkr P ops Q i K a w) (hi:(ops[i]?).isSome=true):wpOp P ops Q i K a w:=by
 obtain ⟨o,ho⟩:=Option.isSome_iff_exists.1 hi
 have h1:=h o ho
 unfold Go.wpOp
 simp only [ho]
 split
 ·rename_i hw
  rw [if_pos hw] at h1
  exact .inl h1
 ·rename_i hw
  rw [if_neg hw] at h1
  exact h1
def Zkn (md:Region.Mode) (ops:Array Oper):List Nat->Array Bool->Bool
 | [],listed=>(Region.ready md ops listed).isEmpty
 | i::t,listed=>decide (Region.ready md ops listed=[i])&&Zkn md ops t (listed.setIfInBounds i true)
theorem Zdz:∀(t:List Nat) (listed:Array Bool) (a:Act) (w:World),(∀i∈t,pre i=false)->Zkn md ops t listed=true->wpList P ops Q (Zah ops t) a w->anyP P md ops Q S pre t.length listed a w
 | [],_,_,_,_,hB,h=>⟨by simpa [Zkn] using hB,h⟩
 | i::t,listed,a,w,hp,hB,h=>by
  simp only [Zkn,Bool.and_eq_true,decide_eq_true_eq] at hB
  refine ⟨fun h1=>(by rw [hB.1] at h1;cases h1),fun j hj => ?_⟩
  have hj':=hj
  rw [hB.1] at hj
  have hji:j=i:=by simpa using hj
  subst hji
  obtain ⟨_,o,ho,_⟩:=mem_ready.1 hj'
  have hpk:Zah ops (j::t)=o::Zah ops t:=by unfold Zah;rw [List.filterMap_cons,ho]
  rw [hpk] at h
  have hw:Go.wpOp P ops Q j (wpList P ops Q (Zah ops t)) a w:=by unfold Go.wpOp;simp only [ho];exact h
  exact wpOp_mono (fun a' w' h'=>⟨fun h2=>(by rw [hp j (by simp)] at h2;cases h2),Zdz t _ a' w' (fun k hk=>hp k (by simp [hk])) hB.2 h'⟩) hw
def wayQ (P:Program) (ops:Array Oper) (Q:Exit->Act->World->Prop) (w:World) (x y:Nat) (tl:List Nat) (a:Act) (w':World):Prop:=
 ∀K:Act->World->Prop,(∀a3 w3,Below w.heap.size w w3->(∀K2:Act->World->Prop,(∀a4 w4,Below w.heap.size w w4->wpList P ops Q (Zah ops tl) a4 w4->K2 a4 w4)->Zkr P ops Q y K2 a3 w3)->K a3 w3)->Zkr P ops Q x K a w'
def Z7z (ops:Array Oper) (tA tB:List Nat) (x y:Nat) (tl:List Nat):Bool:=
 decide (x≠y)&&(ops[x]?).isSome&&(ops[y]?).isSome&&decide (ops.size=tA.length+(tB.length+(tl.length+1+1))) &&
 takeB .any ops (fun _=>true) (fun l1=>takeB .any ops (fun i=>Zit .any ops (fun j => !tl.contains j) i) (fun l2=>
  decide (Region.ready .any ops l2=[x,y])&&decide (Region.ready .any ops (l2.setIfInBounds x true)=[y])&&decide (Region.ready .any ops (l2.setIfInBounds y true)=[x])&&Zkn .any ops tl ((l2.setIfInBounds x true).setIfInBounds y true)) tB l1) tA (Array.replicate ops.size false)
theorem Zb2 {id:Nat} {a:Act} {w:World} {l:List Oper} (tA tB:List Nat) (x y:Nat) (tl:List Nat) (hm:P.follows .mixedOrders=true) (hQ:∀c a w,Q (.panic c) a w->False) (hsel:Region.noSelect l.toArray=true) (hB:Z7z l.toArray tA tB x y tl=true)
 (h:wpQuiet P l.toArray (fun _=>True) (fun a1=>wpQuiet P l.toArray (fun w'=>∃p:Regrown,w'=grow (redrawn w p.d) p.os) (fun a2=>∀w',Below w.heap.size w w'->wayQ P l.toArray Q w x y tl a2 w'/\wayQ P l.toArray Q w y x tl a2 w') (Zah l.toArray tB) a1) (Zah l.toArray tA) a) :
 (Code.region id l.toArray true).wp P Q a w:=by
 generalize l.toArray=ops at *
 simp only [Z7z,Bool.and_eq_true,decide_eq_true_eq] at hB
 obtain ⟨⟨⟨⟨hxy,hx⟩,hy⟩,hsz⟩,hB⟩:=hB
 refine wp_region_any hm ?_
 have inv0:HeadInv .any ops ops.size (Array.replicate ops.size false):=
  ⟨by simp,fun j oj _ hl=>(by rw [getD_replicate_false] at hl;cases hl),fun t h1 h2=>absurd h2 (by omega)⟩
 have hS0:Rg w { w with drawn:=w.drawn+1 }:=⟨⟨w.drawn+1,#[]⟩,by rw [grow_empty];rfl⟩
 have rgb:∀{w'},Below w.heap.size w w'->Rg w w':=fun h=>regrown_of_below h
 have pre2:∀i∈tl,(!tl.contains i)=false:=fun i hi=>by simp [hi]
 refine Zbs (S:=Rg w) (pre:=fun j => !tl.contains j) _ _ _ _ ?_
 suffices hh:anyP P .any ops Q (Rg w) (fun j => !tl.contains j) (tA.length+(tB.length+(tl.length+1+1))) (Array.replicate ops.size false) a { w with drawn:=w.drawn+1 } by
  rw [<-hsz] at hh
  exact hh
 have one:∀(u v:Nat) (listed:Array Bool) (a2:Act) (w':World),(ops[u]?).isSome=true->(ops[v]?).isSome=true->Region.ready .any ops (listed.setIfInBounds u true)=[v]->Zkn .any ops tl ((listed.setIfInBounds u true).setIfInBounds v true)=true->wayQ P ops Q w u v tl a2 w' ->
  Go.wpOp P ops Q u (fun a' w1=>((!tl.contains u)=true->Rg w w'->Rg w w1)/\anyP P .any ops Q (Rg w) (fun j => !tl.contains j) (tl.length+1) (listed.setIfInBounds u true) a' w1) a2 w':=by
  intro u v listed a2 w' hu hv hr ht hway
  refine (hway _ (fun a3 w3 hb3 hnext=>⟨fun _ _=>rgb hb3,?_⟩)).wpOp hu
  refine ⟨fun h1=>(by rw [hr] at h1;cases h1),fun j hj => ?_⟩
  rw [hr] at hj
  have hjv:j=v:=by simpa using hj
  subst hjv
  exact (hnext _ (fun a4 w4 hb4 hl4=>⟨fun _ _=>rgb hb4,Zdz tl _ a4 w4 pre2 ht hl4⟩)).wpOp hv
 refine Zib (T:=fun _=>True) hsel hQ (fun _ _=>trivial) (fun _ _ => .inr (fun _=>trivial)) hS0 (fun l1 a1 hF1 inv1 h1 => ?_) tA _ a hB inv0 h
 refine Zib (T:=fun w'=>∃p:Regrown,w'=grow (redrawn w p.d) p.os) hsel hQ (fun _ h=>h) (fun i hi => .inl hi) hS0 (fun l2 a2 hF2 inv2 h2 => ?_) tB l1 a1 hF1 inv1 h1
 simp only [Bool.and_eq_true,decide_eq_true_eq] at hF2
 obtain ⟨⟨⟨r0,r1⟩,r2⟩,ht⟩:=hF2
 have hb0:Below w.heap.size w { w with drawn:=w.drawn+1 }:=⟨rfl,rfl,rfl,Nat.le_refl _,fun _ _=>rfl⟩
 obtain ⟨wy1,wy2⟩:=h2 _ hb0
 refine ⟨fun h1=>(by rw [r0] at h1;cases h1),fun i hi => ?_⟩
 rw [r0] at hi
 simp only [List.mem_cons,List.not_mem_nil,or_false] at hi
 rcases hi with rfl | rfl
 ·exact one i y l2 a2 _ hx hy r1 ht wy1
 ·refine one i x l2 a2 _ hy hx r2 ?_ wy2
  rw [Array.setIfInBounds_comm _ _ hxy.symm]
  exact ht
end
end
section
open Go.RowKit Go.Sort M
section
variable {K:World->Nat->Nat->List Pl->Prop} {w w1:World} {t g:Nat} {v v':Value} {T:Tab} {m:Int}
theorem Tb.newStash (hK:BK K) (H:Tb K w t g v T) {st':List Rt} (hg:w.grownBy w1 v.ownBlock) (own1:w1.ownsRow 0 41 4 v' st'.length (rcs st')) (hat:v'.ownBlock=v.ownBlock\/∃k,v'.ownBlock=some k/\w.heap.size<=k) :
 Tb K (w1.setCell ⟨t,2,none⟩ v') t g v' { T with st:=st' }/\Touch (Blk t g v) w (w1.setCell ⟨t,2,none⟩ v')/\∀k,Blk t g v' k->k<w.heap.size->Blk t g v k:=by
 have ht1:w1.heap[t]? = w.heap[t]? := hg.block t H.tlt (fun e=>H.tv e.symm)
 have hg1:w1.heap[g]? = w.heap[g]? := hg.block g H.blt (fun e=>H.gv e.symm)
 have hb2:∀k,k≠t->(w1.setCell ⟨t,2,none⟩ v').heap[k]? = w1.heap[k]? := fun k hk=>Below.heap_setCell w1 ⟨t,2,none⟩ v' k (by simpa using hk)
 have hs2:(w1.setCell ⟨t,2,none⟩ v').heap.size=w1.heap.size:=World.size_setCell _ _ _
 have c0:=(World.cell?_of_block (a:=⟨t,0,none⟩) ht1).trans H.c0
 have c1:=(World.cell?_of_block (a:=⟨t,1,none⟩) ht1).trans H.c1
 have c2:=(World.cell?_of_block (a:=⟨t,2,none⟩) ht1).trans H.c2
 have ne:∀j,j≠2->(w1.setCell ⟨t,2,none⟩ v').cell? ⟨t,j,none⟩=w1.cell? ⟨t,j,none⟩:=fun j hj=>by
  rw [World.cell?_setCell_other]
  intro e
  injection e with _ e2
  exact hj e2.symm
 have hvt:v'.ownBlock≠some t:=by
  rcases hat with e | ⟨k,e,hk⟩
  ·rw [e];exact H.tv
  ·rw [e];intro e2;injection e2 with e2;have:=H.tlt;omega
 have hvg:v'.ownBlock≠some g:=by
  rcases hat with e | ⟨k,e,hk⟩
  ·rw [e];exact H.gv
  ·rw [e];intro e2;injection e2 with e2;have:=H.blt;omega
 refine ⟨⟨fun i hi=>hK.block (H.bk i hi) (by rw [hs2];exact hg.size) ((hb2 g (fun e=>H.tg e.symm)).trans hg1),by rw [hs2];exact Nat.lt_of_lt_of_le H.blt hg.size,by rw [hs2];exact Nat.lt_of_lt_of_le H.tlt hg.size,
  (ne 0 (by decide)).trans c0,(ne 1 (by decide)).trans c1,World.cell?_setCell_same _ _ _ c2,fun j=>by rw [World.frozen?_setCell,World.frozen?_of_block (a:=⟨t,j,none⟩) ht1];exact H.f j,
  Zf3 own1 (fun j e=>hb2 j (fun e2=>hvt (e2▸e))),H.tg,hvt,hvg⟩,⟨hg.os,hg.tape,hg.output,by rw [hs2];exact hg.size,fun k hk hn => ?_⟩,fun k hk hl => ?_⟩
 ·rw [hb2 k (fun e=>hn (.inl e))]
  exact hg.block k hk (fun e=>hn (.inr (.inr e.symm)))
 ·rcases hk with e | e | e
  ·exact .inl e
  ·exact .inr (.inl e)
  ·rcases hat with e2 | ⟨j,e2,hj⟩
   ·exact .inr (.inr (e2▸e))
   ·rw [e2] at e
    injection e with e
    omega
theorem CT.newStash (H:CT w t g v T m) {st':List Rt} (hg:w.grownBy w1 v.ownBlock) (own1:w1.ownsRow 0 41 4 v' st'.length (rcs st')) (hat:v'.ownBlock=v.ownBlock\/∃k,v'.ownBlock=some k/\w.heap.size<=k) :
 CT (w1.setCell ⟨t,2,none⟩ v') t g v' { T with st:=st' } m/\Touch (Blk t g v) w (w1.setCell ⟨t,2,none⟩ v')/\∀k,Blk t g v' k->k<w.heap.size->Blk t g v k:=by
 have h:=H.tb.newStash Zpv hg own1 hat
 have ht1:w1.heap[t]? = w.heap[t]? := hg.block t H.tb.tlt (fun e=>H.tb.tv e.symm)
 refine ⟨⟨h.1,?_⟩,h.2⟩
 rw [World.cell?_setCell_other]
 ·exact (World.cell?_of_block (a:=⟨t,3,none⟩) ht1).trans H.c3
 ·intro e
  injection e with _ e2
  exact absurd e2 (by decide)
theorem Tb.inStash (hK:BK K) (H:Tb K w t g v T) {st':List Rt} (hg:w.grownBy w1 v.ownBlock) (own1:w1.ownsRow 0 41 4 v st'.length (rcs st')):Tb K w1 t g v { T with st:=st' }/\Touch (Blk t g v) w w1:=by
 have ht1:w1.heap[t]? = w.heap[t]? := hg.block t H.tlt (fun e=>H.tv e.symm)
 have hg1:w1.heap[g]? = w.heap[g]? := hg.block g H.blt (fun e=>H.gv e.symm)
 exact ⟨⟨fun i hi=>hK.block (H.bk i hi) hg.size hg1,Nat.lt_of_lt_of_le H.blt hg.size,Nat.lt_of_lt_of_le H.tlt hg.size,(World.cell?_of_block (a:=⟨t,0,none⟩) ht1).trans H.c0,(World.cell?_of_block (a:=⟨t,1,none⟩) ht1).trans H.c1,
  (World.cell?_of_block (a:=⟨t,2,none⟩) ht1).trans H.c2,fun j=>(World.frozen?_of_block (a:=⟨t,j,none⟩) ht1).trans (H.f j),own1,H.tg,H.tv,H.gv⟩,Touch.of_grown hg (fun k e => .inr (.inr e.symm))⟩
theorem CT.inStash (H:CT w t g v T m) {st':List Rt} (hg:w.grownBy w1 v.ownBlock) (own1:w1.ownsRow 0 41 4 v st'.length (rcs st')):CT w1 t g v { T with st:=st' } m/\Touch (Blk t g v) w w1:=by
 have h:=H.tb.inStash Zpv hg own1
 exact ⟨⟨h.1,(World.cell?_of_block (a:=⟨t,3,none⟩) (hg.block t H.tb.tlt (fun e=>H.tb.tv e.symm))).trans H.c3⟩,h.2⟩
theorem CT.count (H:CT w t g v T m) (m':Int):CT (w.setCell ⟨t,3,none⟩ (.int .i64 m')) t g v T m'/\Touch (Blk t g v) w (w.setCell ⟨t,3,none⟩ (.int .i64 m')):=by
 have hb2:∀k,k≠t->(w.setCell ⟨t,3,none⟩ (.int .i64 m')).heap[k]? = w.heap[k]? := fun k hk=>Below.heap_setCell w ⟨t,3,none⟩ _ k (by simpa using hk)
 have hs2:(w.setCell ⟨t,3,none⟩ (.int .i64 m')).heap.size=w.heap.size:=World.size_setCell _ _ _
 have ne:∀j,j≠3->(w.setCell ⟨t,3,none⟩ (.int .i64 m')).cell? ⟨t,j,none⟩=w.cell? ⟨t,j,none⟩:=fun j hj=>by
  rw [World.cell?_setCell_other]
  intro e
  injection e with _ e2
  exact hj e2.symm
 have B:=H.tb
 exact ⟨⟨⟨fun i hi=>Zpv.block (B.bk i hi) (by rw [hs2];exact Nat.le_refl _) (hb2 g (fun e=>B.tg e.symm)),by rw [hs2];exact B.blt,by rw [hs2];exact B.tlt,(ne 0 (by decide)).trans B.c0,(ne 1 (by decide)).trans B.c1,(ne 2 (by decide)).trans B.c2,fun j=>by rw [World.frozen?_setCell];exact B.f j,
  Zf3 B.own (fun j e=>hb2 j (fun e2=>B.tv (e2▸e))),B.tg,B.tv,B.gv⟩,World.cell?_setCell_same _ _ _ H.c3⟩,⟨rfl,rfl,rfl,by rw [hs2];exact Nat.le_refl _,fun k _ hn=>hb2 k (fun e=>hn (.inl e))⟩⟩
end
theorem Zxq:∀(L:List Rt) (i:Nat) (h:i<L.length) (x:Int),(rcs L).set (i*4+3) (.int .i64 x)=rcs (L.set i ⟨L[i].k,x⟩)
 | a::L,0,_,x=>by
  show (Zac a++rcs L).set 3 _=Zac ⟨a.k,x⟩++rcs L
  rfl
 | a::L,i+1,h,x=>by
  have ih:=Zxq L i (by simpa using h) x
  show (Zac a++rcs L).set ((i+1)*4+3) _=Zac a++rcs (L.set i ⟨(L[i]'(by simpa using h)).k,x⟩)
  rw [List.set_append_right _ _ (by simp [Zac];omega),show (i+1)*4+3-(Zac a).length=i*4+3 by simp [Zac];omega,ih]
theorem Zu1 {C:List Pl} {k:Ky} {v:Int} (h:(getC C k).isSome=true):(putC C k v).isSome=true:=by
 obtain ⟨i,hi,e,-⟩:=Ze0 h
 rw [Zsn e];rfl
end
end Go.Proofs.YtgfjmgebecmbiaaGreat

/-
  One statement whose order is open and which holds several calls that write, each of which waits for all that stands ahead of it: walked once in the order of the text, phase by phase: within a phase operations read, and calls leave all old memory as it was. No condition on the program but that it draws orders in the wide manner.
-/
import Derived.Test.YtgfjmgebecmbiaaGreatM12
import Derived.Laws.CopyOwn
import Derived.Lib.AppendZerosOnto
import Derived.Laws.AppendOwnNone
import Derived.Maps.AppendAt
import Derived.Test.YtgfjmgebecmbiaaGreatM4
set_option linter.unusedSimpArgs false
set_option linter.unusedVariables false
namespace Go.Proofs.YtgfjmgebecmbiaaGreat
open Go Go.RowKit Go.Sort
section
variable {P:Program}
theorem run_copy_k (w:World) (dT sT ty elem:TypeId) (i0:TypeInfo) (hu:P.underlying dT=some (.slice elem)) (hi:P.info? elem=some i0) (k:Nat) (hk:i0.size=k) (g o dLen dCap:Nat) (a:Addr) (sLen sCap:Nat) (cur:Array Value) (t:TypeId) (cs:List Value)
 (m:Nat) (hm:Nat.min sLen dLen=m) (hn:cs.length=m*k) (hg:w.heap[g]? = some (.cells cur t (0,0))) (hsrc:∀j v,cs[j]? = some v->w.cell? (a.add j)=some v) (hfit:o+cs.length<=cur.size) (h1:∀v∈cs,v.oneCell'=true) :
 (Builtin.copy_ #[dT,sT] ty #[.slice (some ⟨g,o,none⟩) dLen dCap,.slice (some a) sLen sCap]).run P w = .ok (goInt m) (w.setRow g (splice cur.toList o cs).toArray):=by
 have hl:=run_firstCells_some (P:=P) w k m a sLen sCap cs hn hsrc
 have hst:=run_storeCells_at P g o t cs 0 cur w hg (by simpa using hfit) h1
 simp [Builtin.copy_,run_underlying hu,Builtin.lenOf,sizeOf,typeInfo,hi,hk,hm,hl,hst,splice]
theorem grown_setRow (w:World) (g:Nat) (cs:Array Value):w.grownBy (w.setRow g cs) (some g):=
 ⟨rfl,rfl,rfl,by simp [World.setRow],fun k _ hk=>setRow_other w g k cs (fun e=>hk (by rw [e]))⟩
theorem wp_copy_rt {o:Oper} {a:Act} {w:World} {K:Act->World->Prop} {Q:Exit->Act->World->Prop} (d s:Operand) (dT sT:TypeId)
 (ho:o.op = .call { callee := .builtin .copy,args := #[d,s],argTypes := #[dT,sT] }) (elem:TypeId) (i0:TypeInfo) (hu:P.underlying dT=some (.slice elem)) (hi:P.info? elem=some i0) (k:Nat) (hk:i0.size=k)
 (g off dLen dCap:Nat) (ad:Addr) (sLen sCap:Nat) (hd:a.eval d = .slice (some ⟨g,off,none⟩) dLen dCap) (hs:a.eval s = .slice (some ad) sLen sCap)
 (cur:Array Value) (t:TypeId) (hg:w.heap[g]? = some (.cells cur t (0,0))) (cs:List Value) (m:Nat) (hm:Nat.min sLen dLen=m) (hn:cs.length=m*k)
 (hsrc:∀j v,cs[j]? = some v->w.cell? (ad.add j)=some v) (hfit:off+cs.length<=cur.size) (h1:∀v∈cs,v.oneCell'=true)
 (h:∀w',Hid (w'.heap[g]? = some (.cells (splice cur.toList off cs).toArray t (0,0)))->w.grownBy w' (some g)->K (a.put o.dst (goInt m)) w'):o.wp P a w K Q:=by
 have hr:=run_copy_k (P:=P) w dT sT o.type elem i0 hu hi k hk g off dLen dCap ad sLen sCap cur t cs m hm hn hg hsrc hfit h1
 unfold Oper.wp execOp
 simp only [ho,resolve,invoke,builtin,Sem.run_bind,Sem.run_pure,Result.andThen_ok,List.map_toArray,List.map_cons,List.map_nil,hd,hs,hr]
 exact h _ (show _=_ from setRow_heap w g cur _ t _ hg) (grown_setRow w g _)
theorem wpList_copy_rt {ops:Array Oper} {rest:List Oper} {o:Oper} {a:Act} {w:World} {Q:Exit->Act->World->Prop} (hgd:o.guard=none) (d s:Operand) (dT sT:TypeId)
 (ho:o.op = .call { callee := .builtin .copy,args := #[d,s],argTypes := #[dT,sT] }) (elem:TypeId) (i0:TypeInfo) (hu:P.underlying dT=some (.slice elem)) (hi:P.info? elem=some i0) (k:Nat) (hk:i0.size=k)
 (g off dLen dCap:Nat) (ad:Addr) (sLen sCap:Nat) (hd:a.eval d = .slice (some ⟨g,off,none⟩) dLen dCap) (hs:a.eval s = .slice (some ad) sLen sCap)
 (cur:Array Value) (t:TypeId) (hg:w.heap[g]? = some (.cells cur t (0,0))) (cs:List Value) (m:Nat) (hm:Nat.min sLen dLen=m) (hn:cs.length=m*k)
 (hsrc:∀j v,cs[j]? = some v->w.cell? (ad.add j)=some v) (hfit:off+cs.length<=cur.size) (h1:∀v∈cs,v.oneCell'=true)
 (h:∀w',Hid (w'.heap[g]? = some (.cells (splice cur.toList off cs).toArray t (0,0)))->w.grownBy w' (some g)->wpList P ops Q rest (a.put o.dst (goInt m)) w'):wpList P ops Q (o::rest) a w:=
 wpList_plain hgd fun _ hK=>wp_copy_rt d s dT sT ho elem i0 hu hi k hk g off dLen dCap ad sLen sCap hd hs cur t hg cs m hm hn hsrc hfit h1 fun w' h2 h3=>hK _ _ (h w' h2 h3)
theorem step_copy_rt {ops:Array Oper} {o:Oper} {a:Act} {w:World} {K:Act->World->Prop} {Q:Exit->Act->World->Prop} {E:Prop} (hgd:o.guard=none) (d s:Operand) (dT sT:TypeId)
 (ho:o.op = .call { callee := .builtin .copy,args := #[d,s],argTypes := #[dT,sT] }) (elem:TypeId) (i0:TypeInfo) (hu:P.underlying dT=some (.slice elem)) (hi:P.info? elem=some i0) (k:Nat) (hk:i0.size=k)
 (g off dLen dCap:Nat) (ad:Addr) (sLen sCap:Nat) (hd:a.eval d = .slice (some ⟨g,off,none⟩) dLen dCap) (hs:a.eval s = .slice (some ad) sLen sCap)
 (cur:Array Value) (t:TypeId) (hg:w.heap[g]? = some (.cells cur t (0,0))) (cs:List Value) (m:Nat) (hm:Nat.min sLen dLen=m) (hn:cs.length=m*k)
 (hsrc:∀j v,cs[j]? = some v->w.cell? (ad.add j)=some v) (hfit:off+cs.length<=cur.size) (h1:∀v∈cs,v.oneCell'=true)
 (h:∀w',Hid (w'.heap[g]? = some (.cells (splice cur.toList off cs).toArray t (0,0)))->w.grownBy w' (some g)->K (a.put o.dst (goInt m)) w') :
 if Region.wanted o (yielded ops a.tmps)=true then Oper.wp P o a w K Q else E:=by
 have hw:Region.wanted o (yielded ops a.tmps)=true:=by simp [Region.wanted,hgd]
 rw [if_pos hw]
 exact wp_copy_rt d s dT sT ho elem i0 hu hi k hk g off dLen dCap ad sLen sCap hd hs cur t hg cs m hm hn hsrc hfit h1 h
end
theorem own_whole {w:World} {B n k:Nat} {e:TypeId} {v:Value} {xs:List Value} (h:w.ownsRow B e k v n xs) (hn:0<n) :
 ∃g cap cur,v = .slice (some ⟨g,0,none⟩) n cap/\B<=g/\g<w.heap.size/\w.heap[g]? = some (.cells cur e (0,0))/\n<=cap/\cap<=maxLen/\cur.size=cap*k/\cur.toList.take (n*k)=xs:=by
 rcases h.2 with ⟨-,h0⟩ | ⟨g,cap,cur,rfl,hB,hg,h1,h2,h3,h4⟩
 ·omega
 ·exact ⟨g,cap,cur,rfl,hB,(Array.getElem?_eq_some_iff.1 hg).1,hg,h1,h2,h3,h4⟩
theorem own_made {w:World} {B n k g cap:Nat} {e:TypeId} {cur:Array Value} {xs:List Value} (hB:B<=g) (hg:w.heap[g]? = some (.cells cur e (0,0))) (h1:n<=cap) (h2:cap<=maxLen) (h3:cur.size=cap*k) (h4:cur.toList.take (n*k)=xs) :
 w.ownsRow B e k (.slice (some ⟨g,0,none⟩) n cap) n xs:=
 ⟨by rw [<-h4,List.length_take,Array.length_toList,h3];exact Nat.min_eq_left (Nat.mul_le_mul_right _ h1),.inr ⟨g,cap,cur,rfl,hB,hg,h1,h2,h3,h4⟩⟩
theorem rcs_take (L:List Rt) (i:Nat):(rcs L).take (i*4)=rcs (L.take i):=by
 by_cases h:i<=L.length
 ·have e:rcs L=rcs (L.take i)++rcs (L.drop i):=by rw [<-rcs_append,List.take_append_drop]
  rw [e,List.take_append_of_le_length (by rw [rcs_len,List.length_take];omega),List.take_of_length_le (by rw [rcs_len,List.length_take];omega)]
 ·rw [List.take_of_length_le (by rw [rcs_len];omega),List.take_of_length_le (by omega)]
theorem rcs_drop (L:List Rt) (i:Nat):(rcs L).drop (i*4)=rcs (L.drop i):=by
 by_cases h:i<=L.length
 ·have e:rcs L=rcs (L.take i)++rcs (L.drop i):=by rw [<-rcs_append,List.take_append_drop]
  rw [e,List.drop_append,List.drop_eq_nil_of_le (by rw [rcs_len,List.length_take];omega),rcs_len,List.length_take,Nat.min_eq_left h,Nat.sub_self]
  simp
 ·rw [List.drop_eq_nil_of_le (by rw [rcs_len];omega),List.drop_eq_nil_of_le (by omega)]
  rfl
theorem cells_at {w:World} {g:Nat} {cur:Array Value} {t:TypeId} (hg:w.heap[g]? = some (.cells cur t (0,0))) (o:Nat) (cs:List Value) (h:(cur.toList.drop o).take cs.length=cs):∀j u,cs[j]? = some u->w.cell? ((⟨g,o,none⟩:Addr).add j)=some u:=by
 intro j u hu
 have hlt:=(List.getElem?_eq_some_iff.1 hu).1
 rw [show (⟨g,o,none⟩:Addr).add j=⟨g,o+j,none⟩ by unfold Addr.add;split<;>simp_all]
 rw [cell_of_row w g (o+j) cur t (0,0) hg]
 rw [<-h,List.getElem?_take,if_pos hlt,List.getElem?_drop] at hu
 simpa using hu
theorem splice_take {α:Type} (L:List α) (o n:Nat) (cs:List α) (h:n<=o) (ho:o<=L.length):(splice L o cs).take n=L.take n:=by
 unfold splice
 rw [List.take_append_of_le_length (by rw [List.length_take];omega),List.take_take,Nat.min_eq_left h]
theorem splice_in {α:Type} (cur X1 Y X2:List α) (a b c:Nat) (ha:X1.length=a) (hb:Y.length=b) (hc:X2.length=c) (h:cur.take (a+c)=X1++X2) (hl:a+b+c<=cur.length) :
 (splice (splice cur (a+b) X2) a Y).take (a+b+c)=X1++Y++X2:=by
 subst ha hb hc
 obtain ⟨Z,rfl⟩:∃Z,cur=X1++X2++Z:=⟨cur.drop (X1.length+X2.length),by rw [<-h,List.take_append_drop]⟩
 unfold splice
 have e1:(X1++X2++Z).take (X1.length+Y.length)++(X2++(X1++X2++Z).drop (X1.length+Y.length+X2.length))=X1++((X2++Z).take Y.length++(X2++(X1++X2++Z).drop (X1.length+Y.length+X2.length))):=by
  rw [List.append_assoc X1,List.take_length_add_append,List.append_assoc]
 rw [e1,List.take_left' rfl,List.drop_length_add_append]
 have hlen:Y.length<=(X2++Z).length:=by simp at hl ⊢;omega
 rw [List.drop_append,List.drop_eq_nil_of_le (by rw [List.length_take];omega),List.length_take,Nat.min_eq_left hlen,Nat.sub_self,List.drop_zero,List.nil_append]
 rw [<-List.append_assoc,<-List.append_assoc]
 exact List.take_left' (by simp;omega)
theorem splice_new {α:Type} (X1 Z Y X2:List α) (a b c:Nat) (ha:X1.length=a) (hb:Y.length=b) (hc:X2.length=c) (hl:b+c<=Z.length):(splice (splice (X1++Z) a Y) (a+b) X2).take (a+b+c)=X1++Y++X2:=by
 subst ha hb hc
 have e1:splice (X1++Z) X1.length Y=X1++Y++Z.drop Y.length:=by
  unfold splice
  rw [List.take_left,List.drop_length_add_append,List.append_assoc]
 rw [e1]
 unfold splice
 rw [List.take_left' (l₁:=X1++Y) (by simp),<-List.append_assoc (X1++Y)]
 exact List.take_left' (by simp;omega)
end Go.Proofs.YtgfjmgebecmbiaaGreat
namespace Go.Proofs.YtgfjmgebecmbiaaGreat
open Go Go.RowKit Go.Sort M
theorem wpList_append_rts {ops:Array Oper} {rest:List Oper} {o:Oper} {a:Act} {w:World} {Q:Exit->Act->World->Prop} (hgd:o.guard=none) (s x:Operand)
 (ho:o.op = .call { callee := .builtin .append,args := #[s,x],argTypes := #[35,35] }) (B B2:Nat) (v u:Value) (L M N:List Rt) (hN:N=L++M) (hs:a.eval s=v) (hx:a.eval x=u)
 (hown:w.ownsRow B 41 4 v L.length (rcs L)) (hsrc:w.ownsRow B2 41 4 u M.length (rcs M)) (hlen:L.length+M.length<=1099511627776) (hB:B<=w.heap.size)
 (h:∀v' w',w'.ownsRow B 41 4 v' N.length (rcs N)->w.grownBy w' v.ownBlock->(v'.ownBlock=v.ownBlock\/v'.ownBlock=some w.heap.size)->wpList Tryz.prog ops Q rest (a.put o.dst v') w'):wpList Tryz.prog ops Q (o::rest) a w:=by
 subst hN
 obtain ⟨i0,hi0,iz0,iz1,iz2⟩:=info_parts infoR
 rcases hsrc.2 with ⟨hu,h0⟩ | ⟨g,cap,cur,hu,-,-,-,-,-,-⟩
 ·subst hu
  refine wpList_append_own_none hgd s x 35 ho B 41 i0 4 Tryz.underlying35 hi0 v _ _ hs hown hx ?_
  have hM:=List.length_eq_zero_iff.1 h0
  subst hM
  refine h v w ?_ ⟨rfl,rfl,rfl,Nat.le_refl _,fun _ _ _=>rfl⟩ (.inl rfl)
  rwa [List.append_nil]
 ·have hc:=fun hg=>hsrc.cells (g:=g) hg
  subst hu
  refine wpList_append_own_at w hgd s x 35 ho B 41 i0 _ 4 32 Tryz.underlying35 hi0 iz0 iz1 iz2 rfl (by decide) v _ _ hs hown ⟨g,0,none⟩ M.length cap (rcs M) hx (rcs_len M) (hc rfl) (rcs_one' M) (by unfold maxLen;omega) (by omega) hB ?_
  intro v' w' h1 h2 _ h4
  refine h v' w' ?_ h2 h4
  rw [rcs_append,List.length_append]
  exact h1
end Go.Proofs.YtgfjmgebecmbiaaGreat
namespace Go.Proofs.YtgfjmgebecmbiaaGreat
open Go Go.RowKit Go.Sort
section
variable {P:Program} {ops:Array Oper} {md:Region.Mode} {C:World->Prop}
def waitB (md:Region.Mode) (ops:Array Oper) (n:Nat):Bool:=
 (List.range ops.size).all fun t=>decide (t<=n)||(List.range t).any fun j=>decide (n<=j)&&Region.waitsFor md ops t j
theorem waits_all {n:Nat} {listed:Array Bool} (hs:Region.sinkB md ops n=true) (hc:waitB md ops n=true) (inv:HeadInv md ops n listed) (hn:n<ops.size) :
 ∀(d i:Nat),n-i=d->i<n->listed.getD i true=false->∀t,n<=t->t∉Region.ready md ops listed:=by
 intro d
 induction d using Nat.strongRecOn with
 | _ d ih=>
  intro i hd hi hun t ht hr
  obtain ⟨_,ot,hot,hall⟩:=mem_ready.1 hr
  have htlt:t<ops.size:=(Array.getElem?_eq_some_iff.1 hot).1
  by_cases htn:t=n
  ·subst htn
   have h1:=List.all_eq_true.1 hs i (List.mem_range.2 hi)
   obtain ⟨j,hj,hj2⟩:=List.any_eq_true.1 h1
   simp only [Bool.and_eq_true,decide_eq_true_eq] at hj2
   obtain ⟨oj,hoj,e,he,hb,hon⟩:=Region.waitsFor_spec hj2.2
   have hjle:j<=t:=by have:=List.mem_range.1 hj;omega
   by_cases hjt:j=t
   ·subst hjt
    have:oj=ot:=Option.some.inj (hoj.symm.trans hot)
    subst this
    have h2:=hall e he hb
    rw [hon,getD_both hun] at h2
    cases h2
   ·cases hl:listed.getD j false with
    | true=>
     have h2:=inv.closed j oj hoj hl e he hb
     rw [hon,getD_both hun] at h2
     cases h2
    | false=>
     have hjs:j<listed.size:=by rw [inv.size];omega
     exact ih (t-j) (by omega) j rfl (by omega) (getD_in hjs hl) t (Nat.le_refl _) hr
  ·have h1:=List.all_eq_true.1 hc t (List.mem_range.2 htlt)
   simp only [Bool.or_eq_true,decide_eq_true_eq] at h1
   rcases h1 with h1 | h1
   ·omega
   ·obtain ⟨j,hj,hj2⟩:=List.any_eq_true.1 h1
    simp only [Bool.and_eq_true,decide_eq_true_eq] at hj2
    obtain ⟨o',ho',e,he,hb,hon⟩:=Region.waitsFor_spec hj2.2
    have:o'=ot:=Option.some.inj (ho'.symm.trans hot)
    subst this
    have h2:=hall e he hb
    have hjt:=List.mem_range.1 hj
    rw [hon,getD_both (inv.tail j hj2.1 (by omega))] at h2
    cases h2
theorem headAny_one {n i:Nat} {oi:Oper} {v:Value} {L:Array Bool->Act->Prop} (hi:ops[i]? = some oi) (hsel:∀(j:Nat) (o:Oper) cs b,ops[j]? = some o->o.op ≠ .select cs b)
 (hs:Region.sinkB md ops n=true) (hc:waitB md ops n=true) (hn:n<ops.size) (hin:i<n)
 (hdone:∀listed a,L listed a->∀j∈Region.ready md ops listed,n<=j) :
 ∀(f:Nat) (listed:Array Bool) (a:Act),HeadInv md ops n listed ->
  (∀j oj,ops[j]? = some oj->j≠i->listed.getD j true=false->(∀e∈oj.after,Region.binds md e=true->e.on≠i)->oi.apart ops oj=true) ->
  i∈Region.ready md ops listed->YieldsIn P ops C oi v a ->
  headAny P md ops C n L f (listed.setIfInBounds i true) (a.put oi.dst v)->headAny P md ops C n L (f+1) listed a:=by
 intro f
 induction f with
 | zero=>
  intro listed a inv _ hr hy H
  refine ⟨fun h=>(by rw [h] at hr;cases hr),fun j hj => ?_⟩
  have hjn:j<n:=Nat.lt_of_not_le fun h=>waits_all hs hc inv hn _ i rfl hin (mem_ready.1 hr).1 j h hj
  refine ⟨hjn,?_⟩
  by_cases hji:j=i
  ·subst hji;exact hy.qOp hi H
  ·have:=hdone _ _ H j (ready_mono hj hji)
   omega
 | succ f ih=>
  intro listed a inv hfree hr hy H
  have hun:=(mem_ready.1 hr).1
  refine ⟨fun h=>(by rw [h] at hr;cases hr),fun j hj => ?_⟩
  have hjn:j<n:=Nat.lt_of_not_le fun h=>waits_all hs hc inv hn _ i rfl hin hun j h hj
  refine ⟨hjn,?_⟩
  by_cases hji:j=i
  ·subst hji;exact hy.qOp hi H
  ·have h1:=(H.2 j (ready_mono hj hji)).2
   obtain ⟨hjun,oj,hoj,hall⟩:=mem_ready.1 hj
   have hnot:∀e∈oj.after,Region.binds md e=true->e.on≠i:=fun e he hb heq=>by
    have h3:=hall e he hb
    rw [heq,getD_both hun] at h3
    cases h3
   have h2:=qOp_put hoj (hfree j oj hoj hji hjun hnot) (fun cs b=>hsel i oi cs b hi) (fun cs b=>hsel j oj cs b hoj) hy h1
   have hfree':∀k ok,ops[k]? = some ok->k≠i->(listed.setIfInBounds j true).getD k true=false ->
    (∀e∈ok.after,Region.binds md e=true->e.on≠i)->oi.apart ops ok=true:=fun k ok hk hki hun2 hno=>by
    refine hfree k ok hk hki ?_ hno
    by_cases hjk:j=k
    ·subst hjk;exact hjun
    ·rw [getD_set_ne true hjk] at hun2;exact hun2
   refine qOp_mono (fun a' h3=>ih (listed.setIfInBounds j true) a' (inv.set hj hjn) hfree' (ready_mono hr (Ne.symm hji)) h3.1 ?_) h2
   rw [Array.setIfInBounds_comm _ _ hji]
   exact h3.2
def lexTo (md:Region.Mode) (ops:Array Oper) (F:Array Bool->Bool):Nat->Nat->Array Bool->Bool
 | 0,_,listed=>F listed
 | f+1,k,listed=>(Region.ready md ops listed).contains k&&Region.free md ops listed k&&lexTo md ops F f (k+1) (listed.setIfInBounds k true)
theorem headAny_to {n:Nat} {F:Array Bool->Bool} {Lq:Act->Prop} (hF:∀listed,F listed=true->∀j∈Region.ready md ops listed,n<=j) (hsel:Region.noSelect ops=true) (hs:Region.sinkB md ops n=true) (hc:waitB md ops n=true) (hn:n<ops.size) :
 ∀(l:List Oper) (k:Nat) (listed:Array Bool) (a:Act),(∀j,j<l.length->l[j]? = ops[k+j]?)->k+l.length=n->HeadInv md ops n listed ->
 lexTo md ops F l.length k listed=true->wpQuiet P ops C Lq l a ->
 headAny P md ops C n (fun listed' a'=>(F listed'=true/\HeadInv md ops n listed')/\Lq a') l.length listed a
 | [],k,listed,a,_,hk,inv,hB,h=>⟨⟨by simpa [lexTo] using hB,inv⟩,h⟩
 | o::l,k,listed,a,hl,hk,inv,hB,h=>by
  have h0:ops[k]? = some o:=by simpa using (hl 0 (by simp)).symm
  simp only [List.length_cons,lexTo,Bool.and_eq_true] at hB
  obtain ⟨⟨hr,hf⟩,hB'⟩:=hB
  have hkn:k<n:=by simp only [List.length_cons] at hk;omega
  have hr':k∈Region.ready md ops listed:=by simpa using hr
  have hst:qOp P ops C k (wpQuiet P ops C Lq l) a:=by unfold qOp;simp only [h0];exact h
  obtain ⟨v,hy,hK⟩:=yieldsIn_of_qOp h0 hst
  exact headAny_one h0 (Region.noSelect_spec hsel) hs hc hn hkn (fun listed' a' hL=>hF _ hL.1.1) l.length listed a inv (Region.free_spec h0 hf) hr' hy
   (headAny_to hF hsel hs hc hn l (k+1) _ _ (fun j hj=>by have:=hl (j+1) (by simp;omega);simpa [Nat.add_assoc,Nat.add_comm 1 j] using this) (by simp only [List.length_cons] at hk;omega) (inv.set hr' hkn) hB' hK)
def Rg (w:World) (w':World):Prop:=∃p:Regrown,w'=grow (redrawn w p.d) p.os
theorem Rg.self (w:World):Rg w w:=⟨⟨w.drawn,#[]⟩,by rw [grow_empty];rfl⟩
def phB (ops:Array Oper) (nT:Nat):List Nat->Nat->Array Bool->Bool
 | [],k,listed=>decide (k<=nT)&&decide (nT<ops.size)&&Region.sinkB .any ops nT&&waitB .any ops nT&&lexTo .any ops (Region.seqB .any ops (ops.size-nT) nT) (nT-k) k listed
 | n::ns,k,listed=>decide (k<=n)&&decide (n<ops.size)&&Region.sinkB .any ops n&&waitB .any ops n&&lexTo .any ops (fun l1=>decide (Region.ready .any ops l1=[n])&&phB ops nT ns (n+1) (l1.setIfInBounds n true)) (n-k) k listed
def phQ (P:Program) (ops:Array Oper) (Q:Exit->Act->World->Prop) (nT:Nat):List Nat->Nat->List Oper->Act->World->Prop
 | [],k,l,a,w=>wpQuiet P ops (fun w'=>∃p:Regrown,w'=grow (redrawn w p.d) p.os) (fun a'=>∀w',Below w.heap.size w w'->wpList P ops Q (l.drop (nT-k)) a' w') (l.take (nT-k)) a
 | n::ns,k,l,a,w=>wpQuiet P ops (fun w'=>∃p:Regrown,w'=grow (redrawn w p.d) p.os) (fun a'=>∀w',Below w.heap.size w w'->∀(K:Act->World->Prop),(∀a2 w2,phQ P ops Q nT ns (n+1) (l.drop (n-k+1)) a2 w2->K a2 w2) ->
  ∀o,l[n-k]? = some o->if Region.wanted o (yielded ops a'.tmps)=true then o.wp P a' w' K Q else K (a'.put o.dst undef) w') (l.take (n-k)) a
theorem inv_next {n:Nat} {listed:Array Bool} (inv:HeadInv md ops n listed) (hi:n∈Region.ready md ops listed):HeadInv md ops (n+1) (listed.setIfInBounds n true):=by
 obtain ⟨_,oi,hoi,hall⟩:=mem_ready.1 hi
 refine ⟨by simp [inv.size],fun j oj hj hl e he hb => ?_,fun t ht ht'=>by rw [getD_set_ne true (by omega)];exact inv.tail t (by omega) ht'⟩
 by_cases hij:n=j
 ·subst hij
  have:oj=oi:=Option.some.inj (hj.symm.trans hoi)
  subst this
  exact getD_set_true (hall e he hb)
 ·rw [getD_set_ne false hij] at hl
  exact getD_set_true (inv.closed j oj hj hl e he hb)
theorem inv_up {k n:Nat} {listed:Array Bool} (inv:HeadInv md ops k listed) (h:k<=n):HeadInv md ops n listed:=⟨inv.size,inv.closed,fun t ht ht'=>inv.tail t (by omega) ht'⟩
theorem phases {Q:Exit->Act->World->Prop} {nT:Nat} (hsel:Region.noSelect ops=true):∀(ns:List Nat) (k:Nat) (l:List Oper) (listed:Array Bool) (a:Act) (w wc:World),(∀j,l[j]? = ops[k+j]?)->HeadInv .any ops k listed ->
 phB ops nT ns k listed=true->Rg w wc->phQ P ops Q nT ns k l a w->wpAny P .any ops Q (ops.size-k) listed a wc
 | [],k,l,listed,a,w,wc,hl,inv,hB,hC,h=>by
  simp only [phB,Bool.and_eq_true,decide_eq_true_eq] at hB
  obtain ⟨⟨⟨⟨hk,hn⟩,hs⟩,hw⟩,hlex⟩:=hB
  have hll:l.length=ops.size-k:=by
   rcases Nat.lt_or_ge l.length (ops.size-k) with h1 | h1
   ·have:=hl l.length
    rw [List.getElem?_eq_none (Nat.le_refl _),Array.getElem?_eq_getElem (by omega)] at this
    cases this
   ·rcases Nat.lt_or_ge (ops.size-k) l.length with h2 | h2
    ·have:=hl (ops.size-k)
     rw [List.getElem?_eq_getElem h2,Array.getElem?_eq_none (by omega)] at this
     cases this
    ·omega
  have htl:(l.take (nT-k)).length=nT-k:=by simp;omega
  have hdl:(l.drop (nT-k)).length=ops.size-nT:=by simp;omega
  have H:=headAny_to (P:=P) (C:=Rg w) (md := .any) (F:=Region.seqB .any ops (ops.size-nT) nT) (fun listed hF=>seqB_ready hF) hsel hs hw hn (l.take (nT-k)) k listed a (fun j hj=>by
   have hj':j<nT-k:=by rw [htl] at hj;exact hj
   rw [List.getElem?_take,if_pos hj']
   exact hl j) (by rw [htl];omega) (inv_up inv hk) (by rw [htl];exact hlex) h
  have:=headAny_wp (Q':=Q) (g:=ops.size-nT) (fun listed a' w' hw' hL=>by
   have:=wpAny_of_seq (md := .any) (Q':=Q) (l.drop (nT-k)) nT listed a' w' (fun j=>by rw [List.getElem?_drop,hl];congr 1;omega) (by rw [hdl];exact hL.1.1) (hL.2 w' (by obtain ⟨p,rfl⟩:=hw';exact below_regrown _ _ _))
   rwa [hdl] at this) _ _ _ _ hC H
  rw [htl,show nT-k+(ops.size-nT)=ops.size-k by omega] at this
  exact this
 | n::ns,k,l,listed,a,w,wc,hl,inv,hB,hC,h=>by
  simp only [phB,Bool.and_eq_true,decide_eq_true_eq] at hB
  obtain ⟨⟨⟨⟨hk,hn⟩,hs⟩,hw⟩,hlex⟩:=hB
  have hlen:n-k<l.length:=by
   rcases Nat.lt_or_ge (n-k) l.length with h1 | h1
   ·exact h1
   ·have:=hl (n-k)
    rw [List.getElem?_eq_none h1,Array.getElem?_eq_getElem (by omega)] at this
    cases this
  have htl:(l.take (n-k)).length=n-k:=by simp;omega
  have H:=headAny_to (P:=P) (C:=Rg w) (md := .any) (F:=fun l1=>decide (Region.ready .any ops l1=[n])&&phB ops nT ns (n+1) (l1.setIfInBounds n true)) (fun listed hF j hj=>by
   simp only [Bool.and_eq_true,decide_eq_true_eq] at hF
   rw [hF.1] at hj
   simp at hj
   omega) hsel hs hw hn (l.take (n-k)) k listed a (fun j hj=>by
   have hj':j<n-k:=by rw [htl] at hj;exact hj
   rw [List.getElem?_take,if_pos hj']
   exact hl j) (by rw [htl];omega) (inv_up inv hk) (by rw [htl];exact hlex) h
  have:=headAny_wp (Q':=Q) (g:=ops.size-n) (fun listed a' w' hw' hL=>by
   obtain ⟨⟨hF,inv'⟩,hq⟩:=hL
   simp only [Bool.and_eq_true,decide_eq_true_eq] at hF
   have h0:l[n-k]? = some (l[n-k]'hlen):=List.getElem?_eq_getElem hlen
   have h1:ops[n]? = some (l[n-k]'hlen):=by rw [<-h0,hl];congr 1;omega
   rw [show ops.size-n=(ops.size-(n+1))+1 by omega]
   refine ⟨fun h=>(by rw [hF.1] at h;cases h),fun i hi => ?_⟩
   rw [hF.1] at hi
   have hin:i=n:=by simpa using hi
   subst hin
   have hq':=hq w' (by obtain ⟨p,rfl⟩:=hw';exact below_regrown _ _ _) (wpAny P .any ops Q (ops.size-(i+1)) (listed.setIfInBounds i true)) (fun a2 w2 h2=>
    phases hsel ns (i+1) (l.drop (i-k+1)) (listed.setIfInBounds i true) a2 w2 w2 (fun j=>by rw [List.getElem?_drop,hl];congr 1;omega) (inv_next inv' (by rw [hF.1];simp)) hF.2 (Rg.self w2) h2) _ h0
   unfold wpOp
   simp only [h1]
   split
   ·rename_i hw1
    rw [if_pos hw1] at hq'
    exact .inl hq'
   ·rename_i hw1
    rw [if_neg hw1] at hq'
    exact hq') _ _ _ _ hC H
  rw [htl,show n-k+(ops.size-n)=ops.size-k by omega] at this
  exact this
theorem region_phases {id:Nat} {Q:Exit->Act->World->Prop} {a:Act} {w:World} {l:List Oper} (ns:List Nat) (nT:Nat) (hm:P.follows .mixedOrders=true) (hsel:Region.noSelect l.toArray=true) (hB:phB l.toArray nT ns 0 (Array.replicate l.toArray.size false)=true)
 (h:phQ P l.toArray Q nT ns 0 l a w):(Code.region id l.toArray true).wp P Q a w:=by
 refine wp_region_any hm ?_
 have inv0:HeadInv .any l.toArray 0 (Array.replicate l.toArray.size false):=
  ⟨by simp,fun j oj _ hl=>(by rw [getD_replicate_false] at hl;cases hl),fun t _ ht=>getD_in (by simpa using ht) (getD_replicate_false _ _)⟩
 have:=phases (P:=P) (Q:=Q) hsel ns 0 l _ a w _ (fun j=>by simp) inv0 hB (⟨⟨w.drawn+1,#[]⟩,by rw [grow_empty];rfl⟩:Rg w { w with drawn:=w.drawn+1 }) h
 simpa using this
end
end Go.Proofs.YtgfjmgebecmbiaaGreat

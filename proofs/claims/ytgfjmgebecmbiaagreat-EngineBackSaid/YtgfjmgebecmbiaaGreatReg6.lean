/-
  One statement whose order is open, with calls in a chain each of which leaves old memory as it was, and a tail in one order: what only reads, or builds a value, is taken first, wherever it stands, between the calls too. No condition on the program but that it draws orders in the wide manner.
-/
import Derived.Test.YtgfjmgebecmbiaaGreatReg2
import Derived.OrdersHeld
import Derived.Deep.RegionHeld3
import Derived.Test.YtgfjmgebecmbiaaGreatCT
set_option linter.unusedSimpArgs false
set_option linter.unusedVariables false
namespace Go.Proofs.YtgfjmgebecmbiaaGreat
open Go Go.RowKit Go.Sort
section
variable {P:Program} {ops:Array Oper} {md:Region.Mode} {C:World->Prop} {Q:Exit->Act->World->Prop} {S:World->Prop} {pre:Nat->Bool}
def stillB (o:Oper):Bool:=
 match o.op with
 | .move _ | .assign _ | .load _ _ | .fieldAddr _ _ _ | .indexAddr _ _ _ | .extract _ _ | .binOp _ _ _ _ _ | .unOp _ _ _ | .convert _ _ _ | .slice _ _ _ _ _=>true
 | .nilCheck _=>true
 | .call ⟨.builtin .len,_,_⟩ | .call ⟨.builtin .cap,_,_⟩ | .call ⟨.builtin .min,_,_⟩ | .call ⟨.builtin .max,_,_⟩=>true
 | _=>false
theorem value_only (s:Sem Value) (w:World):∀(n:Next) (w':World),(Sem.run P (do pure (Next.value (<-s))) w) = .ok n w'->∃v,n = .value v:=by
 intro n w' h
 simp only [Sem.run_bind] at h
 generalize Sem.run P s w=r at h
 cases r with
 | ok v w1=>
  simp only [Result.andThen,Sem.run_pure] at h
  injection h with h1 h2
  exact ⟨v,h1.symm⟩
 | halt x w1=>simp [Result.andThen] at h
theorem still_value {o:Oper} (hs:stillB o=true) {a:Act} {w:World} {v:Value} (h:Oper.quietUpon P C w v ((execOp a.eval o).run P w)):(execOp a.eval o).run P w = .ok (.value v) w:=by
 have key:∀n w',(execOp a.eval o).run P w = .ok n w'->∃u,n = .value u:=by
  intro n w' hr
  unfold execOp at hr
  unfold stillB at hs
  split at hs
  all_goals first
   | (rename_i he;simp only [he] at hr;first|exact value_only _ w n w' hr|(simp only [Sem.run_pure] at hr;injection hr with h1 h2;exact ⟨_,h1.symm⟩))
   | skip
  ·rename_i x he
   simp only [he] at hr
   generalize a.eval x=p at hr
   split at hr
   all_goals first
    | (simp [runtimePanic,Sem.run,Result.andThen] at hr;done)
    | (simp only [Sem.run_pure] at hr;injection hr with h1 h2;exact ⟨_,h1.symm⟩)
    | skip
   ·split at hr
    ·simp [runtimePanic,Sem.run,Result.andThen] at hr
    ·rename_i t w1 _
     simp only [Sem.run_bind] at hr
     generalize Sem.run P program w=r1 at hr
     cases r1 with
     | halt x w2=>simp [Result.andThen] at hr
     | ok p2 w2=>
      simp only [Result.andThen] at hr
      generalize Sem.run P (nilAhead _ _ _ _) w2=r2 at hr
      cases r2 with
      | halt x w3=>simp at hr
      | ok b w3=>
       simp only at hr
       split at hr
       ·simp [unsupported,Sem.run,Result.andThen] at hr
       ·simp only [Sem.run_pure] at hr
        injection hr with h1 h2
        exact ⟨_,h1.symm⟩
    ·simp only [Sem.run_pure] at hr
     injection hr with h1 h2
     exact ⟨_,h1.symm⟩
  all_goals first
   | (cases hs;done)
   | (rename_i he
      simp only [he,resolve,invoke,builtin,Sem.run_bind,Sem.run_pure,Result.andThen_ok] at hr
      refine value_only (P:=P) _ w n w' ?_
      simp only [Sem.run_bind,Sem.run_pure]
      exact hr)
 generalize (execOp a.eval o).run P w=r at h key
 cases r with
 | ok n w'=>
  obtain ⟨u,rfl⟩:=key n w' rfl
  obtain ⟨rfl,rfl⟩:=h
  rfl
 | halt x w'=>exact h.elim
def anyP (P:Program) (md:Region.Mode) (ops:Array Oper) (Q:Exit->Act->World->Prop) (S:World->Prop) (pre:Nat->Bool):Nat->Array Bool->Act->World->Prop
 | 0,listed,a,w=>Region.ready md ops listed=[]/\Q .normal a w
 | f+1,listed,a,w=>(Region.ready md ops listed=[]->Q .normal a w) /\
  ∀i∈Region.ready md ops listed,wpOp P ops Q i (fun a' w'=>(pre i=true->S w->S w')/\anyP P md ops Q S pre f (listed.setIfInBounds i true) a' w') a w
theorem wpAny_of_anyP:∀(f:Nat) (listed:Array Bool) (a:Act) (w:World),anyP P md ops Q S pre f listed a w->wpAny P md ops Q f listed a w
 | 0,_,_,_,h=>h
 | f+1,_,_,_,h=>⟨h.1,fun i hi=>wpOp_mono (fun a' w' h'=>wpAny_of_anyP f _ a' w' h'.2) (h.2 i hi)⟩
theorem inv_set {i:Nat} {listed:Array Bool} (inv:HeadInv md ops ops.size listed) (hi:i∈Region.ready md ops listed):HeadInv md ops ops.size (listed.setIfInBounds i true):=by
 obtain ⟨_,oi,hoi,_⟩:=mem_ready.1 hi
 exact inv.set hi (Array.getElem?_eq_some_iff.1 hoi).1
theorem anyP_first {i:Nat} {oi:Oper} {v:Value} {T:World->Prop} (hi:ops[i]? = some oi) (hsel:∀(j:Nat) (o:Oper) cs b,ops[j]? = some o->o.op ≠ .select cs b) (hQ:∀c a w,Q (.panic c) a w->False) (hST:∀w,S w->T w)
 (hT:∀j listed,HeadInv md ops ops.size listed->listed.getD i true=false->j∈Region.ready md ops listed->j≠i->pre j=true\/∀w,T w) :
 ∀(f:Nat) (listed:Array Bool) (a:Act) (w:World),HeadInv md ops ops.size listed ->
  (∀j oj,ops[j]? = some oj->j≠i->listed.getD j true=false->(∀e∈oj.after,Region.binds md e=true->e.on≠i)->oi.apart ops oj=true) ->
  i∈Region.ready md ops listed->YieldsIf P ops T oi v a->(S w\/∀w,T w)->anyP P md ops Q S pre f (listed.setIfInBounds i true) (a.put oi.dst v) w->anyP P md ops Q S pre (f+1) listed a w:=by
 have tw:∀{w},(S w\/∀w,T w)->T w:=fun h=>h.elim (hST _) (fun h=>h _)
 intro f
 induction f with
 | zero=>
  intro listed a w _ _ hr hy hS H
  refine ⟨fun h=>(by rw [h] at hr;cases hr),fun j hj => ?_⟩
  by_cases hji:j=i
  ·subst hji;exact hy.wpOp hi (tw hS) ⟨fun _ h=>h,H⟩
  ·have:=ready_mono hj hji
   rw [H.1] at this
   cases this
 | succ f ih=>
  intro listed a w inv hfree hr hy hS H
  have hun:=(mem_ready.1 hr).1
  refine ⟨fun h=>(by rw [h] at hr;cases hr),fun j hj => ?_⟩
  by_cases hji:j=i
  ·subst hji;exact hy.wpOp hi (tw hS) ⟨fun _ h=>h,H⟩
  ·have h1:=H.2 j (ready_mono hj hji)
   obtain ⟨hjun,oj,hoj,hall⟩:=mem_ready.1 hj
   have hnot:∀e∈oj.after,Region.binds md e=true->e.on≠i:=fun e he hb heq=>by
    have h3:=hall e he hb
    rw [heq,getD_both hun] at h3
    cases h3
   have h2:=wpOp_putIf (S:=T) hoj (hfree j oj hoj hji hjun hnot) (fun cs b=>hsel i oi cs b hi) (fun cs b=>hsel j oj cs b hoj) (fun c a w h=>(hQ c _ w h).elim) hy h1
   have hfree':∀k ok,ops[k]? = some ok->k≠i->(listed.setIfInBounds j true).getD k true=false ->
    (∀e∈ok.after,Region.binds md e=true->e.on≠i)->oi.apart ops ok=true:=fun k ok hk hki hun2 hno=>by
    refine hfree k ok hk hki ?_ hno
    by_cases hjk:j=k
    ·subst hjk;exact hjun
    ·rw [getD_set_ne true hjk] at hun2;exact hun2
   refine wpOp_mono (fun a' w' h3=>⟨h3.2.1,ih (listed.setIfInBounds j true) a' w' (inv_set inv hj) hfree' (ready_mono hr (Ne.symm hji)) h3.1 ?_ ?_⟩) h2
   ·rcases hT j listed inv hun hj hji with h4 | h4
    ·rcases hS with h5 | h5
     ·exact .inl (h3.2.1 h4 h5)
     ·exact .inr h5
    ·exact .inr h4
   ·rw [Array.setIfInBounds_comm _ _ hji]
    exact h3.2.2
def waitsN (md:Region.Mode) (ops:Array Oper):Nat->Nat->Nat->Bool
 | 0,j,i=>Region.waitsFor md ops j i
 | f+1,j,i=>Region.waitsFor md ops j i||(List.range ops.size).any fun k=>Region.waitsFor md ops j k&&waitsN md ops f k i
def laterB (md:Region.Mode) (ops:Array Oper) (pre:Nat->Bool) (i:Nat):Bool:=(List.range ops.size).all fun j=>pre j||decide (j=i)||waitsN md ops 6 j i
theorem waitsN_spec {i:Nat} {listed:Array Bool} (inv:HeadInv md ops ops.size listed) (hun:listed.getD i true=false):∀(f j:Nat),waitsN md ops f j i=true->(∀oj,ops[j]? = some oj->∀e∈oj.after,Region.binds md e=true->listed.getD e.on false=true)->False:=by
 have direct:∀j,Region.waitsFor md ops j i=true->(∀oj,ops[j]? = some oj->∀e∈oj.after,Region.binds md e=true->listed.getD e.on false=true)->False:=by
  intro j h1 hall
  obtain ⟨oj,hoj,e,he,hb,hon⟩:=Region.waitsFor_spec h1
  have h2:=hall oj hoj e he hb
  rw [hon,getD_both hun] at h2
  cases h2
 intro f
 induction f with
 | zero=>exact fun j h hall=>direct j h hall
 | succ f ih=>
  intro j h hall
  simp only [waitsN,Bool.or_eq_true] at h
  rcases h with h | h
  ·exact direct j h hall
  ·obtain ⟨k,_,hk⟩:=List.any_eq_true.1 h
   simp only [Bool.and_eq_true] at hk
   obtain ⟨oj,hoj,e,he,hb,hon⟩:=Region.waitsFor_spec hk.1
   have h2:=hall oj hoj e he hb
   rw [hon] at h2
   exact ih k hk.2 fun ok hok e2 he2 hb2=>inv.closed k ok hok h2 e2 he2 hb2
theorem later_spec {i:Nat} (h:laterB md ops pre i=true):∀j listed,HeadInv md ops ops.size listed->listed.getD i true=false->j∈Region.ready md ops listed->j≠i->pre j=true:=by
 intro j listed inv hun hj hne
 obtain ⟨_,oj,hoj,hall⟩:=mem_ready.1 hj
 have h1:=List.all_eq_true.1 h j (List.mem_range.2 (Array.getElem?_eq_some_iff.1 hoj).1)
 simp only [Bool.or_eq_true,decide_eq_true_eq] at h1
 rcases h1 with (h1 | h1) | h1
 ·exact h1
 ·exact absurd h1 hne
 ·exact (waitsN_spec inv hun 6 j h1 fun o ho=>by
   have:o=oj:=Option.some.inj (ho.symm.trans hoj)
   subst this
   exact hall).elim
def pickL (ops:Array Oper) (t:List Nat):List Oper:=t.filterMap fun i=>ops[i]?
def takeB (md:Region.Mode) (ops:Array Oper) (ok:Nat->Bool) (F:Array Bool->Bool):List Nat->Array Bool->Bool
 | [],listed=>F listed
 | i::t,listed=>(Region.ready md ops listed).contains i&&Region.free md ops listed i&&ok i&&((ops[i]?).map stillB).getD false&&takeB md ops ok F t (listed.setIfInBounds i true)
theorem anyP_takes {T:World->Prop} {F:Array Bool->Bool} {ok:Nat->Bool} {Lq:Act->Prop} {g:Nat} {w:World} (hsel:Region.noSelect ops=true) (hQ:∀c a w,Q (.panic c) a w->False) (hST:∀w,S w->T w) (hok:∀i,ok i=true->(laterB md ops pre i=true\/∀w,T w)) (hS:S w)
 (hL:∀listed a,F listed=true->HeadInv md ops ops.size listed->Lq a->anyP P md ops Q S pre g listed a w) :
 ∀(t:List Nat) (listed:Array Bool) (a:Act),takeB md ops ok F t listed=true->HeadInv md ops ops.size listed->wpQuiet P ops T Lq (pickL ops t) a->anyP P md ops Q S pre (t.length+g) listed a w
 | [],listed,a,hB,inv,h=>by rw [List.length_nil,Nat.zero_add];exact hL listed a hB inv h
 | i::t,listed,a,hB,inv,h=>by
  simp only [takeB,Bool.and_eq_true] at hB
  obtain ⟨⟨⟨⟨hr,hf⟩,ho⟩,hst⟩,hB'⟩:=hB
  have hr':i∈Region.ready md ops listed:=by simpa using hr
  obtain ⟨_,oi,hoi,_⟩:=mem_ready.1 hr'
  rw [hoi] at hst
  simp only [Option.map_some,Option.getD_some] at hst
  have hp:pickL ops (i::t)=oi::pickL ops t:=by unfold pickL;rw [List.filterMap_cons,hoi]
  rw [hp] at h
  have hq:qOp P ops T i (wpQuiet P ops T Lq (pickL ops t)) a:=by unfold qOp;simp only [hoi];exact h
  obtain ⟨v,hy,hK⟩:=yieldsIn_of_qOp hoi hq
  have hy':YieldsIf P ops T oi v a:=hy.imp (fun ⟨hw,hv⟩=>⟨hw,fun w hw2=>still_value hst (hv w hw2)⟩) id
  rw [List.length_cons,show t.length+1+g=(t.length+g)+1 by omega]
  exact anyP_first hoi (Region.noSelect_spec hsel) hQ hST (fun j l1 inv1 hun hj hne=>(hok i ho).imp (fun hl=>later_spec hl j l1 inv1 hun hj hne) id) _ listed a w inv (Region.free_spec hoi hf) hr' hy' (.inl hS)
   (anyP_takes hsel hQ hST hok hS hL t _ _ hB' (inv_set inv hr') hK)
def oneOp (P:Program) (ops:Array Oper) (Q:Exit->Act->World->Prop) (i:Nat) (K:Act->World->Prop) (a:Act) (w:World):Prop:=
 ∀o,ops[i]? = some o->if Region.wanted o (yielded ops a.tmps)=true then o.wp P a w K Q else K (a.put o.dst undef) w
theorem oneOp.wpOp {i:Nat} {K:Act->World->Prop} {a:Act} {w:World} (h:oneOp P ops Q i K a w) (hi:(ops[i]?).isSome=true):wpOp P ops Q i K a w:=by
 obtain ⟨o,ho⟩:=Option.isSome_iff_exists.1 hi
 have h1:=h o ho
 unfold Go.wpOp
 simp only [ho]
 split
 ·rename_i hw
  rw [if_pos hw] at h1
  exact .inl h1
 ·rename_i hw
  rw [if_neg hw] at h1
  exact h1
def tailB (md:Region.Mode) (ops:Array Oper):List Nat->Array Bool->Bool
 | [],listed=>(Region.ready md ops listed).isEmpty
 | i::t,listed=>decide (Region.ready md ops listed=[i])&&tailB md ops t (listed.setIfInBounds i true)
theorem anyP_tail:∀(t:List Nat) (listed:Array Bool) (a:Act) (w:World),(∀i∈t,pre i=false)->tailB md ops t listed=true->wpList P ops Q (pickL ops t) a w->anyP P md ops Q S pre t.length listed a w
 | [],_,_,_,_,hB,h=>⟨by simpa [tailB] using hB,h⟩
 | i::t,listed,a,w,hp,hB,h=>by
  simp only [tailB,Bool.and_eq_true,decide_eq_true_eq] at hB
  refine ⟨fun h1=>(by rw [hB.1] at h1;cases h1),fun j hj => ?_⟩
  have hj':=hj
  rw [hB.1] at hj
  have hji:j=i:=by simpa using hj
  subst hji
  obtain ⟨_,o,ho,_⟩:=mem_ready.1 hj'
  have hpk:pickL ops (j::t)=o::pickL ops t:=by unfold pickL;rw [List.filterMap_cons,ho]
  rw [hpk] at h
  have hw:Go.wpOp P ops Q j (wpList P ops Q (pickL ops t)) a w:=by unfold Go.wpOp;simp only [ho];exact h
  exact wpOp_mono (fun a' w' h'=>⟨fun h2=>(by rw [hp j (by simp)] at h2;cases h2),anyP_tail t _ a' w' (fun k hk=>hp k (by simp [hk])) hB.2 h'⟩) hw
def wayQ (P:Program) (ops:Array Oper) (Q:Exit->Act->World->Prop) (w:World) (x y:Nat) (tl:List Nat) (a:Act) (w':World):Prop:=
 ∀K:Act->World->Prop,(∀a3 w3,Below w.heap.size w w3->(∀K2:Act->World->Prop,(∀a4 w4,Below w.heap.size w w4->wpList P ops Q (pickL ops tl) a4 w4->K2 a4 w4)->oneOp P ops Q y K2 a3 w3)->K a3 w3)->oneOp P ops Q x K a w'
def pairB (ops:Array Oper) (tA tB:List Nat) (x y:Nat) (tl:List Nat):Bool:=
 decide (x≠y)&&(ops[x]?).isSome&&(ops[y]?).isSome&&decide (ops.size=tA.length+(tB.length+(tl.length+1+1))) &&
 takeB .any ops (fun _=>true) (fun l1=>takeB .any ops (fun i=>laterB .any ops (fun j => !tl.contains j) i) (fun l2=>
  decide (Region.ready .any ops l2=[x,y])&&decide (Region.ready .any ops (l2.setIfInBounds x true)=[y])&&decide (Region.ready .any ops (l2.setIfInBounds y true)=[x])&&tailB .any ops tl ((l2.setIfInBounds x true).setIfInBounds y true)) tB l1) tA (Array.replicate ops.size false)
theorem region_pair {id:Nat} {a:Act} {w:World} {l:List Oper} (tA tB:List Nat) (x y:Nat) (tl:List Nat) (hm:P.follows .mixedOrders=true) (hQ:∀c a w,Q (.panic c) a w->False) (hsel:Region.noSelect l.toArray=true) (hB:pairB l.toArray tA tB x y tl=true)
 (h:wpQuiet P l.toArray (fun _=>True) (fun a1=>wpQuiet P l.toArray (fun w'=>∃p:Regrown,w'=grow (redrawn w p.d) p.os) (fun a2=>∀w',Below w.heap.size w w'->wayQ P l.toArray Q w x y tl a2 w'/\wayQ P l.toArray Q w y x tl a2 w') (pickL l.toArray tB) a1) (pickL l.toArray tA) a) :
 (Code.region id l.toArray true).wp P Q a w:=by
 generalize l.toArray=ops at *
 simp only [pairB,Bool.and_eq_true,decide_eq_true_eq] at hB
 obtain ⟨⟨⟨⟨hxy,hx⟩,hy⟩,hsz⟩,hB⟩:=hB
 refine wp_region_any hm ?_
 have inv0:HeadInv .any ops ops.size (Array.replicate ops.size false):=
  ⟨by simp,fun j oj _ hl=>(by rw [getD_replicate_false] at hl;cases hl),fun t h1 h2=>absurd h2 (by omega)⟩
 have hS0:Rg w { w with drawn:=w.drawn+1 }:=⟨⟨w.drawn+1,#[]⟩,by rw [grow_empty];rfl⟩
 have rgb:∀{w'},Below w.heap.size w w'->Rg w w':=fun h=>regrown_of_below h
 have pre2:∀i∈tl,(!tl.contains i)=false:=fun i hi=>by simp [hi]
 refine wpAny_of_anyP (S:=Rg w) (pre:=fun j => !tl.contains j) _ _ _ _ ?_
 suffices hh:anyP P .any ops Q (Rg w) (fun j => !tl.contains j) (tA.length+(tB.length+(tl.length+1+1))) (Array.replicate ops.size false) a { w with drawn:=w.drawn+1 } by
  rw [<-hsz] at hh
  exact hh
 have one:∀(u v:Nat) (listed:Array Bool) (a2:Act) (w':World),(ops[u]?).isSome=true->(ops[v]?).isSome=true->Region.ready .any ops (listed.setIfInBounds u true)=[v]->tailB .any ops tl ((listed.setIfInBounds u true).setIfInBounds v true)=true->wayQ P ops Q w u v tl a2 w' ->
  Go.wpOp P ops Q u (fun a' w1=>((!tl.contains u)=true->Rg w w'->Rg w w1)/\anyP P .any ops Q (Rg w) (fun j => !tl.contains j) (tl.length+1) (listed.setIfInBounds u true) a' w1) a2 w':=by
  intro u v listed a2 w' hu hv hr ht hway
  refine (hway _ (fun a3 w3 hb3 hnext=>⟨fun _ _=>rgb hb3,?_⟩)).wpOp hu
  refine ⟨fun h1=>(by rw [hr] at h1;cases h1),fun j hj => ?_⟩
  rw [hr] at hj
  have hjv:j=v:=by simpa using hj
  subst hjv
  exact (hnext _ (fun a4 w4 hb4 hl4=>⟨fun _ _=>rgb hb4,anyP_tail tl _ a4 w4 pre2 ht hl4⟩)).wpOp hv
 refine anyP_takes (T:=fun _=>True) hsel hQ (fun _ _=>trivial) (fun _ _ => .inr (fun _=>trivial)) hS0 (fun l1 a1 hF1 inv1 h1 => ?_) tA _ a hB inv0 h
 refine anyP_takes (T:=fun w'=>∃p:Regrown,w'=grow (redrawn w p.d) p.os) hsel hQ (fun _ h=>h) (fun i hi => .inl hi) hS0 (fun l2 a2 hF2 inv2 h2 => ?_) tB l1 a1 hF1 inv1 h1
 simp only [Bool.and_eq_true,decide_eq_true_eq] at hF2
 obtain ⟨⟨⟨r0,r1⟩,r2⟩,ht⟩:=hF2
 have hb0:Below w.heap.size w { w with drawn:=w.drawn+1 }:=⟨rfl,rfl,rfl,Nat.le_refl _,fun _ _=>rfl⟩
 obtain ⟨wy1,wy2⟩:=h2 _ hb0
 refine ⟨fun h1=>(by rw [r0] at h1;cases h1),fun i hi => ?_⟩
 rw [r0] at hi
 simp only [List.mem_cons,List.not_mem_nil,or_false] at hi
 rcases hi with rfl | rfl
 ·exact one i y l2 a2 _ hx hy r1 ht wy1
 ·refine one i x l2 a2 _ hy hx r2 ?_ wy2
  rw [Array.setIfInBounds_comm _ _ hxy.symm]
  exact ht
end
end Go.Proofs.YtgfjmgebecmbiaaGreat
namespace Go.Proofs.YtgfjmgebecmbiaaGreat
open Go.RowKit Go.Sort M
section
variable {K:World->Nat->Nat->List Pl->Prop} {w w1:World} {t g:Nat} {v v':Value} {T:Tab} {m:Int}
theorem Tb.newStash (hK:BK K) (H:Tb K w t g v T) {st':List Rt} (hg:w.grownBy w1 v.ownBlock) (own1:w1.ownsRow 0 41 4 v' st'.length (rcs st')) (hat:v'.ownBlock=v.ownBlock\/∃k,v'.ownBlock=some k/\w.heap.size<=k) :
 Tb K (w1.setCell ⟨t,2,none⟩ v') t g v' { T with st:=st' }/\Touch (Blk t g v) w (w1.setCell ⟨t,2,none⟩ v')/\∀k,Blk t g v' k->k<w.heap.size->Blk t g v k:=by
 have ht1:w1.heap[t]? = w.heap[t]? := hg.block t H.tlt (fun e=>H.tv e.symm)
 have hg1:w1.heap[g]? = w.heap[g]? := hg.block g H.blt (fun e=>H.gv e.symm)
 have hb2:∀k,k≠t->(w1.setCell ⟨t,2,none⟩ v').heap[k]? = w1.heap[k]? := fun k hk=>Below.heap_setCell w1 ⟨t,2,none⟩ v' k (by simpa using hk)
 have hs2:(w1.setCell ⟨t,2,none⟩ v').heap.size=w1.heap.size:=World.size_setCell _ _ _
 have c0:=(World.cell?_of_block (a:=⟨t,0,none⟩) ht1).trans H.c0
 have c1:=(World.cell?_of_block (a:=⟨t,1,none⟩) ht1).trans H.c1
 have c2:=(World.cell?_of_block (a:=⟨t,2,none⟩) ht1).trans H.c2
 have ne:∀j,j≠2->(w1.setCell ⟨t,2,none⟩ v').cell? ⟨t,j,none⟩=w1.cell? ⟨t,j,none⟩:=fun j hj=>by
  rw [World.cell?_setCell_other]
  intro e
  injection e with _ e2
  exact hj e2.symm
 have hvt:v'.ownBlock≠some t:=by
  rcases hat with e | ⟨k,e,hk⟩
  ·rw [e];exact H.tv
  ·rw [e];intro e2;injection e2 with e2;have:=H.tlt;omega
 have hvg:v'.ownBlock≠some g:=by
  rcases hat with e | ⟨k,e,hk⟩
  ·rw [e];exact H.gv
  ·rw [e];intro e2;injection e2 with e2;have:=H.blt;omega
 refine ⟨⟨fun i hi=>hK.block (H.bk i hi) (by rw [hs2];exact hg.size) ((hb2 g (fun e=>H.tg e.symm)).trans hg1),by rw [hs2];exact Nat.lt_of_lt_of_le H.blt hg.size,by rw [hs2];exact Nat.lt_of_lt_of_le H.tlt hg.size,
  (ne 0 (by decide)).trans c0,(ne 1 (by decide)).trans c1,World.cell?_setCell_same _ _ _ c2,fun j=>by rw [World.frozen?_setCell,World.frozen?_of_block (a:=⟨t,j,none⟩) ht1];exact H.f j,
  own_block own1 (fun j e=>hb2 j (fun e2=>hvt (e2▸e))),H.tg,hvt,hvg⟩,⟨hg.os,hg.tape,hg.output,by rw [hs2];exact hg.size,fun k hk hn => ?_⟩,fun k hk hl => ?_⟩
 ·rw [hb2 k (fun e=>hn (.inl e))]
  exact hg.block k hk (fun e=>hn (.inr (.inr e.symm)))
 ·rcases hk with e | e | e
  ·exact .inl e
  ·exact .inr (.inl e)
  ·rcases hat with e2 | ⟨j,e2,hj⟩
   ·exact .inr (.inr (e2▸e))
   ·rw [e2] at e
    injection e with e
    omega
theorem CT.newStash (H:CT w t g v T m) {st':List Rt} (hg:w.grownBy w1 v.ownBlock) (own1:w1.ownsRow 0 41 4 v' st'.length (rcs st')) (hat:v'.ownBlock=v.ownBlock\/∃k,v'.ownBlock=some k/\w.heap.size<=k) :
 CT (w1.setCell ⟨t,2,none⟩ v') t g v' { T with st:=st' } m/\Touch (Blk t g v) w (w1.setCell ⟨t,2,none⟩ v')/\∀k,Blk t g v' k->k<w.heap.size->Blk t g v k:=by
 have h:=H.tb.newStash bk_bkt hg own1 hat
 have ht1:w1.heap[t]? = w.heap[t]? := hg.block t H.tb.tlt (fun e=>H.tb.tv e.symm)
 refine ⟨⟨h.1,?_⟩,h.2⟩
 rw [World.cell?_setCell_other]
 ·exact (World.cell?_of_block (a:=⟨t,3,none⟩) ht1).trans H.c3
 ·intro e
  injection e with _ e2
  exact absurd e2 (by decide)
theorem Tb.inStash (hK:BK K) (H:Tb K w t g v T) {st':List Rt} (hg:w.grownBy w1 v.ownBlock) (own1:w1.ownsRow 0 41 4 v st'.length (rcs st')):Tb K w1 t g v { T with st:=st' }/\Touch (Blk t g v) w w1:=by
 have ht1:w1.heap[t]? = w.heap[t]? := hg.block t H.tlt (fun e=>H.tv e.symm)
 have hg1:w1.heap[g]? = w.heap[g]? := hg.block g H.blt (fun e=>H.gv e.symm)
 exact ⟨⟨fun i hi=>hK.block (H.bk i hi) hg.size hg1,Nat.lt_of_lt_of_le H.blt hg.size,Nat.lt_of_lt_of_le H.tlt hg.size,(World.cell?_of_block (a:=⟨t,0,none⟩) ht1).trans H.c0,(World.cell?_of_block (a:=⟨t,1,none⟩) ht1).trans H.c1,
  (World.cell?_of_block (a:=⟨t,2,none⟩) ht1).trans H.c2,fun j=>(World.frozen?_of_block (a:=⟨t,j,none⟩) ht1).trans (H.f j),own1,H.tg,H.tv,H.gv⟩,Touch.of_grown hg (fun k e => .inr (.inr e.symm))⟩
theorem CT.inStash (H:CT w t g v T m) {st':List Rt} (hg:w.grownBy w1 v.ownBlock) (own1:w1.ownsRow 0 41 4 v st'.length (rcs st')):CT w1 t g v { T with st:=st' } m/\Touch (Blk t g v) w w1:=by
 have h:=H.tb.inStash bk_bkt hg own1
 exact ⟨⟨h.1,(World.cell?_of_block (a:=⟨t,3,none⟩) (hg.block t H.tb.tlt (fun e=>H.tb.tv e.symm))).trans H.c3⟩,h.2⟩
theorem CT.count (H:CT w t g v T m) (m':Int):CT (w.setCell ⟨t,3,none⟩ (.int .i64 m')) t g v T m'/\Touch (Blk t g v) w (w.setCell ⟨t,3,none⟩ (.int .i64 m')):=by
 have hb2:∀k,k≠t->(w.setCell ⟨t,3,none⟩ (.int .i64 m')).heap[k]? = w.heap[k]? := fun k hk=>Below.heap_setCell w ⟨t,3,none⟩ _ k (by simpa using hk)
 have hs2:(w.setCell ⟨t,3,none⟩ (.int .i64 m')).heap.size=w.heap.size:=World.size_setCell _ _ _
 have ne:∀j,j≠3->(w.setCell ⟨t,3,none⟩ (.int .i64 m')).cell? ⟨t,j,none⟩=w.cell? ⟨t,j,none⟩:=fun j hj=>by
  rw [World.cell?_setCell_other]
  intro e
  injection e with _ e2
  exact hj e2.symm
 have B:=H.tb
 exact ⟨⟨⟨fun i hi=>bk_bkt.block (B.bk i hi) (by rw [hs2];exact Nat.le_refl _) (hb2 g (fun e=>B.tg e.symm)),by rw [hs2];exact B.blt,by rw [hs2];exact B.tlt,(ne 0 (by decide)).trans B.c0,(ne 1 (by decide)).trans B.c1,(ne 2 (by decide)).trans B.c2,fun j=>by rw [World.frozen?_setCell];exact B.f j,
  own_block B.own (fun j e=>hb2 j (fun e2=>B.tv (e2▸e))),B.tg,B.tv,B.gv⟩,World.cell?_setCell_same _ _ _ H.c3⟩,⟨rfl,rfl,rfl,by rw [hs2];exact Nat.le_refl _,fun k _ hn=>hb2 k (fun e=>hn (.inl e))⟩⟩
end
theorem rcs_hop:∀(L:List Rt) (i:Nat) (h:i<L.length) (x:Int),(rcs L).set (i*4+3) (.int .i64 x)=rcs (L.set i ⟨L[i].k,x⟩)
 | a::L,0,_,x=>by
  show (rcell a++rcs L).set 3 _=rcell ⟨a.k,x⟩++rcs L
  rfl
 | a::L,i+1,h,x=>by
  have ih:=rcs_hop L i (by simpa using h) x
  show (rcell a++rcs L).set ((i+1)*4+3) _=rcell a++rcs (L.set i ⟨(L[i]'(by simpa using h)).k,x⟩)
  rw [List.set_append_right _ _ (by simp [rcell];omega),show (i+1)*4+3-(rcell a).length=i*4+3 by simp [rcell];omega,ih]
theorem put_of_get {C:List Pl} {k:Ky} {v:Int} (h:(getC C k).isSome=true):(putC C k v).isSome=true:=by
 obtain ⟨i,hi,e,-⟩:=getC_some h
 rw [putC_hit e];rfl
set_option maxHeartbeats 1000000 in
set_option maxRecDepth 100000 in
theorem get11_any (g o:Nat) (C:List Pl) (k:Ky) (w:World) (H:Bkt w g o C) :
 Calls Tryz.prog 92 #[.pointer (some ⟨g,o,none⟩),kyV k] w fun e w'=>e = .returned (.tuple #[.int .i64 ((getC C k).getD 0),.bool (getC C k).isSome])/\Below w.heap.size w w':=by
 have HF:=Lib.hid (fun w H=>find_any g o C k w H)
 have HH:=Lib.hid H
 have h4:=H.four
 rcases idx_cases (hasK k) C with ⟨i,hi,h1,h2,h3⟩ | ⟨h1,h2⟩
 ·rw [getC_hit hi h1 h3]
  rw [h2] at HF
  clear h1 h2 h3 H
  have hi4:i<4:=by omega
  unfold kyV at *
  go_enter Tryz.func92,Tryz.ntmps92
  go_wp2_with fail
  refine (HF.out _ (HH.out.below (by go_grown))).mono ?_
  rintro e w1 ⟨rfl,hb1⟩
  have hw1:Below w.heap.size w w1:=Below.trans (by go_grown) (hb1.mono (by go_size))
  obtain ⟨c0,c1,c2,c3,c4⟩:=(HH.out.below hw1).at i hi
  have hz1:=hw1.size
  have hl:=HH.out.lt
  clear hb1
  go_wp2
  go_ret2
  exact ⟨rfl,by go_grown⟩
 ·rw [getC_miss h1]
  rw [h2] at HF
  clear h1 h2 H
  unfold kyV at *
  go_enter Tryz.func92,Tryz.ntmps92
  go_wp2_with fail
  refine (HF.out _ (HH.out.below (by go_grown))).mono ?_
  rintro e w1 ⟨rfl,hb1⟩
  have hw1:Below w.heap.size w w1:=Below.trans (by go_grown) (hb1.mono (by go_size))
  clear hb1
  go_wp2
  go_ret2
  exact ⟨rfl,by go_grown⟩
set_option maxHeartbeats 1000000 in
set_option maxRecDepth 100000 in
theorem take11_any (g o:Nat) (C:List Pl) (k:Ky) (w:World) (H:Bkt w g o C) :
 Calls Tryz.prog 127 #[.pointer (some ⟨g,o,none⟩),kyV k] w fun e w'=>e = .returned (.bool (takeC C k).isSome)/\Bkt w' g o ((takeC C k).getD C)/\Turn w w' g o 20:=by
 have HF:=Lib.hid (fun w H=>find_any g o C k w H)
 have HH:=Lib.hid H
 have h4:=H.four
 rcases idx_cases (hasK k) C with ⟨i,hi,h1,h2,h3⟩ | ⟨h1,h2⟩
 ·rw [show takeC C k=some (C.set i none) by unfold takeC;rw [h1]]
  rw [h2] at HF
  clear h1 h2 h3 H
  have hi4:i<4:=by omega
  unfold kyV at *
  go_enter Tryz.func127,Tryz.ntmps127
  go_wp2_with fail
  refine (HF.out _ (HH.out.below (by go_grown))).mono ?_
  rintro e w1 ⟨rfl,hb1⟩
  have hw1:Below w.heap.size w w1:=Below.trans (by go_grown) (hb1.mono (by go_size))
  have H1:=HH.out.below hw1
  obtain ⟨c0,c1,c2,c3,c4⟩:=H1.at i hi
  have f0:=H1.free (i*5) (by omega)
  have f1:=H1.free (i*5+1) (by omega)
  have f2:=H1.free (i*5+2) (by omega)
  have f3:=H1.free (i*5+3) (by omega)
  have f4:=H1.free (i*5+4) (by omega)
  have hz1:=hw1.size
  have hl:=HH.out.lt
  simp only [<-Nat.add_assoc] at f1 f2 f3 f4
  clear hb1 H1
  go_wp2
  go_ret
  have hP:=(HH.out.below hw1).put i hi none
  exact ⟨rfl,hP.1,(Turn.of_below hl hw1).trans hP.2⟩
 ·rw [show takeC C k=none by unfold takeC;rw [h1]]
  rw [h2] at HF
  clear h1 h2 H
  unfold kyV at *
  go_enter Tryz.func127,Tryz.ntmps127
  go_wp2_with fail
  refine (HF.out _ (HH.out.below (by go_grown))).mono ?_
  rintro e w1 ⟨rfl,hb1⟩
  have hw1:Below w.heap.size w w1:=Below.trans (by go_grown) (hb1.mono (by go_size))
  have hl:=HH.out.lt
  clear hb1
  go_wp2
  go_ret
  exact ⟨rfl,HH.out.below hw1,Turn.of_below hl hw1⟩
set_option maxHeartbeats 1000000 in
set_option maxRecDepth 100000 in
theorem put11_any (g o:Nat) (C:List Pl) (k:Ky) (v:Int) (w:World) (H:Bkt w g o C) :
 Calls Tryz.prog 133 #[.pointer (some ⟨g,o,none⟩),kyV k,.int .i64 v] w fun e w'=>e = .returned (.bool (putC C k v).isSome)/\Bkt w' g o ((putC C k v).getD C)/\Turn w w' g o 20:=by
 have HF:=Lib.hid (fun w H=>find_any g o C k w H)
 have HE:=Lib.hid (fun w H=>empty_any g o C w H)
 have HH:=Lib.hid H
 have h4:=H.four
 rcases idx_cases (hasK k) C with ⟨i,hi,h1,h2,h3⟩ | ⟨h1,h2⟩
 ·rw [show putC C k v=some (C.set i (some ⟨k,v⟩)) by unfold putC;rw [h1]]
  rw [h2] at HF
  clear h1 h2 h3 H HE
  have hi4:i<4:=by omega
  unfold kyV at *
  go_enter Tryz.func133,Tryz.ntmps133
  go_wp2_with fail
  refine (HF.out _ (HH.out.below (by go_grown))).mono ?_
  rintro e w1 ⟨rfl,hb1⟩
  have hw1:Below w.heap.size w w1:=Below.trans (by go_grown) (hb1.mono (by go_size))
  have b0:w1.cell? ⟨w.heap.size,0,none⟩=some (.int .u64 (k.h:Int)):=by
   rw [hb1.cell (by simp<;>omega)]
   first|assumption|(simp [go_sem];done)|(simp [go_sem, *];done)
  have b1:w1.cell? ⟨w.heap.size,1,none⟩=some (.int .u64 (k.l:Int)):=by
   rw [hb1.cell (by simp<;>omega)]
   first|assumption|(simp [go_sem];done)|(simp [go_sem, *];done)
  have b2:w1.cell? ⟨w.heap.size,2,none⟩=some (.int .i64 k.n):=by
   rw [hb1.cell (by simp<;>omega)]
   first|assumption|(simp [go_sem];done)|(simp [go_sem, *];done)
  have H1:=HH.out.below hw1
  obtain ⟨c0,c1,c2,c3,c4⟩:=H1.at i hi
  have f0:=H1.free (i*5) (by omega)
  have f1:=H1.free (i*5+1) (by omega)
  have f2:=H1.free (i*5+2) (by omega)
  have f3:=H1.free (i*5+3) (by omega)
  have f4:=H1.free (i*5+4) (by omega)
  have hz1:=hw1.size
  have hl:=HH.out.lt
  simp only [<-Nat.add_assoc] at f1 f2 f3 f4
  clear hb1 H1
  go_wp2_with fail
  go_region
  go_wp2
  go_ret
  have hP:=HH.out.put_drew hw1 i hi (some ⟨k,v⟩)
  exact ⟨rfl,hP.1,hP.2⟩
 ·rcases idx_cases Option.isNone C with ⟨i,hi,h5,h6,h7⟩ | ⟨h5,h6⟩
  ·rw [show putC C k v=some (C.set i (some ⟨k,v⟩)) by unfold putC;rw [h1];simp only;rw [h5]]
   rw [h2] at HF
   rw [h6] at HE
   clear h1 h2 h5 h6 h7 H
   have hi4:i<4:=by omega
   unfold kyV at *
   go_enter Tryz.func133,Tryz.ntmps133
   go_wp2_with fail
   refine (HF.out _ (HH.out.below (by go_grown))).mono ?_
   rintro e w2 ⟨rfl,hb2⟩
   have hw2:Below w.heap.size w w2:=Below.trans (by go_grown) (hb2.mono (by go_size))
   have d0:w2.cell? ⟨w.heap.size,0,none⟩=some (.int .u64 (k.h:Int)):=by
    rw [hb2.cell (by simp<;>omega)]
    first|assumption|(simp [go_sem];done)|(simp [go_sem, *];done)
   have d1:w2.cell? ⟨w.heap.size,1,none⟩=some (.int .u64 (k.l:Int)):=by
    rw [hb2.cell (by simp<;>omega)]
    first|assumption|(simp [go_sem];done)|(simp [go_sem, *];done)
   have d2:w2.cell? ⟨w.heap.size,2,none⟩=some (.int .i64 k.n):=by
    rw [hb2.cell (by simp<;>omega)]
    first|assumption|(simp [go_sem];done)|(simp [go_sem, *];done)
   have hz2:w.heap.size<w2.heap.size:=by
    have hs:=hb2.size
    try simp only [World.size_alloc,World.size_setCell] at hs
    omega
   clear hb2
   go_wp2_with fail
   refine (HE.out _ (HH.out.below hw2)).mono ?_
   rintro e w1 ⟨rfl,hb1⟩
   have hw1:=hw2.trans (hb1.mono hw2.size)
   have b0:=(hb1.cell (p:=⟨w.heap.size,0,none⟩) hz2).trans d0
   have b1:=(hb1.cell (p:=⟨w.heap.size,1,none⟩) hz2).trans d1
   have b2:=(hb1.cell (p:=⟨w.heap.size,2,none⟩) hz2).trans d2
   have hz3:=Nat.lt_of_lt_of_le hz2 hb1.size
   clear d0 d1 d2 hw2 hz2 hb1
   have H1:=HH.out.below hw1
   obtain ⟨c0,c1,c2,c3,c4⟩:=H1.at i hi
   have f0:=H1.free (i*5) (by omega)
   have f1:=H1.free (i*5+1) (by omega)
   have f2:=H1.free (i*5+2) (by omega)
   have f3:=H1.free (i*5+3) (by omega)
   have f4:=H1.free (i*5+4) (by omega)
   have hz1:=hw1.size
   have hl:=HH.out.lt
   simp only [<-Nat.add_assoc] at f1 f2 f3 f4
   clear H1
   go_wp2_with fail
   go_region
   go_wp2
   go_ret
   have hP:=HH.out.put_drew hw1 i hi (some ⟨k,v⟩)
   exact ⟨rfl,hP.1,hP.2⟩
  ·rw [show putC C k v=none by unfold putC;rw [h1];simp only;rw [h5]]
   rw [h2] at HF
   rw [h6] at HE
   clear h1 h2 h5 h6 H
   unfold kyV at *
   go_enter Tryz.func133,Tryz.ntmps133
   go_wp2_with fail
   refine (HF.out _ (HH.out.below (by go_grown))).mono ?_
   rintro e w2 ⟨rfl,hb2⟩
   have hw2:Below w.heap.size w w2:=Below.trans (by go_grown) (hb2.mono (by go_size))
   clear hb2
   go_wp2_with fail
   refine (HE.out _ (HH.out.below hw2)).mono ?_
   rintro e w1 ⟨rfl,hb1⟩
   have hw1:=hw2.trans (hb1.mono hw2.size)
   have hl:=HH.out.lt
   clear hb1
   go_wp2
   go_ret
   exact ⟨rfl,HH.out.below hw1,Turn.of_below hl hw1⟩
end Go.Proofs.YtgfjmgebecmbiaaGreat
namespace Go.Proofs.YtgfjmgebecmbiaaGreat
open Go Go.RowKit Go.Sort
section
variable {P:Program} {ops:Array Oper} {md:Region.Mode} {C:World->Prop} {Q:Exit->Act->World->Prop} {S:World->Prop} {pre:Nat->Bool}
def stillC (o:Oper):Bool:=
 stillB o||match o.op with
 | .build _ _=>true
 | _=>false
theorem still_valueC {o:Oper} (hs:stillC o=true) {a:Act} {w:World} {v:Value} (h:Oper.quietUpon P C w v ((execOp a.eval o).run P w)):(execOp a.eval o).run P w = .ok (.value v) w:=by
 unfold stillC at hs
 rw [Bool.or_eq_true] at hs
 rcases hs with hs | hs
 ·exact still_value hs h
 have key:∀n w',(execOp a.eval o).run P w = .ok n w'->∃u,n = .value u:=by
  intro n w' hr
  unfold execOp at hr
  split at hs
  ·rename_i he
   simp only [he] at hr
   exact value_only _ w n w' hr
  ·cases hs
 generalize (execOp a.eval o).run P w=r at h key
 cases r with
 | ok n w'=>
  obtain ⟨u,rfl⟩:=key n w' rfl
  obtain ⟨rfl,rfl⟩:=h
  rfl
 | halt x w'=>exact h.elim
def takeD (md:Region.Mode) (ops:Array Oper) (ok:Nat->Bool) (F:Array Bool->Bool):List Nat->Array Bool->Bool
 | [],listed=>F listed
 | i::t,listed=>(Region.ready md ops listed).contains i&&Region.free md ops listed i&&ok i&&((ops[i]?).map stillC).getD false&&takeD md ops ok F t (listed.setIfInBounds i true)
theorem anyP_takesC {T:World->Prop} {F:Array Bool->Bool} {ok:Nat->Bool} {Lq:Act->Prop} {g:Nat} {w:World} (hsel:Region.noSelect ops=true) (hQ:∀c a w,Q (.panic c) a w->False) (hST:∀w,S w->T w) (hok:∀i,ok i=true->(laterB md ops pre i=true\/∀w,T w)) (hS:S w)
 (hL:∀listed a,F listed=true->HeadInv md ops ops.size listed->Lq a->anyP P md ops Q S pre g listed a w) :
 ∀(t:List Nat) (listed:Array Bool) (a:Act),takeD md ops ok F t listed=true->HeadInv md ops ops.size listed->wpQuiet P ops T Lq (pickL ops t) a->anyP P md ops Q S pre (t.length+g) listed a w
 | [],listed,a,hB,inv,h=>by rw [List.length_nil,Nat.zero_add];exact hL listed a hB inv h
 | i::t,listed,a,hB,inv,h=>by
  simp only [takeD,Bool.and_eq_true] at hB
  obtain ⟨⟨⟨⟨hr,hf⟩,ho⟩,hst⟩,hB'⟩:=hB
  have hr':i∈Region.ready md ops listed:=by simpa using hr
  obtain ⟨_,oi,hoi,_⟩:=mem_ready.1 hr'
  rw [hoi] at hst
  simp only [Option.map_some,Option.getD_some] at hst
  have hp:pickL ops (i::t)=oi::pickL ops t:=by unfold pickL;rw [List.filterMap_cons,hoi]
  rw [hp] at h
  have hq:qOp P ops T i (wpQuiet P ops T Lq (pickL ops t)) a:=by unfold qOp;simp only [hoi];exact h
  obtain ⟨v,hy,hK⟩:=yieldsIn_of_qOp hoi hq
  have hy':YieldsIf P ops T oi v a:=hy.imp (fun ⟨hw,hv⟩=>⟨hw,fun w hw2=>still_valueC hst (hv w hw2)⟩) id
  rw [List.length_cons,show t.length+1+g=(t.length+g)+1 by omega]
  exact anyP_first hoi (Region.noSelect_spec hsel) hQ hST (fun j l1 inv1 hun hj hne=>(hok i ho).imp (fun hl=>later_spec hl j l1 inv1 hun hj hne) id) _ listed a w inv (Region.free_spec hoi hf) hr' hy' (.inl hS)
   (anyP_takesC hsel hQ hST hok hS hL t _ _ hB' (inv_set inv hr') hK)
def oneB (ops:Array Oper) (tA tB tl:List Nat):Bool:=
 decide (ops.size=tA.length+(tB.length+tl.length)) &&
 takeD .any ops (fun _=>true) (fun l1=>takeD .any ops (fun i=>laterB .any ops (fun j => !tl.contains j) i) (fun l2=>tailB .any ops tl l2) tB l1) tA (Array.replicate ops.size false)
theorem region_one {id:Nat} {a:Act} {w:World} {l:List Oper} (tA tB tl:List Nat) (hm:P.follows .mixedOrders=true) (hQ:∀c a w,Q (.panic c) a w->False) (hsel:Region.noSelect l.toArray=true) (hB:oneB l.toArray tA tB tl=true)
 (h:wpQuiet P l.toArray (fun _=>True) (fun a1=>wpQuiet P l.toArray (fun w'=>∃p:Regrown,w'=grow (redrawn w p.d) p.os) (fun a2=>∀w',Below w.heap.size w w'->wpList P l.toArray Q (pickL l.toArray tl) a2 w') (pickL l.toArray tB) a1) (pickL l.toArray tA) a) :
 (Code.region id l.toArray true).wp P Q a w:=by
 generalize l.toArray=ops at *
 simp only [oneB,Bool.and_eq_true,decide_eq_true_eq] at hB
 obtain ⟨hsz,hB⟩:=hB
 refine wp_region_any hm ?_
 have inv0:HeadInv .any ops ops.size (Array.replicate ops.size false):=
  ⟨by simp,fun j oj _ hl=>(by rw [getD_replicate_false] at hl;cases hl),fun t h1 h2=>absurd h2 (by omega)⟩
 have hS0:Rg w { w with drawn:=w.drawn+1 }:=⟨⟨w.drawn+1,#[]⟩,by rw [grow_empty];rfl⟩
 have pre2:∀i∈tl,(!tl.contains i)=false:=fun i hi=>by simp [hi]
 refine wpAny_of_anyP (S:=Rg w) (pre:=fun j => !tl.contains j) _ _ _ _ ?_
 suffices hh:anyP P .any ops Q (Rg w) (fun j => !tl.contains j) (tA.length+(tB.length+tl.length)) (Array.replicate ops.size false) a { w with drawn:=w.drawn+1 } by
  rw [<-hsz] at hh
  exact hh
 refine anyP_takesC (T:=fun _=>True) hsel hQ (fun _ _=>trivial) (fun _ _ => .inr (fun _=>trivial)) hS0 (fun l1 a1 hF1 inv1 h1 => ?_) tA _ a hB inv0 h
 refine anyP_takesC (T:=fun w'=>∃p:Regrown,w'=grow (redrawn w p.d) p.os) hsel hQ (fun _ h=>h) (fun i hi => .inl hi) hS0 (fun l2 a2 hF2 inv2 h2 => ?_) tB l1 a1 hF1 inv1 h1
 have hb0:Below w.heap.size w { w with drawn:=w.drawn+1 }:=⟨rfl,rfl,rfl,Nat.le_refl _,fun _ _=>rfl⟩
 exact anyP_tail tl _ a2 _ pre2 hF2 (h2 _ hb0)
end
section
variable {P:Program} {ops:Array Oper} {md:Region.Mode} {C:World->Prop} {Q:Exit->Act->World->Prop} {S:World->Prop} {pre:Nat->Bool}
def chainTailB (ops:Array Oper) (tl:List Nat):List Nat->Array Bool->Bool
 | [],listed=>tailB .any ops tl listed
 | x::xs,listed=>decide (Region.ready .any ops listed=[x])&&(ops[x]?).isSome&&chainTailB ops tl xs (listed.setIfInBounds x true)
def rowB (ops:Array Oper) (tA tB xs tl:List Nat):Bool:=
 decide (ops.size=tA.length+(tB.length+(xs.length+tl.length))) &&
 takeD .any ops (fun _=>true) (fun l1=>takeD .any ops (fun i=>laterB .any ops (fun j => !tl.contains j) i) (fun l2=>chainTailB ops tl xs l2) tB l1) tA (Array.replicate ops.size false)
end
end Go.Proofs.YtgfjmgebecmbiaaGreat

/-
  One statement whose order is open, with many operations that lay new memory, or are guarded: as the rule of Reg8, but what is asked of the order is asked once for each pair of operations, not along each order: so that there may be twenty of them. No condition but those that stand in each.
-/
import Derived.Test.YtgfjmgebecmbiaaGreatReg6
set_option linter.unusedSimpArgs false
set_option linter.unusedVariables false
namespace Go.Proofs.YtgfjmgebecmbiaaGreat
open Go Go.RowKit Go.Sort
section
variable {P:Program} {ops:Array Oper} {Q:Exit->Act->World->Prop} {S:World->Prop} {pre:Nat->Bool}
def dstN (ops:Array Oper) (i:Nat):Option Tmp:=(ops[i]?).bind (·.dst)
def actOf (ops:Array Oper) (vals:Nat->Value):List Nat->Act->Act
 | [],a=>a
 | j::L,a=>actOf ops vals L (a.put (dstN ops j) (vals j))
theorem actOf_snoc (vals:Nat->Value) (i:Nat):∀(L:List Nat) (a:Act),actOf ops vals (L++[i]) a=(actOf ops vals L a).put (dstN ops i) (vals i)
 | [],_=>rfl
 | j::L,a=>by rw [List.cons_append,actOf,actOf_snoc vals i L];rfl
theorem put_size (a:Act) (d:Option Tmp) (v:Value):(a.put d v).tmps.size=a.tmps.size:=by
 cases d with
 | none=>rfl
 | some d=>simp [Act.put]
theorem actOf_size (vals:Nat->Value):∀(L:List Nat) (a:Act),(actOf ops vals L a).tmps.size=a.tmps.size
 | [],_=>rfl
 | j::L,a=>by rw [actOf,actOf_size vals L,put_size]
theorem actOf_congr {u v:Nat->Value}:∀(L:List Nat) (a:Act),(∀j∈L,u j=v j)->actOf ops u L a=actOf ops v L a
 | [],_,_=>rfl
 | j::L,a,h=>by rw [actOf,actOf,h j List.mem_cons_self,actOf_congr L _ fun k hk=>h k (List.mem_cons_of_mem _ hk)]
theorem put_comm (a:Act) (d e:Tmp) (u v:Value) (h:d≠e):(a.put (some d) u).put (some e) v=(a.put (some e) v).put (some d) u:=by
 simp only [Act.put]
 rw [Array.setIfInBounds_comm _ _ h]
theorem actOf_perm (vals:Nat->Value) (hd:∀i j d,dstN ops i=some d->dstN ops j=some d->i=j) {L M:List Nat} (h:L.Perm M):∀a:Act,actOf ops vals L a=actOf ops vals M a:=by
 induction h with
 | nil=>intro a;rfl
 | cons x _ ih=>intro a;exact ih _
 | swap x y l=>
  intro a
  show actOf ops vals l ((a.put (dstN ops y) (vals y)).put (dstN ops x) (vals x))=actOf ops vals l ((a.put (dstN ops x) (vals x)).put (dstN ops y) (vals y))
  by_cases hxy:x=y
  ·subst hxy;rfl
  ·congr 1
   cases hx:dstN ops x with
   | none=>rfl
   | some d=>
    cases hy:dstN ops y with
    | none=>rfl
    | some e=>exact put_comm a e d _ _ (fun h=>hxy (hd x y d hx (by rw [hy,h])))
 | trans _ _ ih1 ih2=>intro a;rw [ih1,ih2]
theorem eval_put_same (a:Act) (d:Tmp) (v:Value) (h:d<a.tmps.size):(a.put (some d) v).eval (.tmp d)=v:=by
 simp [Act.put,Act.eval,Array.getD_eq_getD_getElem?,h]
theorem actOf_far (vals:Nat->Value) (x:Operand):∀(L:List Nat) (a:Act),(∀j∈L,∀d,dstN ops j=some d->x ≠ .tmp d)->(actOf ops vals L a).eval x=a.eval x
 | [],_,_=>rfl
 | j::L,a,h=>by
  rw [actOf,actOf_far vals x L _ fun k hk=>h k (List.mem_cons_of_mem _ hk)]
  exact Act.eval_put fun d hd=>h j List.mem_cons_self d hd
theorem actOf_at (vals:Nat->Value) (hd:∀i j d,dstN ops i=some d->dstN ops j=some d->i=j) (i:Nat) (d:Tmp) (hi:dstN ops i=some d):∀(L:List Nat) (a:Act),i∈L->d<a.tmps.size->(actOf ops vals L a).eval (.tmp d)=vals i
 | j::L,a,h,hs=>by
  rw [actOf]
  by_cases hL:i∈L
  ·exact actOf_at vals hd i d hi L _ hL (by rw [put_size];exact hs)
  ·have hj:i=j:=by
    rcases List.mem_cons.1 h with h | h
    ·exact h
    ·exact absurd h hL
   subst hj
   rw [actOf_far vals (.tmp d) L _ (fun k hk e he heq=>by
    injection heq with heq
    subst heq
    exact hL (by rw [hd i k d hi he];exact hk)),hi]
   exact eval_put_same a d _ hs
def depOf (ops:Array Oper) (R:List Nat) (i:Nat):List Nat:=R.filter fun j=>match dstN ops j,ops[i]? with
 | some d,some o=>(o.looksAt ops).contains d
 | _,_=>false
theorem put_inj {a:Act} {d:Tmp} {u v:Value} (hd:d<a.tmps.size) (h:a.put (some d) u=a.put (some d) v):u=v:=by
 have:=eval_put_same a d u hd
 rw [h,eval_put_same a d v hd] at this
 exact this.symm
theorem yielded_eval (a:Act) (g:Nat):yielded ops a.tmps g=match dstN ops g with
 | some t=>(match a.eval (.tmp t) with | .bool b=>some b | _=>none)
 | none=>none:=by
 unfold yielded dstN
 cases (ops[g]?).bind (·.dst) with
 | none=>rfl
 | some t=>
  show (match a.tmps[t]? with | some (.bool b)=>some b | _=>none)=match a.tmps.getD t undef with | .bool b=>some b | _=>none
  rw [Array.getD_eq_getD_getElem?]
  cases a.tmps[t]? with
  | none=>rfl
  | some v=>cases v<;>rfl
theorem wanted_agree {o:Oper} {a b:Act} (h:∀d∈o.looksAt ops,a.eval (.tmp d)=b.eval (.tmp d)):Region.wanted o (yielded ops a.tmps)=Region.wanted o (yielded ops b.tmps):=by
 unfold Region.wanted
 cases hg:o.guard with
 | none=>rfl
 | some gw=>
  obtain ⟨g,want⟩:=gw
  have hy:yielded ops a.tmps g=yielded ops b.tmps g:=by
   rw [yielded_eval,yielded_eval]
   cases hd:dstN ops g with
   | none=>rfl
   | some t=>
    simp only
    rw [h t (by
     unfold Oper.looksAt
     rw [hg]
     refine List.mem_append_right _ ?_
     show t∈((ops[g]?).bind (·.dst)).toList
     unfold dstN at hd
     rw [hd]
     simp)]
  simp only [hy]
theorem oneOp_swap {i:Nat} {o:Oper} {d:Tmp} {a b:Act} {w:World} {G:Value->World->Prop} (ho:ops[i]? = some o) (hsel:∀cs b,o.op ≠ .select cs b) (hd:o.dst=some d) (hdb:d<b.tmps.size)
 (hl:∀d∈o.looksAt ops,a.eval (.tmp d)=b.eval (.tmp d)) (hQ:∀c a w,Q (.panic c) a w->False) (h:oneOp P ops Q i (fun a3 w3=>∃v,a3=b.put o.dst v/\G v w3) b w):oneOp P ops Q i (fun a3 w3=>∃v,a3=a.put o.dst v/\G v w3) a w:=by
 intro o' ho'
 obtain rfl:o=o':=by rw [ho] at ho';injection ho'
 have h:=h o ho
 have he:∀x∈o.op.operands,a.eval x=b.eval x:=fun x hx=>by
  cases x with
  | tmp t=>exact hl t (List.mem_append_left _ (List.mem_filterMap.2 ⟨.tmp t,by simpa using hx,rfl⟩))
  | _=>rfl
 rw [wanted_agree hl]
 by_cases hw:Region.wanted o (yielded ops b.tmps)=true
 case neg=>
  rw [if_neg hw] at h ⊢
  obtain ⟨u,h1,h2⟩:=h
  rw [hd] at h1 ⊢
  exact ⟨undef,rfl,by rw [put_inj hdb h1];exact h2⟩
 rw [if_pos hw] at h ⊢
 unfold Oper.wp at *
 rw [execOp_congr o hsel he]
 rw [hd] at h ⊢
 have inj:∀{u v:Value},b.put (some d) u=b.put (some d) v->u=v:=fun h=>put_inj hdb h
 generalize (execOp b.eval o).run P w=r at h
 cases r with
 | ok n w'=>
  cases n with
  | value v=>
   rw [Oper.upon_value] at h ⊢
   obtain ⟨u,h1,h2⟩:=h
   rw [hd] at h1 ⊢
   exact ⟨v,rfl,by rw [inj h1];exact h2⟩
  | skip=>
   rw [Oper.upon_skip] at h ⊢
   obtain ⟨u,h1,h2⟩:=h
   rw [hd] at h1 ⊢
   exact ⟨undef,rfl,by rw [inj h1];exact h2⟩
  | defer x=>
   rw [Oper.upon_defer] at h
   obtain ⟨u,h1,-⟩:=h
   exfalso
   rw [hd] at h1
   have:=congrArg (fun a:Act=>a.defers.length) h1
   simp [Act.put] at this
  | enter f args=>
   rw [Oper.upon_enter] at h ⊢
   refine h.mono ?_
   intro e w'' he
   cases e with
   | returned v=>
    obtain ⟨u,h1,h2⟩:=he
    rw [hd] at h1 ⊢
    exact ⟨v,rfl,by rw [inj h1];exact h2⟩
   | panicked c=>exact (hQ _ _ _ he).elim
   | outgrown=>exact he
  | row row args=>
   rw [Oper.upon_row] at h ⊢
   refine h.mono ?_
   intro v w'' he
   obtain ⟨u,h1,h2⟩:=he
   rw [hd] at h1 ⊢
   exact ⟨v,rfl,by rw [inj h1];exact h2⟩
  | _=>exact h.elim
 | halt x w'=>
  cases x with
  | panic v=>exact (hQ _ _ _ h).elim
  | _=>exact h.elim
def dstB (ops:Array Oper):Bool:=(List.range ops.size).all fun i=>(List.range ops.size).all fun j=>decide (i=j)||(dstN ops i).isNone||decide (dstN ops i≠dstN ops j)
theorem dstB_spec (h:dstB ops=true):∀i j d,dstN ops i=some d->dstN ops j=some d->i=j:=by
 intro i j d hi hj
 have lt:∀k,dstN ops k=some d->k<ops.size:=fun k hk=>by
  unfold dstN at hk
  by_cases h:k<ops.size
  ·exact h
  ·rw [Array.getElem?_eq_none (by omega)] at hk;cases hk
 simp only [dstB,List.all_eq_true,List.mem_range,Bool.or_eq_true,decide_eq_true_eq,Option.isNone_iff_eq_none] at h
 rcases h i (lt i hi) j (lt j hj) with (h | h) | h
 ·exact h
 ·rw [hi] at h;cases h
 ·exact absurd (hi.trans hj.symm) h
def okR (ops:Array Oper) (R:List Nat):Bool:=decide R.Nodup&&R.all fun i=>match ops[i]? with
 | some o=>o.dst.isSome
 | none=>false
def freeB (ops:Array Oper) (R tl:List Nat):Nat->Array Bool->Bool
 | 0,listed=>R.all (fun i=>listed.getD i false)&&tailB .any ops tl listed
 | f+1,listed => !(Region.ready .any ops listed).isEmpty&&(Region.ready .any ops listed).all fun i=>R.contains i&&(depOf ops R i).all (fun j=>listed.getD j false)&&freeB ops R tl f (listed.setIfInBounds i true)
structure FreeQ (P:Program) (ops:Array Oper) (Q:Exit->Act->World->Prop) (w:World) (R tl:List Nat) (D:Nat->Value->World->Prop) (a:Act):Prop where
 size:∀i∈R,∀d,dstN ops i=some d->d<a.tmps.size
 step:∀i∈R,∀(vals:Nat->Value) (W:World),Below w.heap.size w W->(∀j∈depOf ops R i,D j (vals j) W)->∀K:Act->World->Prop,
  (∀v W',Below W.heap.size W W'->D i v W'->K ((actOf ops vals (depOf ops R i) a).put (dstN ops i) v) W')->oneOp P ops Q i K (actOf ops vals (depOf ops R i) a) W
 last:∀(vals:Nat->Value) (W:World),Below w.heap.size w W->(∀j∈R,D j (vals j) W)->wpList P ops Q (pickL ops tl) (actOf ops vals R a) W
theorem anyP_free {w:World} {R tl:List Nat} {D:Nat->Value->World->Prop} {a0:Act} (hsel:Region.noSelect ops=true) (hQ:∀c a w,Q (.panic c) a w->False) (hd:∀i j d,dstN ops i=some d->dstN ops j=some d->i=j)
 (hR:okR ops R=true) (pre2:∀i∈tl,pre i=false) (rgb:∀{w'},Below w.heap.size w w'->S w') (hst:∀i v W W',Below W.heap.size W W'->D i v W->D i v W') (hF:FreeQ P ops Q w R tl D a0) :
 ∀(f:Nat) (done:List Nat) (vals:Nat->Value) (listed:Array Bool) (W:World),R.length=done.length+f->done.Nodup->(∀j∈done,j∈R)->HeadInv .any ops ops.size listed->(∀j∈R,listed.getD j false=true->j∈done)->(∀j∈done,listed.getD j false=true) ->
  Below w.heap.size w W->(∀j∈done,D j (vals j) W)->freeB ops R tl f listed=true->anyP P .any ops Q S pre (f+tl.length) listed (actOf ops vals done a0) W:=by
 have hRn:R.Nodup:=by
  simp only [okR,Bool.and_eq_true,decide_eq_true_eq] at hR
  exact hR.1
 have hRo:∀i∈R,∃o d,ops[i]? = some o/\o.dst=some d:=by
  intro i hi
  simp only [okR,Bool.and_eq_true,List.all_eq_true] at hR
  have:=hR.2 i hi
  cases ho:ops[i]? with
  | none=>rw [ho] at this;cases this
  | some o=>
   rw [ho] at this
   obtain ⟨d,hdd⟩:=Option.isSome_iff_exists.1 this
   exact ⟨o,d,rfl,hdd⟩
 intro f
 induction f with
 | zero=>
  intro done vals listed W hlen hnd hin inv hall hdl hb hD hB
  simp only [freeB,Bool.and_eq_true,List.all_eq_true] at hB
  have hp:done.Perm R:=(List.perm_ext_iff_of_nodup hnd hRn).2 fun j=>⟨hin j,fun hj=>hall j hj (hB.1 j hj)⟩
  rw [Nat.zero_add,actOf_perm vals hd hp a0]
  exact anyP_tail tl listed _ W pre2 hB.2 (hF.last vals W hb fun j hj=>hD j (hp.mem_iff.2 hj))
 | succ f ih=>
  intro done vals listed W hlen hnd hin inv hall hdl hb hD hB
  simp only [freeB,Bool.and_eq_true,List.all_eq_true,Bool.not_eq_true',List.isEmpty_eq_false_iff] at hB
  rw [show f+1+tl.length=(f+tl.length)+1 by omega]
  refine ⟨fun h1=>absurd h1 hB.1,fun i hi => ?_⟩
  obtain ⟨⟨hiR,hdep⟩,hBn⟩:=hB.2 i hi
  have hiR:i∈R:=by simpa using hiR
  obtain ⟨o,d,ho,hdst⟩:=hRo i hiR
  have hdn:dstN ops i=some d:=by simp [dstN,ho,hdst]
  have hun:=(mem_ready.1 hi).1
  have hil:i<listed.size:=by rw [inv.size];exact (Array.getElem?_eq_some_iff.1 ho).1
  have hind:i∉done:=fun h=>by
   have h1:=hdl i h
   rw [getD_both hun] at h1
   cases h1
  have hset:∀j,(listed.setIfInBounds i true).getD j false=if j=i then true else listed.getD j false:=fun j=>by
   simp only [Array.getD_eq_getD_getElem?,Array.getElem?_setIfInBounds]
   by_cases h:i=j
   ·subst h;simp [hil]
   ·rw [if_neg h,if_neg (fun e=>h e.symm)]
  have hdd:∀j∈depOf ops R i,j∈done:=fun j hj=>hall j (List.mem_filter.1 hj).1 (by simpa using hdep j hj)
  have hstep:=hF.step i hiR vals W hb (fun j hj=>hD j (hdd j hj)) (fun a3 w3=>∃v,a3=(actOf ops vals (depOf ops R i) a0).put o.dst v/\(Below W.heap.size W w3/\D i v w3)) (fun v W' h1 h2=>⟨v,by rw [hdn,hdst],h1,h2⟩)
  have he:∀x∈o.looksAt ops,(actOf ops vals done a0).eval (.tmp x)=(actOf ops vals (depOf ops R i) a0).eval (.tmp x):=by
   intro x hx
   by_cases hex:∃j∈done,dstN ops j=some x
   ·obtain ⟨j,hj,hk⟩:=hex
    have hjR:=hin j hj
    have hsz:=hF.size j hjR x hk
    have hjd:j∈depOf ops R i:=by
     refine List.mem_filter.2 ⟨hjR,?_⟩
     simp only [hk,ho]
     rw [List.contains_iff_mem]
     exact hx
    rw [actOf_at vals hd j x hk done a0 hj hsz,actOf_at vals hd j x hk _ a0 hjd hsz]
   ·rw [actOf_far vals (.tmp x) done a0 (fun j hj k hk e=>hex ⟨j,hj,by injection e with e;rw [e];exact hk⟩),actOf_far vals (.tmp x) _ a0 (fun j hj k hk e=>hex ⟨j,hdd j hj,by injection e with e;rw [e];exact hk⟩)]
  have hsw:=oneOp_swap (a:=actOf ops vals done a0) ho (fun cs b=>Region.noSelect_spec hsel i o cs b ho) hdst (by rw [actOf_size];exact hF.size i hiR d hdn) he hQ hstep
  refine wpOp_mono ?_ (hsw.wpOp (by rw [ho];rfl))
  rintro a3 w3 ⟨v,rfl,hb1,hDv⟩
  have hb3:=hb.trans (hb1.mono hb.size)
  refine ⟨fun _ _=>rgb hb3,?_⟩
  have hact:(actOf ops vals done a0).put o.dst v=actOf ops (fun j=>if j=i then v else vals j) (done++[i]) a0:=by
   rw [actOf_snoc,if_pos rfl,hdn,hdst,actOf_congr (u:=fun j=>if j=i then v else vals j) (v:=vals) done a0 fun j hj=>by
    have hne:j≠i:=fun e=>hind (by rw [<-e];exact hj)
    exact if_neg hne]
  rw [hact]
  refine ih (done++[i]) _ _ w3 (by rw [List.length_append];simp;omega) ?_ ?_ (inv_set inv hi) ?_ ?_ hb3 ?_ hBn
  ·rw [List.nodup_append]
   exact ⟨hnd,by simp,fun x hx y hy e=>hind (by simp at hy;rw [<-hy,<-e];exact hx)⟩
  ·intro j hj
   rcases List.mem_append.1 hj with h | h
   ·exact hin j h
   ·simp at h;rw [h];exact hiR
  ·intro j hj h
   rw [hset] at h
   by_cases e:j=i
   ·rw [e];simp
   ·rw [if_neg e] at h
    exact List.mem_append_left _ (hall j hj h)
  ·intro j hj
   rw [hset]
   rcases List.mem_append.1 hj with h | h
   ·by_cases e:j=i
    ·rw [if_pos e]
    ·rw [if_neg e];exact hdl j h
   ·simp at h;rw [if_pos h]
  ·intro j hj
   by_cases e:j=i
   ·subst e;simp only [if_pos];exact hDv
   ·simp only [if_neg e]
    rcases List.mem_append.1 hj with h | h
    ·exact hst _ _ _ _ hb1 (hD j h)
    ·simp at h;exact absurd h e
def allB (ops:Array Oper) (tA tB R tl:List Nat):Bool:=
 decide (ops.size=tA.length+(tB.length+(R.length+tl.length)))&&dstB ops&&okR ops R &&
 takeD .any ops (fun _=>true) (fun l1=>takeD .any ops (fun i=>laterB .any ops (fun j => !tl.contains j) i) (fun l2=>R.all (fun i => !l2.getD i false)&&freeB ops R tl R.length l2) tB l1) tA (Array.replicate ops.size false)
theorem region_free {id:Nat} {a:Act} {w:World} {l:List Oper} (tA tB R tl:List Nat) (D:Nat->Value->World->Prop) (hst:∀i v W W',Below W.heap.size W W'->D i v W->D i v W') (hm:P.follows .mixedOrders=true) (hQ:∀c a w,Q (.panic c) a w->False) (hsel:Region.noSelect l.toArray=true) (hB:allB l.toArray tA tB R tl=true)
 (h:wpQuiet P l.toArray (fun _=>True) (fun a1=>wpQuiet P l.toArray (fun w'=>∃p:Regrown,w'=grow (redrawn w p.d) p.os) (fun a2=>FreeQ P l.toArray Q w R tl D a2) (pickL l.toArray tB) a1) (pickL l.toArray tA) a) :
 (Code.region id l.toArray true).wp P Q a w:=by
 generalize l.toArray=ops at *
 simp only [allB,Bool.and_eq_true,decide_eq_true_eq] at hB
 obtain ⟨⟨⟨hsz,hds⟩,hok⟩,hB⟩:=hB
 refine wp_region_any hm ?_
 have inv0:HeadInv .any ops ops.size (Array.replicate ops.size false):=
  ⟨by simp,fun j oj _ hl=>(by rw [getD_replicate_false] at hl;cases hl),fun t h1 h2=>absurd h2 (by omega)⟩
 have hS0:Rg w { w with drawn:=w.drawn+1 }:=⟨⟨w.drawn+1,#[]⟩,by rw [grow_empty];rfl⟩
 have pre2:∀i∈tl,(!tl.contains i)=false:=fun i hi=>by simp [hi]
 refine wpAny_of_anyP (S:=Rg w) (pre:=fun j => !tl.contains j) _ _ _ _ ?_
 suffices hh:anyP P .any ops Q (Rg w) (fun j => !tl.contains j) (tA.length+(tB.length+(R.length+tl.length))) (Array.replicate ops.size false) a { w with drawn:=w.drawn+1 } by
  rw [<-hsz] at hh
  exact hh
 refine anyP_takesC (T:=fun _=>True) hsel hQ (fun _ _=>trivial) (fun _ _ => .inr (fun _=>trivial)) hS0 (fun l1 a1 hF1 inv1 h1 => ?_) tA _ a hB inv0 h
 refine anyP_takesC (T:=fun w'=>∃p:Regrown,w'=grow (redrawn w p.d) p.os) hsel hQ (fun _ h=>h) (fun i hi => .inl hi) hS0 (fun l2 a2 hF2 inv2 h2 => ?_) tB l1 a1 hF1 inv1 h1
 have hb0:Below w.heap.size w { w with drawn:=w.drawn+1 }:=⟨rfl,rfl,rfl,Nat.le_refl _,fun _ _=>rfl⟩
 simp only [Bool.and_eq_true,List.all_eq_true,Bool.not_eq_true'] at hF2
 exact anyP_free hsel hQ (dstB_spec hds) hok pre2 (fun h=>regrown_of_below h) hst h2 R.length [] (fun _=>undef) l2 _ (by simp) List.nodup_nil (fun j hj=>by cases hj) inv2 (fun j hj hl=>by rw [hF2.1 j hj] at hl;cases hl) (fun j hj=>by cases hj) hb0 (fun j hj=>by cases hj) hF2.2
def depsQ (D:Nat->Value->World->Prop) (W:World):List (Nat×Tmp)->Act->(Act->Prop)->Prop
 | [],a,F=>F a
 | p::L,a,F=>∀v,D p.1 v W->depsQ D W L (a.put (some p.2) v) F
abbrev Eff:=Nat×Tmp×List (Nat×Tmp)
def stepsQ (P:Program) (ops:Array Oper) (Q:Exit->Act->World->Prop) (w:World) (D:Nat->Value->World->Prop) (a:Act):List Eff->Prop
 | []=>True
 | p::E=>(∀W,Below w.heap.size w W->depsQ D W p.2.2 a fun b=>∀K:Act->World->Prop,(∀v W',Below W.heap.size W W'->D p.1 v W'->K (b.put (some p.2.1) v) W')->oneOp P ops Q p.1 K b W)/\stepsQ P ops Q w D a E
def effB (ops:Array Oper) (E:List Eff):Bool:=E.all fun p=>decide (dstN ops p.1=some p.2.1)&&decide (depOf ops (E.map (·.1)) p.1=p.2.2.map (·.1))&&p.2.2.all fun q=>decide (dstN ops q.1=some q.2)
theorem depsQ_use {D:Nat->Value->World->Prop} {W:World} {F:Act->Prop} (vals:Nat->Value):∀(L:List (Nat×Tmp)) (a:Act),(∀q∈L,dstN ops q.1=some q.2)->depsQ D W L a F->(∀j∈L.map (·.1),D j (vals j) W)->F (actOf ops vals (L.map (·.1)) a)
 | [],_,_,h,_=>h
 | p::L,a,hL,h,hD=>by
  rw [List.map_cons,actOf,hL p List.mem_cons_self]
  exact depsQ_use vals L _ (fun q hq=>hL q (List.mem_cons_of_mem _ hq)) (h _ (hD p.1 (by simp))) (fun j hj=>hD j (by rw [List.map_cons];exact List.mem_cons_of_mem _ hj))
theorem stepsQ_mem {w:World} {D:Nat->Value->World->Prop} {a:Act}:∀(E:List Eff),stepsQ P ops Q w D a E->∀p∈E,∀W,Below w.heap.size w W->depsQ D W p.2.2 a fun b=>∀K:Act->World->Prop,(∀v W',Below W.heap.size W W'->D p.1 v W'->K (b.put (some p.2.1) v) W')->oneOp P ops Q p.1 K b W
 | [],_,p,hp=>by cases hp
 | q::E,h,p,hp=>by
  rcases List.mem_cons.1 hp with e | hp
  ·subst e;exact h.1
  ·exact stepsQ_mem E h.2 p hp
theorem region_eff {id:Nat} {a:Act} {w:World} {l:List Oper} (tA tB:List Nat) (E:List Eff) (tl:List Nat) (D:Nat->Value->World->Prop) (hst:∀i v W W',Below W.heap.size W W'->D i v W->D i v W') (hm:P.follows .mixedOrders=true) (hQ:∀c a w,Q (.panic c) a w->False) (hsel:Region.noSelect l.toArray=true)
 (hB:allB l.toArray tA tB (E.map (·.1)) tl=true) (hE:effB l.toArray E=true)
 (h:wpQuiet P l.toArray (fun _=>True) (fun a1=>wpQuiet P l.toArray (fun w'=>∃p:Regrown,w'=grow (redrawn w p.d) p.os) (fun a2=>(E.all fun p=>decide (p.2.1<a2.tmps.size))=true/\stepsQ P l.toArray Q w D a2 E /\
  ∀W,Below w.heap.size w W->depsQ D W (E.map fun p=>(p.1,p.2.1)) a2 fun b=>wpList P l.toArray Q (pickL l.toArray tl) b W) (pickL l.toArray tB) a1) (pickL l.toArray tA) a) :
 (Code.region id l.toArray true).wp P Q a w:=by
 refine region_free tA tB (E.map (·.1)) tl D hst hm hQ hsel hB (quiet_post (fun a1 h1=>quiet_post (fun a2 h2 => ?_) _ _ h1) _ _ h)
 obtain ⟨hs,hsteps,hlast⟩:=h2
 simp only [effB,List.all_eq_true,Bool.and_eq_true,decide_eq_true_eq] at hE
 have hmap:(E.map fun p=>(p.1,p.2.1)).map (·.1)=E.map (·.1):=by rw [List.map_map];rfl
 refine ⟨fun i hi d hd => ?_,fun i hi vals W hW hD => ?_,fun vals W hW hD => ?_⟩
 ·obtain ⟨p,hp,rfl⟩:=List.mem_map.1 hi
  have h1:=(hE p hp).1.1
  rw [h1] at hd
  injection hd with hd
  subst hd
  simp only [List.all_eq_true,decide_eq_true_eq] at hs
  exact hs p hp
 ·obtain ⟨p,hp,rfl⟩:=List.mem_map.1 hi
  have he:=hE p hp
  rw [he.1.2] at hD ⊢
  rw [he.1.1]
  exact depsQ_use vals p.2.2 a2 he.2 (stepsQ_mem E hsteps p hp W hW) hD
 ·have:=depsQ_use (ops:=l.toArray) vals (E.map fun p=>(p.1,p.2.1)) a2 (fun q hq=>by
   obtain ⟨p,hp,rfl⟩:=List.mem_map.1 hq
   exact (hE p hp).1.1) (hlast W hW) (by rw [hmap];exact hD)
  rwa [hmap] at this
end
section
variable {P:Program} {ops:Array Oper} {Q:Exit->Act->World->Prop} {S:World->Prop} {pre:Nat->Bool}
def setAll (L:List Nat) (l:Array Bool):Array Bool:=L.foldl (fun l i=>l.setIfInBounds i true) l
theorem setAll_snoc (L:List Nat) (i:Nat) (l:Array Bool):setAll (L++[i]) l=(setAll L l).setIfInBounds i true:=by unfold setAll;rw [List.foldl_append];rfl
theorem setAll_at:∀(L:List Nat) (l:Array Bool) (j:Nat),(setAll L l)[j]? = if j∈L/\j<l.size then some true else l[j]?
 | [],l,j=>by simp [setAll]
 | i::L,l,j=>by
  show (setAll L (l.setIfInBounds i true))[j]? = _
  rw [setAll_at L]
  simp only [Array.size_setIfInBounds,Array.getElem?_setIfInBounds,List.mem_cons]
  by_cases h1:j∈L/\j<l.size
  ·rw [if_pos h1,if_pos ⟨.inr h1.1,h1.2⟩]
  ·rw [if_neg h1]
   by_cases h2:i=j
   ·subst h2
    by_cases h3:i<l.size<;>simp [h3]
   ·have h3:j≠i:=fun h=>h2 h.symm
    simp only [if_neg h2]
    rw [if_neg]
    rintro ⟨h4 | h4,h5⟩
    ·exact h3 h4
    ·exact h1 ⟨h4,h5⟩
theorem nodup_len9:∀{L M:List Nat},L.Nodup->(∀k∈L,k∈M)->L.length<=M.length
 | [],_,_,_=>Nat.zero_le _
 | a::L,M,hn,h=>by
  have ha:=h a List.mem_cons_self
  have h2:=List.nodup_cons.1 hn
  have:=nodup_len9 (M:=M.erase a) h2.2 fun k hk=>(List.mem_erase_of_ne (fun e=>h2.1 (by rw [<-e];exact hk))).2 (h k (List.mem_cons_of_mem _ hk))
  rw [List.length_erase_of_mem ha] at this
  have hp:0<M.length:=List.length_pos_of_mem ha
  simp only [List.length_cons]
  omega
theorem setAll_perm {L M:List Nat} (h:L.Perm M) (l:Array Bool):setAll L l=setAll M l:=by
 apply Array.ext_getElem?
 intro j
 rw [setAll_at,setAll_at]
 have:j∈L↔j∈M:=h.mem_iff
 simp only [this]
def orderB (ops:Array Oper):Bool:=(List.range ops.size).all fun i=>match ops[i]? with
 | some o=>o.after.all fun e => !Region.binds .any e||decide (e.on<i)
 | none=>true
def dep2 (ops:Array Oper) (R:List Nat) (i j:Nat):Bool:=Region.waitsFor .any ops i j||R.any fun s=>Region.waitsFor .any ops i s&&Region.waitsFor .any ops s j
def freeS (ops:Array Oper) (R tl:List Nat) (l2:Array Bool):Bool:=
 R.all (fun i => !l2.getD i false)&&(List.range ops.size).all (fun i=>l2.getD i true||R.contains i||tl.contains i)&&orderB ops &&
 R.all (fun r=>tl.all (fun t=>Region.waitsFor .any ops t r)||R.any fun s=>decide (r<s)&&Region.waitsFor .any ops s r) &&
 R.all (fun i=>(depOf ops R i).all fun j=>dep2 ops R i j)&&tailB .any ops tl (setAll R l2)
theorem ready_some {listed:Array Bool} (hO:orderB ops=true) (hs:listed.size=ops.size) {r:Nat} (hr:r<ops.size) (hun:listed.getD r false=false):Region.ready .any ops listed≠[]:=by
 intro he
 have all:∀n i,i<n->i<ops.size->listed.getD i true=true:=by
  intro n
  induction n with
  | zero=>intro i h;omega
  | succ n ih=>
   intro i h hi
   cases hl:listed.getD i true with
   | true=>rfl
   | false=>
    exfalso
    have hm:i∈Region.ready .any ops listed:=by
     refine mem_ready.2 ⟨hl,ops[i],Array.getElem?_eq_getElem hi,fun e he hb => ?_⟩
     simp only [orderB,List.all_eq_true,List.mem_range] at hO
     have h1:=hO i hi
     rw [Array.getElem?_eq_getElem hi] at h1
     simp only [Array.all_eq_true'] at h1
     have h2:=h1 e he
     rw [hb] at h2
     simp only [Bool.not_true,Bool.false_or,decide_eq_true_eq] at h2
     have h3:=ih e.on (by omega) (by omega)
     simp only [Array.getD_eq_getD_getElem?] at h3 ⊢
     rw [Array.getElem?_eq_getElem (by omega)] at h3 ⊢
     exact h3
    rw [he] at hm
    cases hm
 have h1:=all (r+1) r (by omega) hr
 simp only [Array.getD_eq_getD_getElem?] at h1 hun
 rw [Array.getElem?_eq_getElem (by omega)] at h1 hun
 rw [show listed[r]=true from h1] at hun
 cases hun
theorem waits_listed {listed:Array Bool} (inv:HeadInv .any ops ops.size listed) {s r:Nat} (h:Region.waitsFor .any ops s r=true) (hs:(∀o,ops[s]? = some o->∀e∈o.after,Region.binds .any e=true->listed.getD e.on false=true)):listed.getD r false=true:=by
 obtain ⟨o,ho,e,he,hb,hon⟩:=Region.waitsFor_spec h
 have:=hs o ho e he hb
 rwa [hon] at this
theorem closed_of {listed:Array Bool} (inv:HeadInv .any ops ops.size listed) {s:Nat} (hs:listed.getD s false=true):∀o,ops[s]? = some o->∀e∈o.after,Region.binds .any e=true->listed.getD e.on false=true:=fun o ho=>inv.closed s o ho hs
theorem tail_waits {R tl:List Nat} {listed:Array Bool} (inv:HeadInv .any ops ops.size listed) (hC:∀r∈R,(∀t∈tl,Region.waitsFor .any ops t r=true)\/∃s∈R,r<s/\Region.waitsFor .any ops s r=true) (hlt:∀r∈R,r<ops.size) {t:Nat} (ht:t∈tl) (hr:t∈Region.ready .any ops listed) :
 ∀n r,ops.size-r<=n->r∈R->listed.getD r false=true:=by
 obtain ⟨-,ot,hot,hal⟩:=mem_ready.1 hr
 have htl:∀o,ops[t]? = some o->∀e∈o.after,Region.binds .any e=true->listed.getD e.on false=true:=fun o ho=>by
  obtain rfl:ot=o:=by rw [hot] at ho;injection ho
  exact hal
 intro n
 induction n with
 | zero=>
  intro r h1 h2
  have:=hlt r h2
  omega
 | succ n ih=>
  intro r h1 h2
  rcases hC r h2 with h | ⟨s,hs,h3,h4⟩
  ·exact waits_listed inv (h t ht) htl
  ·have:=hlt s hs
   exact waits_listed inv h4 (closed_of inv (ih s (by omega) hs))
theorem anyP_free9 {w:World} {R tl:List Nat} {D:Nat->Value->World->Prop} {a0:Act} (hsel:Region.noSelect ops=true) (hQ:∀c a w,Q (.panic c) a w->False) (hd:∀i j d,dstN ops i=some d->dstN ops j=some d->i=j)
 (hR:okR ops R=true) (pre2:∀i∈tl,pre i=false) (rgb:∀{w'},Below w.heap.size w w'->S w') (hst:∀i v W W',Below W.heap.size W W'->D i v W->D i v W') (hF:FreeQ P ops Q w R tl D a0) {l2:Array Bool} (hS2:freeS ops R tl l2=true) (hz2:l2.size=ops.size) :
 ∀(f:Nat) (done:List Nat) (vals:Nat->Value) (listed:Array Bool) (W:World),R.length=done.length+f->done.Nodup->(∀j∈done,j∈R)->HeadInv .any ops ops.size listed->(∀j∈R,listed.getD j false=true->j∈done)->(∀j∈done,listed.getD j false=true) ->
  Below w.heap.size w W->(∀j∈done,D j (vals j) W)->listed=setAll done l2->anyP P .any ops Q S pre (f+tl.length) listed (actOf ops vals done a0) W:=by
 have hRn:R.Nodup:=by
  simp only [okR,Bool.and_eq_true,decide_eq_true_eq] at hR
  exact hR.1
 have hRo:∀i∈R,∃o d,ops[i]? = some o/\o.dst=some d:=by
  intro i hi
  simp only [okR,Bool.and_eq_true,List.all_eq_true] at hR
  have:=hR.2 i hi
  cases ho:ops[i]? with
  | none=>rw [ho] at this;cases this
  | some o=>
   rw [ho] at this
   obtain ⟨d,hdd⟩:=Option.isSome_iff_exists.1 this
   exact ⟨o,d,rfl,hdd⟩
 simp only [freeS,Bool.and_eq_true,List.all_eq_true,Bool.or_eq_true,Bool.not_eq_true',List.any_eq_true,decide_eq_true_eq,List.mem_range] at hS2
 obtain ⟨⟨⟨⟨⟨hs1,hs2⟩,hs3⟩,hs4⟩,hs5⟩,hs6⟩:=hS2
 have hs4':∀r∈R,(∀t∈tl,Region.waitsFor .any ops t r=true)\/∃s∈R,r<s/\Region.waitsFor .any ops s r=true:=hs4
 have hRl:∀r∈R,r<ops.size:=fun r hr=>by
  obtain ⟨o,d,ho,-⟩:=hRo r hr
  exact (Array.getElem?_eq_some_iff.1 ho).1
 intro f
 induction f with
 | zero=>
  intro done vals listed W hlen hnd hin inv hall hdl hb hD hB
  have hp:done.Perm R:=(List.perm_ext_iff_of_nodup hnd hRn).2 fun j=>⟨hin j,fun hj=>by
   by_cases hc:j∈done
   ·exact hc
   ·exfalso
    have:=nodup_len9 (L:=j::done) (M:=R) (List.nodup_cons.2 ⟨hc,hnd⟩) (fun k hk=>by
     rcases List.mem_cons.1 hk with rfl | hk
     ·exact hj
     ·exact hin k hk)
    simp only [List.length_cons] at this
    omega⟩
  rw [Nat.zero_add,actOf_perm vals hd hp a0]
  exact anyP_tail tl listed _ W pre2 (by rw [hB,setAll_perm hp];exact hs6) (hF.last vals W hb fun j hj=>hD j (hp.mem_iff.2 hj))
 | succ f ih=>
  intro done vals listed W hlen hnd hin inv hall hdl hb hD hB
  rw [show f+1+tl.length=(f+tl.length)+1 by omega]
  obtain ⟨u,huR,hud⟩:∃u∈R,u∉done:=by
   by_cases h:∃u∈R,u∉done
   ·exact h
   ·exfalso
    have hsub:∀x∈R,x∈done:=fun x hx=>by
     by_cases hc:x∈done
     ·exact hc
     ·exact absurd ⟨x,hx,hc⟩ h
    have:=nodup_len9 hRn hsub
    omega
  have hun0:listed.getD u false=false:=by
   cases hc:listed.getD u false with
   | false=>rfl
   | true=>exact absurd (hall u huR hc) hud
  refine ⟨fun h1=>absurd h1 (ready_some hs3 inv.size (hRl u huR) hun0),fun i hi => ?_⟩
  have hil0:i<ops.size:=by
   obtain ⟨-,o,ho,-⟩:=mem_ready.1 hi
   exact (Array.getElem?_eq_some_iff.1 ho).1
  have hiR:i∈R:=by
   have h1:=hs2 i hil0
   rcases h1 with (h1 | h1) | h1
   ·exfalso
    have h2:=(mem_ready.1 hi).1
    rw [hB] at h2
    have h3:=setAll_at done l2 i
    simp only [Array.getD_eq_getD_getElem?] at h1 h2
    rw [h3] at h2
    split at h2
    ·cases h2
    ·rw [h1] at h2
     cases h2
   ·simpa using h1
   ·exfalso
    have h2:=tail_waits inv hs4' hRl (by simpa using h1) hi ops.size u (by omega) huR
    rw [hun0] at h2
    cases h2
  have hdep:∀j∈depOf ops R i,listed.getD j false=true:=fun j hj=>by
   have h1:=hs5 i hiR j hj
   simp only [dep2,Bool.or_eq_true,List.any_eq_true,Bool.and_eq_true] at h1
   obtain ⟨-,oi,hoi,hal⟩:=mem_ready.1 hi
   have hio:∀o,ops[i]? = some o->∀e∈o.after,Region.binds .any e=true->listed.getD e.on false=true:=fun o ho=>by
    obtain rfl:oi=o:=by rw [hoi] at ho;injection ho
    exact hal
   rcases h1 with h1 | ⟨s,-,h2,h3⟩
   ·exact waits_listed inv h1 hio
   ·exact waits_listed inv h3 (closed_of inv (waits_listed inv h2 hio))
  obtain ⟨o,d,ho,hdst⟩:=hRo i hiR
  have hdn:dstN ops i=some d:=by simp [dstN,ho,hdst]
  have hun:=(mem_ready.1 hi).1
  have hil:i<listed.size:=by rw [inv.size];exact (Array.getElem?_eq_some_iff.1 ho).1
  have hind:i∉done:=fun h=>by
   have h1:=hdl i h
   rw [getD_both hun] at h1
   cases h1
  have hset:∀j,(listed.setIfInBounds i true).getD j false=if j=i then true else listed.getD j false:=fun j=>by
   simp only [Array.getD_eq_getD_getElem?,Array.getElem?_setIfInBounds]
   by_cases h:i=j
   ·subst h;simp [hil]
   ·rw [if_neg h,if_neg (fun e=>h e.symm)]
  have hdd:∀j∈depOf ops R i,j∈done:=fun j hj=>hall j (List.mem_filter.1 hj).1 (hdep j hj)
  have hstep:=hF.step i hiR vals W hb (fun j hj=>hD j (hdd j hj)) (fun a3 w3=>∃v,a3=(actOf ops vals (depOf ops R i) a0).put o.dst v/\(Below W.heap.size W w3/\D i v w3)) (fun v W' h1 h2=>⟨v,by rw [hdn,hdst],h1,h2⟩)
  have he:∀x∈o.looksAt ops,(actOf ops vals done a0).eval (.tmp x)=(actOf ops vals (depOf ops R i) a0).eval (.tmp x):=by
   intro x hx
   by_cases hex:∃j∈done,dstN ops j=some x
   ·obtain ⟨j,hj,hk⟩:=hex
    have hjR:=hin j hj
    have hsz:=hF.size j hjR x hk
    have hjd:j∈depOf ops R i:=by
     refine List.mem_filter.2 ⟨hjR,?_⟩
     simp only [hk,ho]
     rw [List.contains_iff_mem]
     exact hx
    rw [actOf_at vals hd j x hk done a0 hj hsz,actOf_at vals hd j x hk _ a0 hjd hsz]
   ·rw [actOf_far vals (.tmp x) done a0 (fun j hj k hk e=>hex ⟨j,hj,by injection e with e;rw [e];exact hk⟩),actOf_far vals (.tmp x) _ a0 (fun j hj k hk e=>hex ⟨j,hdd j hj,by injection e with e;rw [e];exact hk⟩)]
  have hsw:=oneOp_swap (a:=actOf ops vals done a0) ho (fun cs b=>Region.noSelect_spec hsel i o cs b ho) hdst (by rw [actOf_size];exact hF.size i hiR d hdn) he hQ hstep
  refine wpOp_mono ?_ (hsw.wpOp (by rw [ho];rfl))
  rintro a3 w3 ⟨v,rfl,hb1,hDv⟩
  have hb3:=hb.trans (hb1.mono hb.size)
  refine ⟨fun _ _=>rgb hb3,?_⟩
  have hact:(actOf ops vals done a0).put o.dst v=actOf ops (fun j=>if j=i then v else vals j) (done++[i]) a0:=by
   rw [actOf_snoc,if_pos rfl,hdn,hdst,actOf_congr (u:=fun j=>if j=i then v else vals j) (v:=vals) done a0 fun j hj=>by
    have hne:j≠i:=fun e=>hind (by rw [<-e];exact hj)
    exact if_neg hne]
  rw [hact]
  refine ih (done++[i]) _ _ w3 (by rw [List.length_append];simp;omega) ?_ ?_ (inv_set inv hi) ?_ ?_ hb3 ?_ (by rw [setAll_snoc,<-hB])
  ·rw [List.nodup_append]
   exact ⟨hnd,by simp,fun x hx y hy e=>hind (by simp at hy;rw [<-hy,<-e];exact hx)⟩
  ·intro j hj
   rcases List.mem_append.1 hj with h | h
   ·exact hin j h
   ·simp at h;rw [h];exact hiR
  ·intro j hj h
   rw [hset] at h
   by_cases e:j=i
   ·rw [e];simp
   ·rw [if_neg e] at h
    exact List.mem_append_left _ (hall j hj h)
  ·intro j hj
   rw [hset]
   rcases List.mem_append.1 hj with h | h
   ·by_cases e:j=i
    ·rw [if_pos e]
    ·rw [if_neg e];exact hdl j h
   ·simp at h;rw [if_pos h]
  ·intro j hj
   by_cases e:j=i
   ·subst e;simp only [if_pos];exact hDv
   ·simp only [if_neg e]
    rcases List.mem_append.1 hj with h | h
    ·exact hst _ _ _ _ hb1 (hD j h)
    ·simp at h;exact absurd h e
def allB9 (ops:Array Oper) (tA tB R tl:List Nat):Bool:=
 decide (ops.size=tA.length+(tB.length+(R.length+tl.length)))&&dstB ops&&okR ops R &&
 takeD .any ops (fun _=>true) (fun l1=>takeD .any ops (fun i=>laterB .any ops (fun j => !tl.contains j) i) (fun l2=>decide (l2.size=ops.size)&&freeS ops R tl l2) tB l1) tA (Array.replicate ops.size false)
theorem region_free9 {id:Nat} {a:Act} {w:World} {l:List Oper} (tA tB R tl:List Nat) (D:Nat->Value->World->Prop) (hst:∀i v W W',Below W.heap.size W W'->D i v W->D i v W') (hm:P.follows .mixedOrders=true) (hQ:∀c a w,Q (.panic c) a w->False) (hsel:Region.noSelect l.toArray=true) (hB:allB9 l.toArray tA tB R tl=true)
 (h:wpQuiet P l.toArray (fun _=>True) (fun a1=>wpQuiet P l.toArray (fun w'=>∃p:Regrown,w'=grow (redrawn w p.d) p.os) (fun a2=>FreeQ P l.toArray Q w R tl D a2) (pickL l.toArray tB) a1) (pickL l.toArray tA) a) :
 (Code.region id l.toArray true).wp P Q a w:=by
 generalize l.toArray=ops at *
 simp only [allB9,Bool.and_eq_true,decide_eq_true_eq] at hB
 obtain ⟨⟨⟨hsz,hds⟩,hok⟩,hB⟩:=hB
 refine wp_region_any hm ?_
 have inv0:HeadInv .any ops ops.size (Array.replicate ops.size false):=
  ⟨by simp,fun j oj _ hl=>(by rw [getD_replicate_false] at hl;cases hl),fun t h1 h2=>absurd h2 (by omega)⟩
 have hS0:Rg w { w with drawn:=w.drawn+1 }:=⟨⟨w.drawn+1,#[]⟩,by rw [grow_empty];rfl⟩
 have pre2:∀i∈tl,(!tl.contains i)=false:=fun i hi=>by simp [hi]
 refine wpAny_of_anyP (S:=Rg w) (pre:=fun j => !tl.contains j) _ _ _ _ ?_
 suffices hh:anyP P .any ops Q (Rg w) (fun j => !tl.contains j) (tA.length+(tB.length+(R.length+tl.length))) (Array.replicate ops.size false) a { w with drawn:=w.drawn+1 } by
  rw [<-hsz] at hh
  exact hh
 refine anyP_takesC (T:=fun _=>True) hsel hQ (fun _ _=>trivial) (fun _ _ => .inr (fun _=>trivial)) hS0 (fun l1 a1 hF1 inv1 h1 => ?_) tA _ a hB inv0 h
 refine anyP_takesC (T:=fun w'=>∃p:Regrown,w'=grow (redrawn w p.d) p.os) hsel hQ (fun _ h=>h) (fun i hi => .inl hi) hS0 (fun l2 a2 hF2 inv2 h2 => ?_) tB l1 a1 hF1 inv1 h1
 have hb0:Below w.heap.size w { w with drawn:=w.drawn+1 }:=⟨rfl,rfl,rfl,Nat.le_refl _,fun _ _=>rfl⟩
 simp only [Bool.and_eq_true,decide_eq_true_eq] at hF2
 have hF3:=hF2.2
 simp only [freeS,Bool.and_eq_true,List.all_eq_true,Bool.not_eq_true'] at hF3
 exact anyP_free9 hsel hQ (dstB_spec hds) hok pre2 (fun h=>regrown_of_below h) hst h2 hF2.2 hF2.1 R.length [] (fun _=>undef) l2 _ (by simp) List.nodup_nil (fun j hj=>by cases hj) inv2 (fun j hj hl=>by rw [hF3.1.1.1.1.1 j hj] at hl;cases hl) (fun j hj=>by cases hj) hb0 (fun j hj=>by cases hj) rfl
theorem region_eff9 {id:Nat} {a:Act} {w:World} {l:List Oper} (tA tB:List Nat) (E:List Eff) (tl:List Nat) (D:Nat->Value->World->Prop) (hst:∀i v W W',Below W.heap.size W W'->D i v W->D i v W') (hm:P.follows .mixedOrders=true) (hQ:∀c a w,Q (.panic c) a w->False) (hsel:Region.noSelect l.toArray=true)
 (hB:allB9 l.toArray tA tB (E.map (·.1)) tl=true) (hE:effB l.toArray E=true)
 (h:wpQuiet P l.toArray (fun _=>True) (fun a1=>wpQuiet P l.toArray (fun w'=>∃p:Regrown,w'=grow (redrawn w p.d) p.os) (fun a2=>(E.all fun p=>decide (p.2.1<a2.tmps.size))=true/\stepsQ P l.toArray Q w D a2 E /\
  ∀W,Below w.heap.size w W->depsQ D W (E.map fun p=>(p.1,p.2.1)) a2 fun b=>wpList P l.toArray Q (pickL l.toArray tl) b W) (pickL l.toArray tB) a1) (pickL l.toArray tA) a) :
 (Code.region id l.toArray true).wp P Q a w:=by
 refine region_free9 tA tB (E.map (·.1)) tl D hst hm hQ hsel hB (quiet_post (fun a1 h1=>quiet_post (fun a2 h2 => ?_) _ _ h1) _ _ h)
 obtain ⟨hs,hsteps,hlast⟩:=h2
 simp only [effB,List.all_eq_true,Bool.and_eq_true,decide_eq_true_eq] at hE
 have hmap:(E.map fun p=>(p.1,p.2.1)).map (·.1)=E.map (·.1):=by rw [List.map_map];rfl
 refine ⟨fun i hi d hd => ?_,fun i hi vals W hW hD => ?_,fun vals W hW hD => ?_⟩
 ·obtain ⟨p,hp,rfl⟩:=List.mem_map.1 hi
  have h1:=(hE p hp).1.1
  rw [h1] at hd
  injection hd with hd
  subst hd
  simp only [List.all_eq_true,decide_eq_true_eq] at hs
  exact hs p hp
 ·obtain ⟨p,hp,rfl⟩:=List.mem_map.1 hi
  have he:=hE p hp
  rw [he.1.2] at hD ⊢
  rw [he.1.1]
  exact depsQ_use vals p.2.2 a2 he.2 (stepsQ_mem E hsteps p hp W hW) hD
 ·have:=depsQ_use (ops:=l.toArray) vals (E.map fun p=>(p.1,p.2.1)) a2 (fun q hq=>by
   obtain ⟨p,hp,rfl⟩:=List.mem_map.1 hq
   exact (hE p hp).1.1) (hlast W hW) (by rw [hmap];exact hD)
  rwa [hmap] at this
end
end Go.Proofs.YtgfjmgebecmbiaaGreat

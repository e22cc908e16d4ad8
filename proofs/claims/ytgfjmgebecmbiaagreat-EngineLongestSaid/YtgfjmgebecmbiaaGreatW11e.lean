import Derived.Test.YtgfjmgebecmbiaaGreatReg8
set_option linter.unusedSimpArgs false
set_option linter.unusedVariables false
set_option maxHeartbeats 4000000
namespace Go.Proofs.YtgfjmgebecmbiaaGreat
open Lib(hid)
section
open Go Go.RowKit Go.Sort
section
variable {P:Program} {ops:Array Oper} {Q:Exit->Act->World->Prop} {S:World->Prop} {pre:Nat->Bool}
def Zf0 (L:List Nat) (l:Array Bool):Array Bool:=L.foldl (fun l i=>l.setIfInBounds i true) l
theorem Zqn (L:List Nat) (i:Nat) (l:Array Bool):Zf0 (L++[i]) l=(Zf0 L l).setIfInBounds i true:=by unfold Zf0;rw [List.foldl_append];rfl
theorem Zgy:∀(L:List Nat) (l:Array Bool) (j:Nat),(Zf0 L l)[j]? = if j∈L/\j<l.size then some true else l[j]?
 | [],l,j=>by simp [Zf0]
 | i::L,l,j=>by
  show (Zf0 L (l.setIfInBounds i true))[j]? = _
  rw [Zgy L]
  simp only [Array.size_setIfInBounds,Array.getElem?_setIfInBounds,List.mem_cons]
  by_cases h1:j∈L/\j<l.size
  ·rw [if_pos h1,if_pos ⟨.inr h1.1,h1.2⟩]
  ·rw [if_neg h1]
   by_cases h2:i=j
   ·subst h2
    by_cases h3:i<l.size<;>simp [h3]
   ·have h3:j≠i:=fun h=>h2 h.symm
    simp only [if_neg h2]
    rw [if_neg]
    rintro ⟨h4 | h4,h5⟩
    ·exact h3 h4
    ·exact h1 ⟨h4,h5⟩
theorem Zh4:∀{L M:List Nat},L.Nodup->(∀k∈L,k∈M)->L.length<=M.length
 | [],_,_,_=>Nat.zero_le _
 | a::L,M,hn,h=>by
  have ha:=h a List.mem_cons_self
  have h2:=List.nodup_cons.1 hn
  have:=Zh4 (M:=M.erase a) h2.2 fun k hk=>(List.mem_erase_of_ne (fun e=>h2.1 (by rw [<-e];exact hk))).2 (h k (List.mem_cons_of_mem _ hk))
  rw [List.length_erase_of_mem ha] at this
  have hp:0<M.length:=List.length_pos_of_mem ha
  simp only [List.length_cons]
  omega
theorem Zqo {L M:List Nat} (h:L.Perm M) (l:Array Bool):Zf0 L l=Zf0 M l:=by
 apply Array.ext_getElem?
 intro j
 rw [Zgy,Zgy]
 have:j∈L↔j∈M:=h.mem_iff
 simp only [this]
def Zx8 (ops:Array Oper):Bool:=(List.range ops.size).all fun i=>match ops[i]? with
 | some o=>o.after.all fun e => !Region.binds .any e||decide (e.on<i)
 | none=>true
def dep2 (ops:Array Oper) (R:List Nat) (i j:Nat):Bool:=Region.waitsFor .any ops i j||R.any fun s=>Region.waitsFor .any ops i s&&Region.waitsFor .any ops s j
def Z29 (ops:Array Oper) (R tl:List Nat) (l2:Array Bool):Bool:=
 R.all (fun i => !l2.getD i false)&&(List.range ops.size).all (fun i=>l2.getD i true||R.contains i||tl.contains i)&&Zx8 ops &&
 R.all (fun r=>tl.all (fun t=>Region.waitsFor .any ops t r)||R.any fun s=>decide (r<s)&&Region.waitsFor .any ops s r) &&
 R.all (fun i=>(Zgi ops R i).all fun j=>dep2 ops R i j)&&Zkn .any ops tl (Zf0 R l2)
theorem Zuy {listed:Array Bool} (hO:Zx8 ops=true) (hs:listed.size=ops.size) {r:Nat} (hr:r<ops.size) (hun:listed.getD r false=false):Region.ready .any ops listed≠[]:=by
 intro he
 have all:∀n i,i<n->i<ops.size->listed.getD i true=true:=by
  intro n
  induction n with
  | zero=>intro i h;omega
  | succ n ih=>
   intro i h hi
   cases hl:listed.getD i true with
   | true=>rfl
   | false=>
    exfalso
    have hm:i∈Region.ready .any ops listed:=by
     refine mem_ready.2 ⟨hl,ops[i],Array.getElem?_eq_getElem hi,fun e he hb => ?_⟩
     simp only [Zx8,List.all_eq_true,List.mem_range] at hO
     have h1:=hO i hi
     rw [Array.getElem?_eq_getElem hi] at h1
     simp only [Array.all_eq_true'] at h1
     have h2:=h1 e he
     rw [hb] at h2
     simp only [Bool.not_true,Bool.false_or,decide_eq_true_eq] at h2
     have h3:=ih e.on (by omega) (by omega)
     simp only [Array.getD_eq_getD_getElem?] at h3 ⊢
     rw [Array.getElem?_eq_getElem (by omega)] at h3 ⊢
     exact h3
    rw [he] at hm
    cases hm
 have h1:=all (r+1) r (by omega) hr
 simp only [Array.getD_eq_getD_getElem?] at h1 hun
 rw [Array.getElem?_eq_getElem (by omega)] at h1 hun
 rw [show listed[r]=true from h1] at hun
 cases hun
theorem Zco {listed:Array Bool} (inv:HeadInv .any ops ops.size listed) {s r:Nat} (h:Region.waitsFor .any ops s r=true) (hs:(∀o,ops[s]? = some o->∀e∈o.after,Region.binds .any e=true->listed.getD e.on false=true)):listed.getD r false=true:=by
 obtain ⟨o,ho,e,he,hb,hon⟩:=Region.waitsFor_spec h
 have:=hs o ho e he hb
 rwa [hon] at this
theorem Zps {listed:Array Bool} (inv:HeadInv .any ops ops.size listed) {s:Nat} (hs:listed.getD s false=true):∀o,ops[s]? = some o->∀e∈o.after,Region.binds .any e=true->listed.getD e.on false=true:=fun o ho=>inv.closed s o ho hs
theorem tail_waits {R tl:List Nat} {listed:Array Bool} (inv:HeadInv .any ops ops.size listed) (hC:∀r∈R,(∀t∈tl,Region.waitsFor .any ops t r=true)\/∃s∈R,r<s/\Region.waitsFor .any ops s r=true) (hlt:∀r∈R,r<ops.size) {t:Nat} (ht:t∈tl) (hr:t∈Region.ready .any ops listed) :
 ∀n r,ops.size-r<=n->r∈R->listed.getD r false=true:=by
 obtain ⟨-,ot,hot,hal⟩:=mem_ready.1 hr
 have htl:∀o,ops[t]? = some o->∀e∈o.after,Region.binds .any e=true->listed.getD e.on false=true:=fun o ho=>by
  obtain rfl:ot=o:=by rw [hot] at ho;injection ho
  exact hal
 intro n
 induction n with
 | zero=>
  intro r h1 h2
  have:=hlt r h2
  omega
 | succ n ih=>
  intro r h1 h2
  rcases hC r h2 with h | ⟨s,hs,h3,h4⟩
  ·exact Zco inv (h t ht) htl
  ·have:=hlt s hs
   exact Zco inv h4 (Zps inv (ih s (by omega) hs))
theorem Zwb {w:World} {R tl:List Nat} {D:Nat->Value->World->Prop} {a0:Act} (hsel:Region.noSelect ops=true) (hQ:∀c a w,Q (.panic c) a w->False) (hd:∀i j d,dstN ops i=some d->dstN ops j=some d->i=j)
 (hR:okR ops R=true) (pre2:∀i∈tl,pre i=false) (rgb:∀{w'},Below w.heap.size w w'->S w') (hst:∀i v W W',Below W.heap.size W W'->D i v W->D i v W') (hF:Z4d P ops Q w R tl D a0) {l2:Array Bool} (hS2:Z29 ops R tl l2=true) (hz2:l2.size=ops.size) :
 ∀(f:Nat) (done:List Nat) (vals:Nat->Value) (listed:Array Bool) (W:World),R.length=done.length+f->done.Nodup->(∀j∈done,j∈R)->HeadInv .any ops ops.size listed->(∀j∈R,listed.getD j false=true->j∈done)->(∀j∈done,listed.getD j false=true) ->
  Below w.heap.size w W->(∀j∈done,D j (vals j) W)->listed=Zf0 done l2->anyP P .any ops Q S pre (f+tl.length) listed (Zbo ops vals done a0) W:=by
 have hRn:R.Nodup:=by
  simp only [okR,Bool.and_eq_true,decide_eq_true_eq] at hR
  exact hR.1
 have hRo:∀i∈R,∃o d,ops[i]? = some o/\o.dst=some d:=by
  intro i hi
  simp only [okR,Bool.and_eq_true,List.all_eq_true] at hR
  have:=hR.2 i hi
  cases ho:ops[i]? with
  | none=>rw [ho] at this;cases this
  | some o=>
   rw [ho] at this
   obtain ⟨d,hdd⟩:=Option.isSome_iff_exists.1 this
   exact ⟨o,d,rfl,hdd⟩
 simp only [Z29,Bool.and_eq_true,List.all_eq_true,Bool.or_eq_true,Bool.not_eq_true',List.any_eq_true,decide_eq_true_eq,List.mem_range] at hS2
 obtain ⟨⟨⟨⟨⟨hs1,hs2⟩,hs3⟩,hs4⟩,hs5⟩,hs6⟩:=hS2
 have hs4':∀r∈R,(∀t∈tl,Region.waitsFor .any ops t r=true)\/∃s∈R,r<s/\Region.waitsFor .any ops s r=true:=hs4
 have hRl:∀r∈R,r<ops.size:=fun r hr=>by
  obtain ⟨o,d,ho,-⟩:=hRo r hr
  exact (Array.getElem?_eq_some_iff.1 ho).1
 intro f
 induction f with
 | zero=>
  intro done vals listed W hlen hnd hin inv hall hdl hb hD hB
  have hp:done.Perm R:=(List.perm_ext_iff_of_nodup hnd hRn).2 fun j=>⟨hin j,fun hj=>by
   by_cases hc:j∈done
   ·exact hc
   ·exfalso
    have:=Zh4 (L:=j::done) (M:=R) (List.nodup_cons.2 ⟨hc,hnd⟩) (fun k hk=>by
     rcases List.mem_cons.1 hk with rfl | hk
     ·exact hj
     ·exact hin k hk)
    simp only [List.length_cons] at this
    omega⟩
  rw [Nat.zero_add,Zly vals hd hp a0]
  exact Zdz tl listed _ W pre2 (by rw [hB,Zqo hp];exact hs6) (hF.last vals W hb fun j hj=>hD j (hp.mem_iff.2 hj))
 | succ f ih=>
  intro done vals listed W hlen hnd hin inv hall hdl hb hD hB
  rw [show f+1+tl.length=(f+tl.length)+1 by omega]
  obtain ⟨u,huR,hud⟩:∃u∈R,u∉done:=by
   by_cases h:∃u∈R,u∉done
   ·exact h
   ·exfalso
    have hsub:∀x∈R,x∈done:=fun x hx=>by
     by_cases hc:x∈done
     ·exact hc
     ·exact absurd ⟨x,hx,hc⟩ h
    have:=Zh4 hRn hsub
    omega
  have hun0:listed.getD u false=false:=by
   cases hc:listed.getD u false with
   | false=>rfl
   | true=>exact absurd (hall u huR hc) hud
  refine ⟨fun h1=>absurd h1 (Zuy hs3 inv.size (hRl u huR) hun0),fun i hi => ?_⟩
  have hil0:i<ops.size:=by
   obtain ⟨-,o,ho,-⟩:=mem_ready.1 hi
   exact (Array.getElem?_eq_some_iff.1 ho).1
  have hiR:i∈R:=by
   have h1:=hs2 i hil0
   rcases h1 with (h1 | h1) | h1
   ·exfalso
    have h2:=(mem_ready.1 hi).1
    rw [hB] at h2
    have h3:=Zgy done l2 i
    simp only [Array.getD_eq_getD_getElem?] at h1 h2
    rw [h3] at h2
    split at h2
    ·cases h2
    ·rw [h1] at h2
     cases h2
   ·simpa using h1
   ·exfalso
    have h2:=tail_waits inv hs4' hRl (by simpa using h1) hi ops.size u (by omega) huR
    rw [hun0] at h2
    cases h2
  have hdep:∀j∈Zgi ops R i,listed.getD j false=true:=fun j hj=>by
   have h1:=hs5 i hiR j hj
   simp only [dep2,Bool.or_eq_true,List.any_eq_true,Bool.and_eq_true] at h1
   obtain ⟨-,oi,hoi,hal⟩:=mem_ready.1 hi
   have hio:∀o,ops[i]? = some o->∀e∈o.after,Region.binds .any e=true->listed.getD e.on false=true:=fun o ho=>by
    obtain rfl:oi=o:=by rw [hoi] at ho;injection ho
    exact hal
   rcases h1 with h1 | ⟨s,-,h2,h3⟩
   ·exact Zco inv h1 hio
   ·exact Zco inv h3 (Zps inv (Zco inv h2 hio))
  obtain ⟨o,d,ho,hdst⟩:=hRo i hiR
  have hdn:dstN ops i=some d:=by simp [dstN,ho,hdst]
  have hun:=(mem_ready.1 hi).1
  have hil:i<listed.size:=by rw [inv.size];exact (Array.getElem?_eq_some_iff.1 ho).1
  have hind:i∉done:=fun h=>by
   have h1:=hdl i h
   rw [getD_both hun] at h1
   cases h1
  have hset:∀j,(listed.setIfInBounds i true).getD j false=if j=i then true else listed.getD j false:=fun j=>by
   simp only [Array.getD_eq_getD_getElem?,Array.getElem?_setIfInBounds]
   by_cases h:i=j
   ·subst h;simp [hil]
   ·rw [if_neg h,if_neg (fun e=>h e.symm)]
  have hdd:∀j∈Zgi ops R i,j∈done:=fun j hj=>hall j (List.mem_filter.1 hj).1 (hdep j hj)
  have hstep:=hF.step i hiR vals W hb (fun j hj=>hD j (hdd j hj)) (fun a3 w3=>∃v,a3=(Zbo ops vals (Zgi ops R i) a0).put o.dst v/\(Below W.heap.size W w3/\D i v w3)) (fun v W' h1 h2=>⟨v,by rw [hdn,hdst],h1,h2⟩)
  have he:∀x∈o.looksAt ops,(Zbo ops vals done a0).eval (.tmp x)=(Zbo ops vals (Zgi ops R i) a0).eval (.tmp x):=by
   intro x hx
   by_cases hex:∃j∈done,dstN ops j=some x
   ·obtain ⟨j,hj,hk⟩:=hex
    have hjR:=hin j hj
    have hsz:=hF.size j hjR x hk
    have hjd:j∈Zgi ops R i:=by
     refine List.mem_filter.2 ⟨hjR,?_⟩
     simp only [hk,ho]
     rw [List.contains_iff_mem]
     exact hx
    rw [Zhl vals hd j x hk done a0 hj hsz,Zhl vals hd j x hk _ a0 hjd hsz]
   ·rw [Zd0 vals (.tmp x) done a0 (fun j hj k hk e=>hex ⟨j,hj,by injection e with e;rw [e];exact hk⟩),Zd0 vals (.tmp x) _ a0 (fun j hj k hk e=>hex ⟨j,hdd j hj,by injection e with e;rw [e];exact hk⟩)]
  have hsw:=Zk9 (a:=Zbo ops vals done a0) ho (fun cs b=>Region.noSelect_spec hsel i o cs b ho) hdst (by rw [Zid];exact hF.size i hiR d hdn) he hQ hstep
  refine wpOp_mono ?_ (hsw.wpOp (by rw [ho];rfl))
  rintro a3 w3 ⟨v,rfl,hb1,hDv⟩
  have hb3:=hb.trans (hb1.mono hb.size)
  refine ⟨fun _ _=>rgb hb3,?_⟩
  have hact:(Zbo ops vals done a0).put o.dst v=Zbo ops (fun j=>if j=i then v else vals j) (done++[i]) a0:=by
   rw [Zic,if_pos rfl,hdn,hdst,Zgl (u:=fun j=>if j=i then v else vals j) (v:=vals) done a0 fun j hj=>by
    have hne:j≠i:=fun e=>hind (by rw [<-e];exact hj)
    exact if_neg hne]
  rw [hact]
  refine ih (done++[i]) _ _ w3 (by rw [List.length_append];simp;omega) ?_ ?_ (Zj5 inv hi) ?_ ?_ hb3 ?_ (by rw [Zqn,<-hB])
  ·rw [List.nodup_append]
   exact ⟨hnd,by simp,fun x hx y hy e=>hind (by simp at hy;rw [<-hy,<-e];exact hx)⟩
  ·intro j hj
   rcases List.mem_append.1 hj with h | h
   ·exact hin j h
   ·simp at h;rw [h];exact hiR
  ·intro j hj h
   rw [hset] at h
   by_cases e:j=i
   ·rw [e];simp
   ·rw [if_neg e] at h
    exact List.mem_append_left _ (hall j hj h)
  ·intro j hj
   rw [hset]
   rcases List.mem_append.1 hj with h | h
   ·by_cases e:j=i
    ·rw [if_pos e]
    ·rw [if_neg e];exact hdl j h
   ·simp at h;rw [if_pos h]
  ·intro j hj
   by_cases e:j=i
   ·subst e;simp only [if_pos];exact hDv
   ·simp only [if_neg e]
    rcases List.mem_append.1 hj with h | h
    ·exact hst _ _ _ _ hb1 (hD j h)
    ·simp at h;exact absurd h e
def Z66 (ops:Array Oper) (tA tB R tl:List Nat):Bool:=
 decide (ops.size=tA.length+(tB.length+(R.length+tl.length)))&&dstB ops&&okR ops R &&
 takeD .any ops (fun _=>true) (fun l1=>takeD .any ops (fun i=>Zit .any ops (fun j => !tl.contains j) i) (fun l2=>decide (l2.size=ops.size)&&Z29 ops R tl l2) tB l1) tA (Array.replicate ops.size false)
theorem Zn7 {id:Nat} {a:Act} {w:World} {l:List Oper} (tA tB R tl:List Nat) (D:Nat->Value->World->Prop) (hst:∀i v W W',Below W.heap.size W W'->D i v W->D i v W') (hm:P.follows .mixedOrders=true) (hQ:∀c a w,Q (.panic c) a w->False) (hsel:Region.noSelect l.toArray=true) (hB:Z66 l.toArray tA tB R tl=true)
 (h:wpQuiet P l.toArray (fun _=>True) (fun a1=>wpQuiet P l.toArray (fun w'=>∃p:Regrown,w'=grow (redrawn w p.d) p.os) (fun a2=>Z4d P l.toArray Q w R tl D a2) (Zah l.toArray tB) a1) (Zah l.toArray tA) a) :
 (Code.region id l.toArray true).wp P Q a w:=by
 generalize l.toArray=ops at *
 simp only [Z66,Bool.and_eq_true,decide_eq_true_eq] at hB
 obtain ⟨⟨⟨hsz,hds⟩,hok⟩,hB⟩:=hB
 refine wp_region_any hm ?_
 have inv0:HeadInv .any ops ops.size (Array.replicate ops.size false):=
  ⟨by simp,fun j oj _ hl=>(by rw [getD_replicate_false] at hl;cases hl),fun t h1 h2=>absurd h2 (by omega)⟩
 have hS0:Rg w { w with drawn:=w.drawn+1 }:=⟨⟨w.drawn+1,#[]⟩,by rw [grow_empty];rfl⟩
 have pre2:∀i∈tl,(!tl.contains i)=false:=fun i hi=>by simp [hi]
 refine Zbs (S:=Rg w) (pre:=fun j => !tl.contains j) _ _ _ _ ?_
 suffices hh:anyP P .any ops Q (Rg w) (fun j => !tl.contains j) (tA.length+(tB.length+(R.length+tl.length))) (Array.replicate ops.size false) a { w with drawn:=w.drawn+1 } by
  rw [<-hsz] at hh
  exact hh
 refine Zbj (T:=fun _=>True) hsel hQ (fun _ _=>trivial) (fun _ _ => .inr (fun _=>trivial)) hS0 (fun l1 a1 hF1 inv1 h1 => ?_) tA _ a hB inv0 h
 refine Zbj (T:=fun w'=>∃p:Regrown,w'=grow (redrawn w p.d) p.os) hsel hQ (fun _ h=>h) (fun i hi => .inl hi) hS0 (fun l2 a2 hF2 inv2 h2 => ?_) tB l1 a1 hF1 inv1 h1
 have hb0:Below w.heap.size w { w with drawn:=w.drawn+1 }:=⟨rfl,rfl,rfl,Nat.le_refl _,fun _ _=>rfl⟩
 simp only [Bool.and_eq_true,decide_eq_true_eq] at hF2
 have hF3:=hF2.2
 simp only [Z29,Bool.and_eq_true,List.all_eq_true,Bool.not_eq_true'] at hF3
 exact Zwb hsel hQ (Zpg hds) hok pre2 (fun h=>regrown_of_below h) hst h2 hF2.2 hF2.1 R.length [] (fun _=>undef) l2 _ (by simp) List.nodup_nil (fun j hj=>by cases hj) inv2 (fun j hj hl=>by rw [hF3.1.1.1.1.1 j hj] at hl;cases hl) (fun j hj=>by cases hj) hb0 (fun j hj=>by cases hj) rfl
theorem Zcj {id:Nat} {a:Act} {w:World} {l:List Oper} (tA tB:List Nat) (E:List Eff) (tl:List Nat) (D:Nat->Value->World->Prop) (hst:∀i v W W',Below W.heap.size W W'->D i v W->D i v W') (hm:P.follows .mixedOrders=true) (hQ:∀c a w,Q (.panic c) a w->False) (hsel:Region.noSelect l.toArray=true)
 (hB:Z66 l.toArray tA tB (E.map (·.1)) tl=true) (hE:effB l.toArray E=true)
 (h:wpQuiet P l.toArray (fun _=>True) (fun a1=>wpQuiet P l.toArray (fun w'=>∃p:Regrown,w'=grow (redrawn w p.d) p.os) (fun a2=>(E.all fun p=>decide (p.2.1<a2.tmps.size))=true/\Zsc P l.toArray Q w D a2 E /\
  ∀W,Below w.heap.size w W->Zv6 D W (E.map fun p=>(p.1,p.2.1)) a2 fun b=>wpList P l.toArray Q (Zah l.toArray tl) b W) (Zah l.toArray tB) a1) (Zah l.toArray tA) a) :
 (Code.region id l.toArray true).wp P Q a w:=by
 refine Zn7 tA tB (E.map (·.1)) tl D hst hm hQ hsel hB (Zb6 (fun a1 h1=>Zb6 (fun a2 h2 => ?_) _ _ h1) _ _ h)
 obtain ⟨hs,hsteps,hlast⟩:=h2
 simp only [effB,List.all_eq_true,Bool.and_eq_true,decide_eq_true_eq] at hE
 have hmap:(E.map fun p=>(p.1,p.2.1)).map (·.1)=E.map (·.1):=by rw [List.map_map];rfl
 refine ⟨fun i hi d hd => ?_,fun i hi vals W hW hD => ?_,fun vals W hW hD => ?_⟩
 ·obtain ⟨p,hp,rfl⟩:=List.mem_map.1 hi
  have h1:=(hE p hp).1.1
  rw [h1] at hd
  injection hd with hd
  subst hd
  simp only [List.all_eq_true,decide_eq_true_eq] at hs
  exact hs p hp
 ·obtain ⟨p,hp,rfl⟩:=List.mem_map.1 hi
  have he:=hE p hp
  rw [he.1.2] at hD ⊢
  rw [he.1.1]
  exact Ze2 vals p.2.2 a2 he.2 (Zht E hsteps p hp W hW) hD
 ·have:=Ze2 (ops:=l.toArray) vals (E.map fun p=>(p.1,p.2.1)) a2 (fun q hq=>by
   obtain ⟨p,hp,rfl⟩:=List.mem_map.1 hq
   exact (hE p hp).1.1) (hlast W hW) (by rw [hmap];exact hD)
  rwa [hmap] at this
end
end
section
open Go.RowKit Go.Sort M
section
variable {P:Program}
theorem Znx {w:World} {g o:Nat} {cur:Array Value} {t:TypeId} {vs:List Value} (hg:w.heap[g]? = some (.cells cur t (0,0))) (hfit:o+vs.length<=cur.size) (h1:∀v∈vs,v.oneCell'=true) :
 w.setCells g o vs=w.setRow g (splice cur.toList o vs).toArray:=by
 have hst:=run_storeCells_at Tryz.prog g o t vs 0 cur w hg (by simpa using hfit) h1
 have hc:∀j,j<vs.length->(w.cell? ⟨g,o+0+j,none⟩).isSome=true:=by
  intro j hj
  rw [cell_of_row w g _ cur t (0,0) hg,Array.getElem?_eq_getElem (by omega)]
  rfl
 have hf:∀j,j<vs.length->w.frozen? ⟨g,o+0+j,none⟩=false:=fun j _=>frozen_of_row w g _ cur t hg
 have hst2:=run_storeCells_cells (P:=Tryz.prog) g o vs 0 w hc hf h1
 rw [hst2] at hst
 injection hst with _ hst
 simp only [Nat.add_zero] at hst
 rw [hst]
 simp [splice]
theorem Zfx {ops:Array Oper} {o:Oper} {a:Act} {w:World} {K:Act->World->Prop} {Q:Exit->Act->World->Prop} {E:Prop}
 (hg:o.guard=none) (s x:Operand) (t:TypeId) (hop:o.op=Op.call { callee:=Callee.builtin Builtin.append,args := #[s,x],argTypes := #[t,t] })
 (e:TypeId) (i:TypeInfo) (size:Nat) (h1:P.underlying t=some (.slice e)) (h2:P.info? e=some i) (h4:i.size=size)
 (b off n cap:Nat) (hs:a.eval s = .slice (some ⟨b,off,none⟩) n cap) (nm:Nat) (off2:Nat) (ho2:off+n*size=off2)
 (ad:Addr) (m c:Nat) (news:List Value) (hx:a.eval x = .slice (some ad) m c) (hnm:n+m=nm) (hn:news.length=m*size) (hc:∀j u,news[j]? = some u->w.cell? (ad.add j)=some u) (h1c:∀u∈news,u.oneCell'=true)
 (hroom:nm<=cap) (cur:Array Value) (ty:TypeId) (hb:w.heap[b]? = some (.cells cur ty (0,0))) (hfit:off2+news.length<=cur.size)
 (hK:∀w',Hid (w'.heap[b]? = some (.cells (splice cur.toList off2 news).toArray ty (0,0)))->w.grownBy w' (some b)->K (a.put o.dst (.slice (some ⟨b,off,none⟩) nm cap)) w') :
 if Region.wanted o (yielded ops a.tmps)=true then Oper.wp P o a w K Q else E:=by
 subst hnm ho2
 refine step_append_room hg s x t hop e i size h1 h2 h4 b off n cap hs ad m c news hx hn hc h1c hroom (fun j hj => ?_) ?_
 ·constructor
  ·rw [cell_of_row w b _ cur ty (0,0) hb,Array.getElem?_eq_getElem (by omega)]
   rfl
  ·exact frozen_of_row w b _ cur ty hb
 ·rw [Znx hb hfit h1c]
  exact hK _ (show _=_ from setRow_heap w b cur _ ty _ hb) (Zcu w b _)
theorem Zgz (w:World) (t e ty:TypeId) (z:Value) (zs:List Value) (ht:P.underlying t=some (.slice e)) (hv:∀w,(zeroValue e).run P w = .ok z w) (hz:(Builtin.zeroCells z.cells 1).toList=zs) (h1:∀v∈zs,v.oneCell'=true)
 (g o c:Nat) (cur:Array Value) (tg:TypeId) (hg:w.heap[g]? = some (.cells cur tg (0,0))) (hfit:o+zs.length<=cur.size) :
 (Builtin.clear_ #[t] ty #[.slice (some ⟨g,o,none⟩) 1 c]).run P w = .ok (.tuple #[]) (w.setRow g (splice cur.toList o zs).toArray):=by
 have hst:=run_storeCells_at P g o tg zs 0 cur w hg (by simpa using hfit) h1
 simp [Builtin.clear_,run_underlying ht,hv,hz,hst,splice]
end
theorem Zk3 {α:Type} (L:List α) (o:Nat) (cs:List α) (ho:o<=L.length):(splice L o cs).take (o+cs.length)=L.take o++cs:=by
 unfold splice
 rw [<-List.append_assoc]
 exact List.take_left' (by rw [List.length_append,List.length_take,Nat.min_eq_left ho])
def rt4:List Value:=[.int .u64 0,.int .u64 0,.int .i64 0,.int .i64 0]
theorem Zp4 (w:World):(zeroValue 41).run Tryz.prog w = .ok (.agg #[.int .u64 0,.int .u64 0,.int .i64 0,.int .i64 0]) w:=by
 obtain ⟨i0,hi0,iz0,-,-⟩:=info_parts Zd1
 simp [zeroValue,typeInfo,hi0,iz0]
theorem Zr4:(Builtin.zeroCells (Value.agg #[.int .u64 0,.int .u64 0,.int .i64 0,.int .i64 0]).cells 1).toList=rt4:=by kernel_rfl
set_option maxRecDepth 100000 in
theorem Zpi (g c m i:Nat) (cur:Array Value) (L:List Rt) (w:World) (hn:L.length=m+1) (hg:w.heap[g]? = some (.cells cur 41 (0,0))) (hc:m+1<=c) (hcm:c<=maxLen) (hcs:cur.size=c*4) (htk:cur.toList.take ((m+1)*4)=rcs L)
 (hi:i<m+1) (hL:m<1048576) :
 Calls Tryz.prog 31 #[.slice (some ⟨g,0,none⟩) (m+1) c,.int .i64 (i:Int),.int .i64 ((i:Int)+1)] w fun e w'=>e = .returned (.slice (some ⟨g,0,none⟩) m c)/\w'.ownsRow 0 41 4 (.slice (some ⟨g,0,none⟩) m c) m (rcs (L.take i++L.drop (i+1)))/\w.grownBy w' (some g):=by
 obtain ⟨i0,hi0,iz0,iz1,iz2⟩:=info_parts Zd1
 have hdl:(L.drop (i+1)).length=m+1-(i+1):=by rw [List.length_drop,hn]
 have hd4:(rcs (L.drop (i+1))).length=(m-i)*4:=by rw [Zaz,hdl];omega
 have hX:=Zbw hg ((i+1)*4) (rcs (L.drop (i+1))) (by
  rw [hd4,<-Zmd,<-htk,List.drop_take]
  congr 1
  omega)
 have hone:∀u∈rcs (L.drop (i+1)),u.oneCell'=true:=Zcb _
 have b0:¬((i:Int)=(i:Int)+1):=by omega
 have b1:(0:Int)<=(i:Int)+1:=by omega
 have b2:(i:Int)+1<=(m:Int)+1:=by omega
 have b3:(i:Int)<=(i:Int)+1:=by omega
 have b4:((i:Int)+1).toNat=i+1:=by omega
 have b5:(i:Int)<=(c:Int):=by omega
 have b6:(m:Int)+1<=(c:Int):=by omega
 generalize hX2:rcs (L.drop (i+1))=X2 at *
 by_cases hci:c=i+1
 ·have hx0:X2=[]:=List.length_eq_zero_iff.1 (by rw [hd4];omega)
  have hX:∀j u,X2[j]? = some u->w.cell? ((⟨g,0,none⟩:Addr).add j)=some u:=fun j u h=>by rw [hx0] at h;simp at h
  obtain rfl:i=m:=by omega
  subst hci
  clear hx0
  go_enter Tryz.func31,Tryz.ntmps31
  go_wp2
  go_region_law (refine Zfx rfl (.tmp 22) (.tmp 25) 35 rfl 41 i0 4 Tryz.underlying35 hi0 iz1 g 0 i (i+1) (by simp [Act.eval,Act.put]) (i) (i*4) (by omega) ⟨g,0,none⟩ (0) (0) X2 (by simp [Act.eval,Act.put]) (by omega) (by first|exact hd4|(rw [hd4];omega)) (fun j u h=>hX j u h) hone (by omega) cur 41 hg (by omega) ?_;intro w4 hg4 hb4)
  have hsl:(splice cur.toList (i*4) X2).length=(i+1)*4:=by rw [length_splice _ _ _ (by rw [hd4,Array.length_toList,hcs];omega),Array.length_toList,hcs]
  obtain ⟨cur4,hcur4⟩:∃x,x=splice cur.toList (i*4) X2:=⟨_,rfl⟩
  have hg4:Hid (w4.heap[g]? = some (.cells cur4.toArray 41 (0,0))):=by show _=_;rw [hcur4];exact hg4.out
  rw [<-hcur4] at hsl
  have hgw4:Hid (w.grownBy w4 (some g)):=(⟨hb4.os,hb4.tape,hb4.output,hb4.size,hb4.block⟩:w.grownBy w4 (some g))
  have HC4:=hid hcur4.symm
  have HX2:=hid hX2
  have HTK:=hid htk
  have HD4:=hid hd4
  have HG4:=hid hg4
  have hcl:∀ty,(Builtin.clear_ #[35] ty #[.slice (some ⟨g,(i)*4,none⟩) 1 (1)]).run Tryz.prog w4 = .ok (.tuple #[]) (w4.setRow g (splice cur4.toArray.toList ((i)*4) rt4).toArray):=fun ty=>Zgz w4 _ _ ty _ rt4 Tryz.underlying35 Zp4 Zr4 (by simp [rt4,Value.oneCell']) g ((i)*4) _ _ _ hg4.out (by simp [rt4,hsl];omega)
  clear hcur4 hX hg htk hX2 hone hb4 hd4 hdl
  have hw5:=setRow_heap w4 g cur4.toArray (splice cur4 ((i)*4) rt4).toArray 41 (0,0) hg4.out
  have hgw5:=World.grownBy.trans hgw4.out (Zcu w4 g (splice cur4 ((i)*4) rt4).toArray)
  have HW5:=hid hw5
  have HGW5:=hid hgw5
  have HSL:=hid hsl
  clear hw5 hgw5 hg4
  go_wp2
  go_ret
  refine ⟨rfl,Zcl (Nat.zero_le _) HW5.out (by omega) hcm (by rw [List.size_toArray,length_splice _ _ _ (by simp [rt4,HSL.out];omega),HSL.out]) ?_,HGW5.out⟩
  have h1:=Zk3 cur.toList (i*4) X2 (by rw [Array.length_toList,hcs];omega)
  rw [HD4.out,show i*4+((i)-i)*4=(i)*4 by omega,HC4.out] at h1
  have h2:=Zf9 cur4 ((i)*4) ((i)*4) rt4 (Nat.le_refl _) (by rw [HSL.out];omega)
  rw [List.toList_toArray,h2,h1,Zal,HX2.out]
  congr 1
  have h3:=congrArg (List.take (i*4)) HTK.out
  rw [List.take_take,Nat.min_eq_left (by omega),Zi2] at h3
  exact h3
 ·skip
  go_enter Tryz.func31,Tryz.ntmps31
  go_wp2
  go_region_law (refine Zfx rfl (.tmp 22) (.tmp 25) 35 rfl 41 i0 4 Tryz.underlying35 hi0 iz1 g 0 i (c) (by simp [Act.eval,Act.put]) (m) (i*4) (by omega) ⟨g,(i+1)*4,none⟩ (m-i) (c-(i+1)) X2 (by simp [Act.eval,Act.put]) (by omega) (by first|exact hd4|(rw [hd4];omega)) (fun j u h=>hX j u h) hone (by omega) cur 41 hg (by omega) ?_;intro w4 hg4 hb4)
  have hsl:(splice cur.toList (i*4) X2).length=(c)*4:=by rw [length_splice _ _ _ (by rw [hd4,Array.length_toList,hcs];omega),Array.length_toList,hcs]
  obtain ⟨cur4,hcur4⟩:∃x,x=splice cur.toList (i*4) X2:=⟨_,rfl⟩
  have hg4:Hid (w4.heap[g]? = some (.cells cur4.toArray 41 (0,0))):=by show _=_;rw [hcur4];exact hg4.out
  rw [<-hcur4] at hsl
  have hgw4:Hid (w.grownBy w4 (some g)):=(⟨hb4.os,hb4.tape,hb4.output,hb4.size,hb4.block⟩:w.grownBy w4 (some g))
  have HC4:=hid hcur4.symm
  have HX2:=hid hX2
  have HTK:=hid htk
  have HD4:=hid hd4
  have HG4:=hid hg4
  have hcl:∀ty,(Builtin.clear_ #[35] ty #[.slice (some ⟨g,(m)*4,none⟩) 1 (c-m)]).run Tryz.prog w4 = .ok (.tuple #[]) (w4.setRow g (splice cur4.toArray.toList ((m)*4) rt4).toArray):=fun ty=>Zgz w4 _ _ ty _ rt4 Tryz.underlying35 Zp4 Zr4 (by simp [rt4,Value.oneCell']) g ((m)*4) _ _ _ hg4.out (by simp [rt4,hsl];omega)
  clear hcur4 hX hg htk hX2 hone hb4 hd4 hdl
  have hw5:=setRow_heap w4 g cur4.toArray (splice cur4 ((m)*4) rt4).toArray 41 (0,0) hg4.out
  have hgw5:=World.grownBy.trans hgw4.out (Zcu w4 g (splice cur4 ((m)*4) rt4).toArray)
  have HW5:=hid hw5
  have HGW5:=hid hgw5
  have HSL:=hid hsl
  clear hw5 hgw5 hg4
  go_wp2
  go_ret
  refine ⟨rfl,Zcl (Nat.zero_le _) HW5.out (by omega) hcm (by rw [List.size_toArray,length_splice _ _ _ (by simp [rt4,HSL.out];omega),HSL.out]) ?_,HGW5.out⟩
  have h1:=Zk3 cur.toList (i*4) X2 (by rw [Array.length_toList,hcs];omega)
  rw [HD4.out,show i*4+((m)-i)*4=(m)*4 by omega,HC4.out] at h1
  have h2:=Zf9 cur4 ((m)*4) ((m)*4) rt4 (Nat.le_refl _) (by rw [HSL.out];omega)
  rw [List.toList_toArray,h2,h1,Zal,HX2.out]
  congr 1
  have h3:=congrArg (List.take (i*4)) HTK.out
  rw [List.take_take,Nat.min_eq_left (by omega),Zi2] at h3
  exact h3
theorem Zqe {C:List Pl} (h4:C.length=4) (i:Int) (k:Ky) (v:Int) :
 (∃j:Nat,∃hj:j<C.length,∃r,i=(j:Int)/\C[j]=some r/\Zfr C i k v=some (r,C.set j (some ⟨k,v⟩)))\/(∃j:Nat,∃hj:j<C.length,i=(j:Int)/\C[j]=none/\Zfr C i k v=none)\/(¬(0<=i/\i<4)/\Zfr C i k v=none):=by
 by_cases h:0<=i/\i<4
 ·obtain ⟨j,rfl⟩:=Int.eq_ofNat_of_zero_le h.1
  have hj:j<C.length:=by omega
  have e:Zfr C (j:Int) k v=match C[j] with | some r=>some (r,C.set j (some ⟨k,v⟩)) | none=>none:=by
   unfold Zfr
   rw [if_pos h.1,Int.toNat_natCast,List.getD_eq_getElem?_getD,List.getElem?_eq_getElem hj]
   rfl
  rw [e]
  cases hc:C[j] with
  | none=>exact .inr (.inl ⟨j,hj,rfl,hc,rfl⟩)
  | some r=>exact .inl ⟨j,hj,r,rfl,hc,rfl⟩
 ·refine .inr (.inr ⟨h,?_⟩)
  unfold Zfr
  split
  ·rw [List.getD_eq_getElem?_getD,List.getElem?_eq_none (by omega)]
   rfl
  ·rfl
def outV (o:Option (Rt×List Pl)):Value := .tuple #[kyV ((o.map Prod.fst).getD ⟨⟨0,0,0⟩,0⟩).k,.int .i64 ((o.map Prod.fst).getD ⟨⟨0,0,0⟩,0⟩).v,.bool o.isSome]
theorem Zoj:outV none = .tuple #[.agg #[.int .u64 0,.int .u64 0,.int .i64 0],.int .i64 0,.bool false]:=rfl
theorem Zx7 (r:Rt) (C:List Pl):outV (some (r,C)) = .tuple #[.agg #[.int .u64 (r.k.h:Int),.int .u64 (r.k.l:Int),.int .i64 r.k.n],.int .i64 r.v,.bool true]:=rfl
structure Three (w w3:World) (k:Ky) (q:List Value):Prop where
 below:Below w.heap.size w w3
 size:w3.heap.size=w.heap.size+3
 b0:w3.cell? ⟨w.heap.size,0,none⟩=some (.int .u64 (k.h:Int))
 b1:w3.cell? ⟨w.heap.size,1,none⟩=some (.int .u64 (k.l:Int))
 b2:w3.cell? ⟨w.heap.size,2,none⟩=some (.int .i64 k.n)
 o0:w3.cell? ⟨w.heap.size+1,0,none⟩=some (.int .u64 0)
 o1:w3.cell? ⟨w.heap.size+1,1,none⟩=some (.int .u64 0)
 o2:w3.cell? ⟨w.heap.size+1,2,none⟩=some (.int .i64 0)
 p0:w3.frozen? ⟨w.heap.size+1,0,none⟩=false
 p1:w3.frozen? ⟨w.heap.size+1,1,none⟩=false
 p2:w3.frozen? ⟨w.heap.size+1,2,none⟩=false
 q:∀j u,q[j]? = some u->w3.cell? ⟨w.heap.size+1+1,j,none⟩=some u
theorem Zwv (w:World) (k:Ky) (q:List Value) (t1 t2 t3:TypeId):Three w (((w.alloc (.cells #[.int .u64 (k.h:Int),.int .u64 (k.l:Int),.int .i64 k.n] t1)).alloc (.cells #[.int .u64 0,.int .u64 0,.int .i64 0] t2)).alloc (.cells q.toArray t3)) k q:=by
 refine ⟨by go_grown,by simp,by simp [go_sem],by simp [go_sem],by simp [go_sem],by simp [go_sem],by simp [go_sem],by simp [go_sem],by simp [go_sem],by simp [go_sem],by simp [go_sem],fun j u hu => ?_⟩
 have:=Zeq ((w.alloc (.cells #[.int .u64 (k.h:Int),.int .u64 (k.l:Int),.int .i64 k.n] t1)).alloc (.cells #[.int .u64 0,.int .u64 0,.int .i64 0] t2)) q.toArray t3 j u hu
 simp only [World.size_alloc] at this
 rwa [show (⟨w.heap.size+1+1,0,none⟩:Addr).add j=⟨w.heap.size+1+1,j,none⟩ by unfold Addr.add;split<;>simp_all] at this
def Zo8 (w:World) (b:Nat) (k:Ky):World:=((w.setCell ⟨b,0,none⟩ (.int .u64 (k.h:Int))).setCell ⟨b,1,none⟩ (.int .u64 (k.l:Int))).setCell ⟨b,2,none⟩ (.int .i64 k.n)
theorem Zrh {w:World} {b:Nat} {k:Ky} {u0 u1 u2:Value} (hb:b<w.heap.size) (h0:w.cell? ⟨b,0,none⟩=some u0) (h1:w.cell? ⟨b,1,none⟩=some u1) (h2:w.cell? ⟨b,2,none⟩=some u2) :
 (Zo8 w b k).drew.cell? ⟨b,0,none⟩=some (.int .u64 (k.h:Int))/\(Zo8 w b k).drew.cell? ⟨b,1,none⟩=some (.int .u64 (k.l:Int))/\(Zo8 w b k).drew.cell? ⟨b,2,none⟩=some (.int .i64 k.n):=by
 unfold Zo8
 refine ⟨?_,?_,?_⟩<;>simp [go_sem,h0,h1,h2]
theorem Zvv {w w1:World} {g o n:Nat} (h:Turn w w1 g o n) (hl:g<w.heap.size) {b:Nat} (k:Ky) (hb:w.heap.size<=b):Turn w (Zo8 w1 b k).drew g o n:=
 (((h.fresh hl b 0 _ hb).fresh hl b 1 _ hb).fresh hl b 2 _ hb).drew hl
theorem RBk.drew {w:World} {g o:Nat} {C:List Pl} (H:RBk w g o C):RBk w.drew g o C:=H.below (by go_grown)
theorem Zzh {w:World} {g o:Nat} {C:List Pl} (H:Bkt w g o C) {b:Nat} (k:Ky) (hne:g≠b):Bkt (Zo8 w b k).drew g o C:=
 (((H.fresh b 0 _ hne).fresh b 1 _ hne).fresh b 2 _ hne).drew
set_option maxRecDepth 100000 in
theorem Zuj (g o:Nat) (C:List Pl) (i:Int) (k:Ky) (v:Int) (w:World) (H:Bkt w g o C) :
 Calls Tryz.prog 171 #[.pointer (some ⟨g,o,none⟩),.int .i64 i,kyV k,.int .i64 v] w fun e w'=>e = .returned (outV (Zfr C i k v))/\Bkt w' g o (((Zfr C i k v).map Prod.snd).getD C)/\Turn w w' g o 20:=by
 have HH:=hid H
 have h4:=H.four
 have hg:=H.lt
 rcases Zqe h4 i k v with ⟨j,hj,r,rfl,hr,hs⟩ | ⟨j,hj,rfl,hr,hs⟩ | ⟨hn,hs⟩
 ·rw [hs,Zx7]
  obtain ⟨r0,r1,r2,r3,r4⟩:=H.at j hj
  rw [hr] at r0 r1 r2 r3 r4
  simp only [xh,xl,xn,xv,Option.isSome_some] at r0 r1 r2 r3 r4
  have f0:=H.free (j*5) (by omega)
  have f1:=H.free (j*5+1) (by omega)
  have f2:=H.free (j*5+2) (by omega)
  have f3:=H.free (j*5+3) (by omega)
  have f4:=H.free (j*5+4) (by omega)
  simp only [<-Nat.add_assoc] at f1 f2 f3 f4
  have hj4:j<4:=by omega
  clear hs hr H
  unfold kyV at *
  go_enter Tryz.func171,Tryz.ntmps171
  go_wp2
  have hT:=Zwv w k [.int .u64 (r.k.h:Int),.int .u64 (r.k.l:Int),.int .i64 r.k.n,.int .i64 r.v,.bool true] 39 39 151
  simp only [List.toArray] at hT
  generalize ((w.alloc (.cells #[.int .u64 (k.h:Int),.int .u64 (k.l:Int),.int .i64 k.n] 39)).alloc (.cells #[.int .u64 0,.int .u64 0,.int .i64 0] 39)).alloc (.cells #[.int .u64 (r.k.h:Int),.int .u64 (r.k.l:Int),.int .i64 r.k.n,.int .i64 r.v,.bool true] 151)=w3 at hT ⊢
  have hz3:=hT.size
  have hl3:g<w3.heap.size:=by omega
  have hP:=HH.out.put_drew hT.below j hj (some ⟨k,v⟩)
  have ht:=(Znj w3 g (o+j*5) (some ⟨k,v⟩)).drew hl3
  have hq0:=(ht.far (b:=w.heap.size+1+1) (by omega) (by omega) 0).1.trans (hT.q 0 _ rfl)
  have hq1:=(ht.far (b:=w.heap.size+1+1) (by omega) (by omega) 1).1.trans (hT.q 1 _ rfl)
  have hq2:=(ht.far (b:=w.heap.size+1+1) (by omega) (by omega) 2).1.trans (hT.q 2 _ rfl)
  have hq3:=(ht.far (b:=w.heap.size+1+1) (by omega) (by omega) 3).1.trans (hT.q 3 _ rfl)
  have ho0:=(ht.far (b:=w.heap.size+1) (by omega) (by omega) 0).1.trans hT.o0
  have ho1:=(ht.far (b:=w.heap.size+1) (by omega) (by omega) 1).1.trans hT.o1
  have ho2:=(ht.far (b:=w.heap.size+1) (by omega) (by omega) 2).1.trans hT.o2
  have hp0:=(ht.far (b:=w.heap.size+1) (by omega) (by omega) 0).2.trans hT.p0
  have hp1:=(ht.far (b:=w.heap.size+1) (by omega) (by omega) 1).2.trans hT.p1
  have hp2:=(ht.far (b:=w.heap.size+1) (by omega) (by omega) 2).2.trans hT.p2
  have hz5:=ht.grown.size
  have H3:=HH.out.below hT.below
  obtain ⟨c0,c1,c2,c3,c4⟩:=H3.at j hj
  have b0:=hT.b0
  have b1:=hT.b1
  have b2:=hT.b2
  have f0:=H3.free (j*5) (by omega)
  have f1:=H3.free (j*5+1) (by omega)
  have f2:=H3.free (j*5+2) (by omega)
  have f3:=H3.free (j*5+3) (by omega)
  have f4:=H3.free (j*5+4) (by omega)
  simp only [<-Nat.add_assoc] at f1 f2 f3 f4
  have HP:=hid (And.intro hP (And.intro hq0 (And.intro hq1 (And.intro hq2 (And.intro hq3 (And.intro ho0 (And.intro ho1 (And.intro ho2 (And.intro hp0 (And.intro hp1 (And.intro hp2 hz5)))))))))))
  clear hP hq0 hq1 hq2 hq3 ho0 ho1 ho2 hp0 hp1 hp2 hz5 ht hT H3 r0 r1 r2 r3 r4
  go_region
  go_wp2_with fail
  show Code.wp _ _ _ _ (put5 w3 g (o+j*5) (some ⟨k,v⟩)).drew
  obtain ⟨hP,hq0,hq1,hq2,hq3,ho0,ho1,ho2,hp0,hp1,hp2,hz5⟩:=HP.out
  clear HP c0 c1 c2 c3 c4 b0 b1 b2 f0 f1 f2 f3 f4
  generalize (put5 w3 g (o+j*5) (some ⟨k,v⟩)).drew=w5 at *
  go_region
  show Exit.then _ _ _ _ (Zo8 w5 (w.heap.size+1) r.k).drew
  obtain ⟨e0,e1,e2⟩:=Zrh (k:=r.k) (by omega) ho0 ho1 ho2
  have hT7:=Zvv hP.2 hg r.k (b:=w.heap.size+1) (by omega)
  have hR7:=Zzh hP.1 r.k (b:=w.heap.size+1) (by omega)
  have HP:=hid (And.intro hR7 hT7)
  clear hP hq0 hq1 hq2 hq3 ho0 ho1 ho2 hp0 hp1 hp2 hR7 hT7
  generalize (Zo8 w5 (w.heap.size+1) r.k).drew=w7 at *
  go_wp2
  refine bodyPost_ret (by simp [results,Tryz.results171,go_sem,e0,e1,e2];try rfl) rfl ?_
  exact ⟨rfl,HP.out.1,HP.out.2⟩
 ·rw [hs,Zoj]
  obtain ⟨r0,r1,r2,r3,hon⟩:=H.at j hj
  rw [hr] at hon
  simp only [Option.isSome_none] at hon
  have hj4:j<4:=by omega
  clear hs hr H r0 r1 r2 r3
  unfold kyV at *
  go_enter Tryz.func171,Tryz.ntmps171
  go_wp2
  refine bodyPost_ret (by simp [results,Tryz.results171,go_sem];try rfl) rfl ?_
  exact ⟨rfl,HH.out.below (by go_grown),Turn.of_below hg (by go_grown)⟩
 ·rw [hs,Zoj]
  by_cases h0:i<0
  ·clear hs hn H
   unfold kyV at *
   go_enter Tryz.func171,Tryz.ntmps171
   go_wp2
   refine bodyPost_ret (by simp [results,Tryz.results171,go_sem];try rfl) rfl ?_
   exact ⟨rfl,HH.out.below (by go_grown),Turn.of_below hg (by go_grown)⟩
  ·have h3:4<=i:=by omega
   clear hs hn H
   unfold kyV at *
   go_enter Tryz.func171,Tryz.ntmps171
   go_wp2
   refine bodyPost_ret (by simp [results,Tryz.results171,go_sem];try rfl) rfl ?_
   exact ⟨rfl,HH.out.below (by go_grown),Turn.of_below hg (by go_grown)⟩
end
end Go.Proofs.YtgfjmgebecmbiaaGreat

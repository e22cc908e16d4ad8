import Derived.Test.YtpdphfgpdgadpaaGreatReg6
set_option linter.unusedSimpArgs false
set_option linter.unusedVariables false
namespace Go.Proofs.YtpdphfgpdgadpaaGreat
open Go Go.RowKit Go.Sort
section
variable {P:Program} {ops:Array Oper} {Q:Exit->Act->World->Prop} {S:World->Prop} {pre:Nat->Bool}
def dstN (ops:Array Oper) (i:Nat):Option Tmp:=(ops[i]?).bind (·.dst)
def Ar (ops:Array Oper) (b:Nat->Value):List Nat->Act->Act
 | [],a=>a
 | j::L,a=>Ar ops b L (a.put (dstN ops j) (b j))
theorem Nc (b:Nat->Value) (i:Nat):∀(L:List Nat) (a:Act),Ar ops b (L++[i]) a=(Ar ops b L a).put (dstN ops i) (b i)
 | [],_=>rfl
 | j::L,a=>by rw [List.cons_append,Ar,Nc b i L];rfl
theorem Uq (a:Act) (d:Option Tmp) (v:Value):(a.put d v).tmps.size=a.tmps.size:=by
 cases d with
 | none=>rfl
 | some d=>simp [Act.put]
theorem Nf (b:Nat->Value):∀(L:List Nat) (a:Act),(Ar ops b L a).tmps.size=a.tmps.size
 | [],_=>rfl
 | j::L,a=>by rw [Ar,Nf b L,Uq]
theorem Ng {u v:Nat->Value}:∀(L:List Nat) (a:Act),(∀j∈L,u j=v j)->Ar ops u L a=Ar ops v L a
 | [],_,_=>rfl
 | j::L,a,h=>by rw [Ar,Ar,h j List.mem_cons_self,Ng L _ λk b=>h k (List.mem_cons_of_mem _ b)]
theorem put_comm (a:Act) (d e:Tmp) (u v:Value) (h:d≠e):(a.put (some d) u).put (some e) v=(a.put (some e) v).put (some d) u:=by simp only [Act.put];rw [Array.setIfInBounds_comm _ _ h]
theorem Ur (b:Nat->Value) (hd:∀i j d,dstN ops i=some d->dstN ops j=some d->i=j) {L M:List Nat} (h:L.Perm M):∀a:Act,Ar ops b L a=Ar ops b M a:=by
 induction h with
 | nil=>intro a;rfl
 | cons x _ ih=>intro a;exact ih _
 | swap x y l=>
  intro a;show Ar ops b l ((a.put (dstN ops y) (b y)).put (dstN ops x) (b x))=Ar ops b l ((a.put (dstN ops x) (b x)).put (dstN ops y) (b y));by_cases c:x=y
  ·subst c;rfl
  ·congr 1;cases k:dstN ops x with
   | none=>rfl
   | some d=>
    cases f:dstN ops y with
    | none=>rfl
    | some e=>exact put_comm a e d _ _ (λh=>c (hd x y d k (by rw [f,h])))
 | trans _ _ ih1 ih2=>intro a;rw [ih1,ih2]
theorem eval_put_same (a:Act) (d:Tmp) (v:Value) (h:d<a.tmps.size):(a.put (some d) v).eval (.tmp d)=v:=by simp [Act.put,Act.eval,Array.getD_eq_getD_getElem?,h]
theorem F7 (b:Nat->Value) (x:Operand):∀(L:List Nat) (a:Act),(∀j∈L,∀d,dstN ops j=some d->x ≠ .tmp d)->(Ar ops b L a).eval x=a.eval x
 | [],_,_=>rfl
 | j::L,a,h=>by rw [Ar,F7 b x L _ λk c=>h k (List.mem_cons_of_mem _ c)];exact Act.eval_put λd hd=>h j List.mem_cons_self d hd
theorem Hm (b:Nat->Value) (hd:∀i j d,dstN ops i=some d->dstN ops j=some d->i=j) (i:Nat) (d:Tmp) (hi:dstN ops i=some d):∀(L:List Nat) (a:Act),i∈L->d<a.tmps.size->(Ar ops b L a).eval (.tmp d)=b i
 | j::L,a,h,l=>by
  rw [Ar];by_cases f:i∈L
  ·exact Hm b hd i d hi L _ f (by rw [Uq];exact l)
  ·have n:i=j:=by
    rcases List.mem_cons.1 h with h | h
    ·exact h
    ·exact absurd h f
   subst n;rw [F7 b (.tmp d) L _ (λk m e o c=>by
    injection c with c
    subst c
    exact f (by rw [hd i k d hi o];exact m)),hi]
   exact eval_put_same a d _ l
def Bu (ops:Array Oper) (R:List Nat) (i:Nat):List Nat:=R.filter λj=>match dstN ops j,ops[i]? with
 | some d,some o=>(o.looksAt ops).contains d
 | _,_=>false
theorem Us {a:Act} {d:Tmp} {u v:Value} (hd:d<a.tmps.size) (h:a.put (some d) u=a.put (some d) v):u=v:=by have:=eval_put_same a d u hd;rw [h,eval_put_same a d v hd] at this;exact this.symm
theorem Ut (a:Act) (g:Nat):yielded ops a.tmps g=match dstN ops g with
 | some t=>(match a.eval (.tmp t) with | .bool b=>some b | _=>none)
 | none=>none:=by
 unfold yielded dstN;cases (ops[g]?).bind (·.dst) with
 | none=>rfl
 | some t=>
  show (match a.tmps[t]? with | some (.bool b)=>some b | _=>none)=match a.tmps.getD t undef with | .bool b=>some b | _=>none
  rw [Array.getD_eq_getD_getElem?];cases a.tmps[t]? with
  | none=>rfl
  | some v=>cases v<;>rfl
theorem Znj {o:Oper} {a b:Act} (h:∀d∈o.looksAt ops,a.eval (.tmp d)=b.eval (.tmp d)):Region.wanted o (yielded ops a.tmps)=Region.wanted o (yielded ops b.tmps):=by
 unfold Region.wanted;cases f:o.guard with
 | none=>rfl
 | some gw=>
  obtain ⟨g,c⟩:=gw;have e:yielded ops a.tmps g=yielded ops b.tmps g:=by
   rw [Ut,Ut];cases hd:dstN ops g with
   | none=>rfl
   | some t=>
    simp only;rw [h t (by
     unfold Oper.looksAt
     rw [f]
     refine List.mem_append_right _ ?_
     show t∈((ops[g]?).bind (·.dst)).toList
     unfold dstN at hd
     rw [hd]
     simp)]
  simp only [e]
theorem Uu {i:Nat} {o:Oper} {d:Tmp} {a b:Act} {w:World} {G:Value->World->Prop} (B:ops[i]? = some o) (p:∀I b,o.op ≠ .select I b) (hd:o.dst=some d) (s:d<b.tmps.size)
 (C:∀d∈o.looksAt ops,a.eval (.tmp d)=b.eval (.tmp d)) (D:∀c a w,Q (.panic c) a w->False) (h:Dp P ops Q i (λz w3=>∃v,z=b.put o.dst v/\G v w3) b w):Dp P ops Q i (λz w3=>∃v,z=a.put o.dst v/\G v w3) a w:=by
 intro E q;obtain rfl:o=E:=by rw [B] at q;injection q
 have h:=h o B;have m:∀x∈o.op.operands,a.eval x=b.eval x:=λx F=>by
  cases x with
  | tmp t=>exact C t (List.mem_append_left _ (List.mem_filterMap.2 ⟨.tmp t,by simpa using F,rfl⟩))
  | _=>rfl
 rw [Znj C];by_cases A:Region.wanted o (yielded ops b.tmps)=true
 case neg=>rw [if_neg A] at h ⊢;obtain ⟨u,j,l⟩:=h;rw [hd] at j ⊢;exact ⟨undef,rfl,by rw [Us s j];exact l⟩
 rw [if_pos A] at h ⊢;unfold Oper.wp at *
 rw [execOp_congr o p m];rw [hd] at h ⊢;have k:∀{u v:Value},b.put (some d) u=b.put (some d) v->u=v:=λh=>Us s h;generalize (execOp b.eval o).run P w=r at h;cases r with
 | ok n w'=>
  cases n with
  | value v=>rw [Oper.upon_value] at h ⊢;obtain ⟨u,j,l⟩:=h;rw [hd] at j ⊢;exact ⟨v,rfl,by rw [k j];exact l⟩
  | skip=>rw [Oper.upon_skip] at h ⊢;obtain ⟨u,j,l⟩:=h;rw [hd] at j ⊢;exact ⟨undef,rfl,by rw [k j];exact l⟩
  | defer x=>rw [Oper.upon_defer] at h;obtain ⟨u,j,-⟩:=h;exfalso;rw [hd] at j;have:=congrArg (λa:Act=>a.defers.length) j;simp [Act.put] at this
  | enter f args=>
   rw [Oper.upon_enter] at h ⊢;refine h.mono ?_;intro e y m;cases e with
   | returned v=>obtain ⟨u,j,l⟩:=m;rw [hd] at j ⊢;exact ⟨v,rfl,by rw [k j];exact l⟩
   | panicked c=>exact (D _ _ _ m).elim
   | outgrown=>exact m
  | row row args=>rw [Oper.upon_row] at h ⊢;refine h.mono ?_;intro v y m;obtain ⟨u,j,l⟩:=m;rw [hd] at j ⊢;exact ⟨v,rfl,by rw [k j];exact l⟩
  | _=>exact h.elim
 | halt x w'=>
  cases x with
  | panic v=>exact (D _ _ _ h).elim
  | _=>exact h.elim
def dstB (ops:Array Oper):Bool:=(List.range ops.size).all λi=>(List.range ops.size).all λj=>decide (i=j)||(dstN ops i).isNone||decide (dstN ops i≠dstN ops j)
theorem Uv (h:dstB ops=true):∀i j d,dstN ops i=some d->dstN ops j=some d->i=j:=by
 intro i j d hi b;have lt:∀k,dstN ops k=some d->k<ops.size:=λk a=>by
  unfold dstN at a;by_cases h:k<ops.size
  ·exact h
  ·rw [Array.getElem?_eq_none Qa] at a;cases a
 simp only [dstB,List.all_eq_true,List.mem_range,Bool.or_eq_true,decide_eq_true_eq,Option.isNone_iff_eq_none] at h;rcases h i (lt i hi) j (lt j b) with (h | h) | h
 ·exact h
 ·rw [hi] at h;cases h
 ·exact absurd (hi.trans b.symm) h
def okR (ops:Array Oper) (R:List Nat):Bool:=decide R.Nodup&&R.all λi=>match ops[i]? with
 | some o=>o.dst.isSome
 | none=>false
def Hn (ops:Array Oper) (R a:List Nat):Nat->Array Bool->Bool
 | 0,listed=>R.all (λi=>listed.getD i false)&&Dq .any ops a listed
 | f+1,listed => !(Region.ready .any ops listed).isEmpty&&(Region.ready .any ops listed).all λi=>R.contains i&&(Bu ops R i).all (λj=>listed.getD j false)&&Hn ops R a f (listed.setIfInBounds i true)
structure Js (P:Program) (ops:Array Oper) (Q:Exit->Act->World->Prop) (w:World) (R tl:List Nat) (D:Nat->Value->World->Prop) (a:Act):Prop where
 size:∀i∈R,∀d,dstN ops i=some d->d<a.tmps.size
 step:∀i∈R,∀(vals:Nat->Value) (W:World),Below w.heap.size w W->(∀j∈Bu ops R i,D j (vals j) W)->∀K:Act->World->Prop,
  (∀v W',Below W.heap.size W W'->D i v W'->K ((Ar ops vals (Bu ops R i) a).put (dstN ops i) v) W')->Dp P ops Q i K (Ar ops vals (Bu ops R i) a) W
 last:∀(vals:Nat->Value) (W:World),Below w.heap.size w W->(∀j∈R,D j (vals j) W)->wpList P ops Q (Ag ops tl) (Ar ops vals R a) W
theorem Z0w {w:World} {R C:List Nat} {D:Nat->Value->World->Prop} {a0:Act} (X:Region.noSelect ops=true) (hQ:∀c a w,Q (.panic c) a w->False) (hd:∀i j d,dstN ops i=some d->dstN ops j=some d->i=j)
 (hR:okR ops R=true) (O:∀i∈C,pre i=false) (a6:∀{w'},Below w.heap.size w w'->S w') (a9:∀i v W W',Below W.heap.size W W'->D i v W->D i v W') (hF:Js P ops Q w R C D a0) :
 ∀(f:Nat) (done:List Nat) (l:Nat->Value) (listed:Array Bool) (W:World),R.length=done.length+f->done.Nodup->(∀j∈done,j∈R)->HeadInv .any ops ops.size listed->(∀j∈R,listed.getD j false=true->j∈done)->(∀j∈done,listed.getD j false=true) ->
  Below w.heap.size w W->(∀j∈done,D j (l j) W)->Hn ops R C f listed=true->anyP P .any ops Q S pre (f+C.length) listed (Ar ops l done a0) W:=by
 have ae:R.Nodup:=by simp only [okR,Qq,decide_eq_true_eq] at hR;exact hR.1
 have ad:∀i∈R,∃o d,ops[i]? = some o/\o.dst=some d:=by
  intro i hi;simp only [okR,Qq,List.all_eq_true] at hR;have:=hR.2 i hi;cases r:ops[i]? with
  | none=>rw [r] at this;cases this
  | some o=>rw [r] at this;obtain ⟨d,t⟩:=Option.isSome_iff_exists.1 this;exact ⟨o,d,rfl,t⟩
 intro f
 induction f with
 | zero=>intro done l listed W Y I s E p K hb hD L;simp only [Hn,Qq,List.all_eq_true] at L;have hp:done.Perm R:=(List.perm_ext_iff_of_nodup I ae).2 λj=>⟨s j,λm=>p j m (L.1 j m)⟩;rw [Nat.zero_add,Ur l hd hp a0];exact F6 C listed _ W O L.2 (hF.last l W hb λj m=>hD j (hp.mem_iff.2 m))
 | succ f ih=>
  intro done l listed W Y I s E p K hb hD L;simp only [Hn,Qq,List.all_eq_true,Bool.not_eq_true',List.isEmpty_eq_false_iff] at L;rw [show f+1+C.length=(f+C.length)+1 by omega];refine ⟨λN=>absurd N L.1,λi hi => ?_⟩;obtain ⟨⟨q,a1⟩,ag⟩:=L.2 i hi;have q:i∈R:=by simpa using q
  obtain ⟨o,d,r,n⟩:=ad i q;have J:dstN ops i=some d:=by simp [dstN,r,n]
  have a7:=(mem_ready.1 hi).1;have ac:i<listed.size:=by rw [E.size];exact (Array.getElem?_eq_some_iff.1 r).1
  have B:i∉done:=λh=>by have N:=K i h;rw [getD_both a7] at N;cases N
  have z:∀j,(listed.setIfInBounds i true).getD j false=if j=i then true else listed.getD j false:=λj=>by
   simp only [Array.getD_eq_getD_getElem?,Array.getElem?_setIfInBounds];by_cases h:i=j
   ·subst h;simp [ac]
   ·rw [if_neg h,if_neg (λe=>h e.symm)]
  have t:∀j∈Bu ops R i,j∈done:=λj m=>p j (List.mem_filter.1 m).1 (by simpa using a1 j m);have F:=hF.step i q l W hb (λj m=>hD j (t j m)) (λa3 w3=>∃v,a3=(Ar ops l (Bu ops R i) a0).put o.dst v/\(Below W.heap.size W w3/\D i v w3)) (λv W' N h2=>⟨v,by rw [J,n],N,h2⟩);have he:∀x∈o.looksAt ops,(Ar ops l done a0).eval (.tmp x)=(Ar ops l (Bu ops R i) a0).eval (.tmp x):=by
   intro x hx;by_cases hex:∃j∈done,dstN ops j=some x
   ·obtain ⟨j,m,A⟩:=hex;have Z:=s j m;have U:=hF.size j Z x A;have ab:j∈Bu ops R i:=by refine List.mem_filter.2 ⟨Z,?_⟩;simp only [A,r];rw [List.contains_iff_mem];exact hx
    rw [Hm l hd j x A done a0 m U,Hm l hd j x A _ a0 ab U]
   ·rw [F7 l (.tmp x) done a0 (λj m k A e=>hex ⟨j,m,by injection e with e;rw [e];exact A⟩),F7 l (.tmp x) _ a0 (λj m k A e=>hex ⟨j,t j m,by injection e with e;rw [e];exact A⟩)]
  have a8:=Uu (a:=Ar ops l done a0) r (λcs b=>Region.noSelect_spec X i o cs b r) n (by rw [Nf];exact hF.size i q d J) he hQ F;refine wpOp_mono ?_ (a8.wpOp (by rw [r];rfl));rintro a3 w3 ⟨v,rfl,a4,af⟩;have a2:=hb.trans (a4.mono hb.size);refine ⟨λ_ _=>a6 a2,?_⟩;have a5:(Ar ops l done a0).put o.dst v=Ar ops (λj=>if j=i then v else l j) (done++[i]) a0:=by
   rw [Nc,if_pos rfl,J,n,Ng (u:=λj=>if j=i then v else l j) (v:=l) done a0 λj m=>by
    have aa:j≠i:=λe=>B (by rw [<-e];exact m)
    exact if_neg aa]
  rw [a5];refine ih (done++[i]) _ _ w3 (by rw [Qo];simp;omega) ?_ ?_ (Hk E hi) ?_ ?_ a2 ?_ ag
  ·rw [List.nodup_append];exact ⟨I,Qf,λx hx y hy e=>B (by simp at hy;rw [<-hy,<-e];exact hx)⟩
  ·intro j m;rcases List.mem_append.1 m with h | h
   ·exact s j h
   ·simp at h;rw [h];exact q
  ·intro j m h;rw [z] at h;by_cases e:j=i
   ·rw [e];simp
   ·rw [if_neg e] at h;exact List.mem_append_left _ (p j m h)
  ·intro j m;rw [z];rcases List.mem_append.1 m with h | h
   ·by_cases e:j=i
    ·rw [if_pos e]
    ·rw [if_neg e];exact K j h
   ·simp at h;rw [if_pos h]
  ·intro j m;by_cases e:j=i
   ·subst e;simp only [if_pos];exact af
   ·simp only [if_neg e];rcases List.mem_append.1 m with h | h
    ·exact a9 _ _ _ _ a4 (hD j h)
    ·simp at h;exact absurd h e
def allB (ops:Array Oper) (c b R a:List Nat):Bool:=
 decide (ops.size=c.length+(b.length+(R.length+a.length)))&&dstB ops&&okR ops R &&
 takeD .any ops (λ_=>true) (λe=>takeD .any ops (λi=>Eu .any ops (λj => !a.contains j) i) (λd=>R.all (λi => !d.getD i false)&&Hn ops R a R.length d) b e) c (Array.replicate ops.size false)
theorem Zq0 {Y:Nat} {a:Act} {w:World} {l:List Oper} (x u R e:List Nat) (D:Nat->Value->World->Prop) (A:∀i v W W',Below W.heap.size W W'->D i v W->D i v W') (Z:P.follows .mixedOrders=true) (F:∀c a w,Q (.panic c) a w->False) (b:Region.noSelect l.toArray=true) (y:allB l.toArray x u R e=true)
 (h:wpQuiet P l.toArray (λ_=>True) (λK=>wpQuiet P l.toArray (λw'=>∃p:Regrown,w'=grow (redrawn w p.d) p.os) (λO=>Js P l.toArray Q w R e D O) (Ag l.toArray u) K) (Ag l.toArray x) a) :
 (Code.region Y l.toArray true).wp P Q a w:=by
 generalize l.toArray=ops at *
 simp only [allB,Qq,decide_eq_true_eq] at y;obtain ⟨⟨⟨z,C⟩,B⟩,y⟩:=y;refine wp_region_any Z ?_;have q:HeadInv .any ops ops.size (Array.replicate ops.size false):=
  ⟨Qf,λj oj _ r=>(by rw [getD_replicate_false] at r;cases r),λt N J=>absurd J Qa⟩
 have s:Rg w { w with drawn:=w.drawn+1 }:=⟨⟨w.drawn+1,#[]⟩,by rw [grow_empty];rfl⟩;have m:∀i∈e,(!e.contains i)=false:=λi hi=>by simp [hi]
 refine F5 (S:=Rg w) (pre:=λj => !e.contains j) _ _ _ _ ?_;suffices L:anyP P .any ops Q (Rg w) (λj => !e.contains j) (x.length+(u.length+(R.length+e.length))) (Array.replicate ops.size false) a { w with drawn:=w.drawn+1 } by rw [<-z] at L;exact L
 refine D7 (T:=λ_=>True) b F (λ_ _=>trivial) (λ_ _ => .inr (λ_=>trivial)) s (λX K I o N => ?_) x _ a y q h;refine D7 (T:=λw'=>∃p:Regrown,w'=grow (redrawn w p.d) p.os) b F (λ_ h=>h) (λi hi => .inl hi) s (λU O k n J => ?_) u X K I o N;have E:Below w.heap.size w { w with drawn:=w.drawn+1 }:=⟨rfl,rfl,rfl,Qn _,λ_ _=>rfl⟩;simp only [Qq,List.all_eq_true,Bool.not_eq_true'] at k;exact Z0w b F (Uv C) B m (λh=>regrown_of_below h) A J R.length [] (λ_=>undef) U _ Qf List.nodup_nil (λj f=>by cases f) n (λj f r=>by rw [k.1 j f] at r;cases r) (λj f=>by cases f) E (λj f=>by cases f) k.2
def F8 (D:Nat->Value->World->Prop) (W:World):List (Nat×Tmp)->Act->(Act->Prop)->Prop
 | [],a,F=>F a
 | p::L,a,F=>∀v,D p.1 v W->F8 D W L (a.put (some p.2) v) F
abbrev Eff:=Nat×Tmp×List (Nat×Tmp)
def Jt (P:Program) (ops:Array Oper) (Q:Exit->Act->World->Prop) (w:World) (D:Nat->Value->World->Prop) (a:Act):List Eff->Prop
 | []=>True
 | p::E=>(∀W,Below w.heap.size w W->F8 D W p.2.2 a λb=>∀K:Act->World->Prop,(∀v W',Below W.heap.size W W'->D p.1 v W'->K (b.put (some p.2.1) v) W')->Dp P ops Q p.1 K b W)/\Jt P ops Q w D a E
def effB (ops:Array Oper) (E:List Eff):Bool:=E.all λp=>decide (dstN ops p.1=some p.2.1)&&decide (Bu ops (E.map (·.1)) p.1=p.2.2.map (·.1))&&p.2.2.all λq=>decide (dstN ops q.1=some q.2)
theorem Ho {D:Nat->Value->World->Prop} {W:World} {F:Act->Prop} (b:Nat->Value):∀(L:List (Nat×Tmp)) (a:Act),(∀q∈L,dstN ops q.1=some q.2)->F8 D W L a F->(∀j∈L.map (·.1),D j (b j) W)->F (Ar ops b (L.map (·.1)) a)
 | [],_,_,h,_=>h
 | p::L,a,c,h,d=>by rw [List.map_cons,Ar,c p List.mem_cons_self];exact Ho b L _ (λq e=>c q (List.mem_cons_of_mem _ e)) (h _ (d p.1 Qf)) (λj f=>d j (by rw [List.map_cons];exact List.mem_cons_of_mem _ f))
theorem Nh {w:World} {D:Nat->Value->World->Prop} {a:Act}:∀(E:List Eff),Jt P ops Q w D a E->∀p∈E,∀W,Below w.heap.size w W->F8 D W p.2.2 a λb=>∀K:Act->World->Prop,(∀v W',Below W.heap.size W W'->D p.1 v W'->K (b.put (some p.2.1) v) W')->Dp P ops Q p.1 K b W
 | [],_,p,c=>by cases c
 | q::E,h,p,c=>by
  rcases List.mem_cons.1 c with e | c
  ·subst e;exact h.1
  ·exact Nh E h.2 p c
theorem Zu5 {I:Nat} {a:Act} {w:World} {l:List Oper} (x u:List Nat) (E:List Eff) (t:List Nat) (D:Nat->Value->World->Prop) (y:∀i v W W',Below W.heap.size W W'->D i v W->D i v W') (K:P.follows .mixedOrders=true) (L:∀c a w,Q (.panic c) a w->False) (o:Region.noSelect l.toArray=true)
 (N:allB l.toArray x u (E.map (·.1)) t=true) (r:effB l.toArray E=true)
 (h:wpQuiet P l.toArray (λ_=>True) (λF=>wpQuiet P l.toArray (λw'=>∃p:Regrown,w'=grow (redrawn w p.d) p.os) (λn=>(E.all λp=>decide (p.2.1<n.tmps.size))=true/\Jt P l.toArray Q w D n E /\
  ∀W,Below w.heap.size w W->F8 D W (E.map λp=>(p.1,p.2.1)) n λb=>wpList P l.toArray Q (Ag l.toArray t) b W) (Ag l.toArray u) F) (Ag l.toArray x) a) :
 (Code.region I l.toArray true).wp P Q a w:=by
 refine Zq0 x u (E.map (·.1)) t D y K L o N (Ed (λF B=>Ed (λn O => ?_) _ _ B) _ _ h);obtain ⟨C,f,m⟩:=O;simp only [effB,List.all_eq_true,Qq,decide_eq_true_eq] at r;have j:(E.map λp=>(p.1,p.2.1)).map (·.1)=E.map (·.1):=by rw [List.map_map];rfl
 refine ⟨λi hi d hd => ?_,λi hi e W A s => ?_,λe W A s => ?_⟩
 ·obtain ⟨p,k,rfl⟩:=List.mem_map.1 hi;have B:=(r p k).1.1;rw [B] at hd;injection hd with hd;subst hd;simp only [List.all_eq_true,decide_eq_true_eq] at C;exact C p k
 ·obtain ⟨p,k,rfl⟩:=List.mem_map.1 hi;have z:=r p k;rw [z.1.2] at s ⊢;rw [z.1.1];exact Ho e p.2.2 n z.2 (Nh E f p k W A) s
 ·have:=Ho (ops:=l.toArray) e (E.map λp=>(p.1,p.2.1)) n (λq J=>by
   obtain ⟨p,k,rfl⟩:=List.mem_map.1 J
   exact (r p k).1.1) (m W A) (by rw [j];exact s)
  rwa [j] at this
end
section
variable {P:Program} {ops:Array Oper} {Q:Exit->Act->World->Prop} {S:World->Prop} {pre:Nat->Bool}
def Ds (L:List Nat) (l:Array Bool):Array Bool:=L.foldl (λl i=>l.setIfInBounds i true) l
theorem Zqx (L:List Nat) (i:Nat) (l:Array Bool):Ds (L++[i]) l=(Ds L l).setIfInBounds i true:=by unfold Ds;rw [List.foldl_append];rfl
theorem Ju:∀(L:List Nat) (l:Array Bool) (j:Nat),(Ds L l)[j]? = if j∈L/\j<l.size then some true else l[j]?
 | [],l,j=>by simp [Ds]
 | i::L,l,j=>by
  show (Ds L (l.setIfInBounds i true))[j]? = _;rw [Ju L];simp only [Array.size_setIfInBounds,Array.getElem?_setIfInBounds,List.mem_cons];by_cases a:j∈L/\j<l.size
  ·rw [if_pos a,if_pos ⟨.inr a.1,a.2⟩]
  ·rw [if_neg a];by_cases d:i=j
   ·subst d;by_cases c:i<l.size<;>simp [c]
   ·have c:j≠i:=λh=>d h.symm;simp only [if_neg d];rw [if_neg];rintro ⟨b | b,e⟩
    ·exact c b
    ·exact a ⟨b,e⟩
theorem Ni:∀{L M:List Nat},L.Nodup->(∀k∈L,k∈M)->L.length<=M.length
 | [],_,_,_=>Nat.zero_le _
 | a::L,M,d,h=>by have ha:=h a List.mem_cons_self;have c:=List.nodup_cons.1 d;have:=Ni (M:=M.erase a) c.2 λk b=>(List.mem_erase_of_ne (λe=>c.1 (by rw [<-e];exact b))).2 (h k (List.mem_cons_of_mem _ b));rw [List.length_erase_of_mem ha] at this;have f:0<M.length:=List.length_pos_of_mem ha;simp only [Qt];omega
theorem Zqy {L M:List Nat} (h:L.Perm M) (l:Array Bool):Ds L l=Ds M l:=by apply Array.ext_getElem?;intro j;rw [Ju,Ju];have:j∈L↔j∈M:=h.mem_iff;simp only [this]
def Nj (ops:Array Oper):Bool:=(List.range ops.size).all λi=>match ops[i]? with
 | some o=>o.after.all λe => !Region.binds .any e||decide (e.on<i)
 | none=>true
def dep2 (ops:Array Oper) (R:List Nat) (i j:Nat):Bool:=Region.waitsFor .any ops i j||R.any λs=>Region.waitsFor .any ops i s&&Region.waitsFor .any ops s j
def Jv (ops:Array Oper) (R a:List Nat) (b:Array Bool):Bool:=
 R.all (λi => !b.getD i false)&&(List.range ops.size).all (λi=>b.getD i true||R.contains i||a.contains i)&&Nj ops &&
 R.all (λr=>a.all (λt=>Region.waitsFor .any ops t r)||R.any λs=>decide (r<s)&&Region.waitsFor .any ops s r) &&
 R.all (λi=>(Bu ops R i).all λj=>dep2 ops R i j)&&Dq .any ops a (Ds R b)
theorem Zu6 {listed:Array Bool} (j:Nj ops=true) (p:listed.size=ops.size) {r:Nat} (l:r<ops.size) (a:listed.getD r false=false):Region.ready .any ops listed≠[]:=by
 intro c;have all:∀n i,i<n->i<ops.size->listed.getD i true=true:=by
  intro n
  induction n with
  | zero=>intro i h;omega
  | succ n ih=>
   intro i h hi;cases m:listed.getD i true with
   | true=>rfl
   | false=>
    exfalso;have f:i∈Region.ready .any ops listed:=by refine mem_ready.2 ⟨m,ops[i],Array.getElem?_eq_getElem hi,λe c o => ?_⟩;simp only [Nj,List.all_eq_true,List.mem_range] at j;have b:=j i hi;rw [Array.getElem?_eq_getElem hi] at b;simp only [Array.all_eq_true'] at b;have k:=b e c;rw [o] at k;simp only [Bool.not_true,Bool.false_or,decide_eq_true_eq] at k;have d:=ih e.on Qa Qa;simp only [Array.getD_eq_getD_getElem?] at d ⊢;rw [Array.getElem?_eq_getElem Qa] at d ⊢;exact d
    rw [c] at f;cases f
 have b:=all (r+1) r Qa l;simp only [Array.getD_eq_getD_getElem?] at b a;rw [Array.getElem?_eq_getElem Qa] at b a;rw [show listed[r]=true from b] at a;cases a
theorem Hp {listed:Array Bool} (b:HeadInv .any ops ops.size listed) {s r:Nat} (h:Region.waitsFor .any ops s r=true) (c:(∀o,ops[s]? = some o->∀e∈o.after,Region.binds .any e=true->listed.getD e.on false=true)):listed.getD r false=true:=by
 obtain ⟨o,d,e,f,i,a⟩:=Region.waitsFor_spec h;have:=c o d e f i
 rwa [a] at this
theorem Uw {listed:Array Bool} (a:HeadInv .any ops ops.size listed) {s:Nat} (b:listed.getD s false=true):∀o,ops[s]? = some o->∀e∈o.after,Region.binds .any e=true->listed.getD e.on false=true:=λo c=>a.closed s o c b
theorem tail_waits {R j:List Nat} {listed:Array Bool} (a:HeadInv .any ops ops.size listed) (u:∀r∈R,(∀t∈j,Region.waitsFor .any ops t r=true)\/∃s∈R,r<s/\Region.waitsFor .any ops s r=true) (b:∀r∈R,r<ops.size) {t:Nat} (p:t∈j) (q:t∈Region.ready .any ops listed) :
 ∀n r,ops.size-r<=n->r∈R->listed.getD r false=true:=by
 obtain ⟨-,m,d,f⟩:=mem_ready.1 q;have c:∀o,ops[t]? = some o->∀e∈o.after,Region.binds .any e=true->listed.getD e.on false=true:=λo l=>by
  obtain rfl:m=o:=by rw [d] at l;injection l
  exact f
 intro n
 induction n with
 | zero=>intro r x i;have:=b r i;omega
 | succ n ih=>
  intro r x i;rcases u r i with h | ⟨s,k,y,w⟩
  ·exact Hp a (h t p) c
  ·have:=b s k;exact Hp a w (Uw a (ih s Qa k))
theorem Zwc {w:World} {R K:List Nat} {D:Nat->Value->World->Prop} {a0:Act} (a6:Region.noSelect ops=true) (hQ:∀c a w,Q (.panic c) a w->False) (hd:∀i j d,dstN ops i=some d->dstN ops j=some d->i=j)
 (hR:okR ops R=true) (a2:∀i∈K,pre i=false) (ak:∀{w'},Below w.heap.size w w'->S w') (ao:∀i v W W',Below W.heap.size W W'->D i v W->D i v W') (hF:Js P ops Q w R K D a0) {l2:Array Bool} (ag:Jv ops R K l2=true) (b4:l2.size=ops.size) :
 ∀(f:Nat) (done:List Nat) (l:Nat->Value) (listed:Array Bool) (W:World),R.length=done.length+f->done.Nodup->(∀j∈done,j∈R)->HeadInv .any ops ops.size listed->(∀j∈R,listed.getD j false=true->j∈done)->(∀j∈done,listed.getD j false=true) ->
  Below w.heap.size w W->(∀j∈done,D j (l j) W)->listed=Ds done l2->anyP P .any ops Q S pre (f+K.length) listed (Ar ops l done a0) W:=by
 have ai:R.Nodup:=by simp only [okR,Qq,decide_eq_true_eq] at hR;exact hR.1
 have ah:∀i∈R,∃o d,ops[i]? = some o/\o.dst=some d:=by
  intro i hi;simp only [okR,Qq,List.all_eq_true] at hR;have:=hR.2 i hi;cases q:ops[i]? with
  | none=>rw [q] at this;cases this
  | some o=>rw [q] at this;obtain ⟨d,J⟩:=Option.isSome_iff_exists.1 this;exact ⟨o,d,rfl,J⟩
 simp only [Jv,Qq,List.all_eq_true,Bool.or_eq_true,Bool.not_eq_true',List.any_eq_true,decide_eq_true_eq,List.mem_range] at ag;obtain ⟨⟨⟨⟨⟨b5,av⟩,au⟩,ar⟩,aq⟩,ap⟩:=ag;have a7:∀r∈R,(∀t∈K,Region.waitsFor .any ops t r=true)\/∃s∈R,r<s/\Region.waitsFor .any ops s r=true:=ar;have aj:∀r∈R,r<ops.size:=λr hr=>by obtain ⟨o,d,q,-⟩:=ah r hr;exact (Array.getElem?_eq_some_iff.1 q).1
 intro f
 induction f with
 | zero=>
  intro done l listed W a8 I E p A a1 hb hD hB;have hp:done.Perm R:=(List.perm_ext_iff_of_nodup I ai).2 λj=>⟨E j,λm=>by
   by_cases hc:j∈done
   ·exact hc
   ·exfalso
    have:=Ni (L:=j::done) (M:=R) (List.nodup_cons.2 ⟨hc,I⟩) (λk C=>by
     rcases List.mem_cons.1 C with rfl | C
     ·exact m
     ·exact E k C)
    simp only [Qt] at this
    omega⟩
  rw [Nat.zero_add,Ur l hd hp a0];exact F6 K listed _ W a2 (by rw [hB,Zqy hp];exact ap) (hF.last l W hb λj m=>hD j (hp.mem_iff.2 m))
 | succ f ih=>
  intro done l listed W a8 I E p A a1 hb hD hB;rw [show f+1+K.length=(f+K.length)+1 by omega];obtain ⟨u,X,am⟩:∃u∈R,u∉done:=by
   by_cases h:∃u∈R,u∉done
   ·exact h
   ·exfalso;have a5:∀x∈R,x∈done:=λx hx=>by
     by_cases hc:x∈done
     ·exact hc
     ·exact absurd ⟨x,hx,hc⟩ h
    have:=Ni ai a5;omega
  have N:listed.getD u false=false:=by
   cases hc:listed.getD u false with
   | false=>rfl
   | true=>exact absurd (A u X hc) am
  refine ⟨λn=>absurd n (Zu6 au p.size (aj u X) N),λi hi => ?_⟩;have ab:i<ops.size:=by obtain ⟨-,o,q,-⟩:=mem_ready.1 hi;exact (Array.getElem?_eq_some_iff.1 q).1
  have F:i∈R:=by
   have n:=av i ab;rcases n with (n | n) | n
   ·exfalso;have B:=(mem_ready.1 hi).1;rw [hB] at B;have h3:=Ju done l2 i;simp only [Array.getD_eq_getD_getElem?] at n B;rw [h3] at B;split at B
    ·cases B
    ·rw [n] at B;cases B
   ·simpa using n
   ·exfalso;have B:=tail_waits p a7 aj (by simpa using n) hi ops.size u Qa X;rw [N] at B;cases B
  have ac:∀j∈Bu ops R i,listed.getD j false=true:=λj m=>by
   have n:=aq i F j m;simp only [dep2,Bool.or_eq_true,List.any_eq_true,Qq] at n;obtain ⟨-,oi,aw,b0⟩:=mem_ready.1 hi;have aa:∀o,ops[i]? = some o->∀e∈o.after,Region.binds .any e=true->listed.getD e.on false=true:=λo q=>by
    obtain rfl:oi=o:=by rw [aw] at q;injection q
    exact b0
   rcases n with n | ⟨s,-,B,h3⟩
   ·exact Hp p n aa
   ·exact Hp p h3 (Uw p (Hp p B aa))
  obtain ⟨o,d,q,z⟩:=ah i F;have Z:dstN ops i=some d:=by simp [dstN,q,z]
  have al:=(mem_ready.1 hi).1;have az:i<listed.size:=by rw [p.size];exact (Array.getElem?_eq_some_iff.1 q).1
  have U:i∉done:=λh=>by have n:=a1 i h;rw [getD_both al] at n;cases n
  have O:∀j,(listed.setIfInBounds i true).getD j false=if j=i then true else listed.getD j false:=λj=>by
   simp only [Array.getD_eq_getD_getElem?,Array.getElem?_setIfInBounds];by_cases h:i=j
   ·subst h;simp [az]
   ·rw [if_neg h,if_neg (λe=>h e.symm)]
  have J:∀j∈Bu ops R i,j∈done:=λj m=>A j (List.mem_filter.1 m).1 (ac j m);have Y:=hF.step i F l W hb (λj m=>hD j (J j m)) (λa3 w3=>∃v,a3=(Ar ops l (Bu ops R i) a0).put o.dst v/\(Below W.heap.size W w3/\D i v w3)) (λv W' n B=>⟨v,by rw [Z,z],n,B⟩);have he:∀x∈o.looksAt ops,(Ar ops l done a0).eval (.tmp x)=(Ar ops l (Bu ops R i) a0).eval (.tmp x):=by
   intro x hx;by_cases hex:∃j∈done,dstN ops j=some x
   ·obtain ⟨j,m,C⟩:=hex;have a9:=E j m;have a4:=hF.size j a9 x C;have ay:j∈Bu ops R i:=by refine List.mem_filter.2 ⟨a9,?_⟩;simp only [C,q];rw [List.contains_iff_mem];exact hx
    rw [Hm l hd j x C done a0 m a4,Hm l hd j x C _ a0 ay a4]
   ·rw [F7 l (.tmp x) done a0 (λj m k C e=>hex ⟨j,m,by injection e with e;rw [e];exact C⟩),F7 l (.tmp x) _ a0 (λj m k C e=>hex ⟨j,J j m,by injection e with e;rw [e];exact C⟩)]
  have an:=Uu (a:=Ar ops l done a0) q (λcs b=>Region.noSelect_spec a6 i o cs b q) z (by rw [Nf];exact hF.size i F d Z) he hQ Y;refine wpOp_mono ?_ (an.wpOp (by rw [q];rfl));rintro a3 w3 ⟨v,rfl,ae,b3⟩;have ad:=hb.trans (ae.mono hb.size);refine ⟨λ_ _=>ak ad,?_⟩;have af:(Ar ops l done a0).put o.dst v=Ar ops (λj=>if j=i then v else l j) (done++[i]) a0:=by
   rw [Nc,if_pos rfl,Z,z,Ng (u:=λj=>if j=i then v else l j) (v:=l) done a0 λj m=>by
    have ax:j≠i:=λe=>U (by rw [<-e];exact m)
    exact if_neg ax]
  rw [af];refine ih (done++[i]) _ _ w3 (by rw [Qo];simp;omega) ?_ ?_ (Hk p hi) ?_ ?_ ad ?_ (by rw [Zqx,<-hB])
  ·rw [List.nodup_append];exact ⟨I,Qf,λx hx y hy e=>U (by simp at hy;rw [<-hy,<-e];exact hx)⟩
  ·intro j m;rcases List.mem_append.1 m with h | h
   ·exact E j h
   ·simp at h;rw [h];exact F
  ·intro j m h;rw [O] at h;by_cases e:j=i
   ·rw [e];simp
   ·rw [if_neg e] at h;exact List.mem_append_left _ (A j m h)
  ·intro j m;rw [O];rcases List.mem_append.1 m with h | h
   ·by_cases e:j=i
    ·rw [if_pos e]
    ·rw [if_neg e];exact a1 j h
   ·simp at h;rw [if_pos h]
  ·intro j m;by_cases e:j=i
   ·subst e;simp only [if_pos];exact b3
   ·simp only [if_neg e];rcases List.mem_append.1 m with h | h
    ·exact ao _ _ _ _ ae (hD j h)
    ·simp at h;exact absurd h e
def Nk (ops:Array Oper) (c b R a:List Nat):Bool:=
 decide (ops.size=c.length+(b.length+(R.length+a.length)))&&dstB ops&&okR ops R &&
 takeD .any ops (λ_=>true) (λe=>takeD .any ops (λi=>Eu .any ops (λj => !a.contains j) i) (λd=>decide (d.size=ops.size)&&Jv ops R a d) b e) c (Array.replicate ops.size false)
theorem Zoa {Z:Nat} {a:Act} {w:World} {l:List Oper} (y x R f:List Nat) (D:Nat->Value->World->Prop) (B:∀i v W W',Below W.heap.size W W'->D i v W->D i v W') (hm:P.follows .mixedOrders=true) (I:∀c a w,Q (.panic c) a w->False) (b:Region.noSelect l.toArray=true) (z:Nk l.toArray y x R f=true)
 (h:wpQuiet P l.toArray (λ_=>True) (λL=>wpQuiet P l.toArray (λw'=>∃p:Regrown,w'=grow (redrawn w p.d) p.os) (λU=>Js P l.toArray Q w R f D U) (Ag l.toArray x) L) (Ag l.toArray y) a) :
 (Code.region Z l.toArray true).wp P Q a w:=by
 generalize l.toArray=ops at *
 simp only [Nk,Qq,decide_eq_true_eq] at z;obtain ⟨⟨⟨A,E⟩,C⟩,z⟩:=z;refine wp_region_any hm ?_;have q:HeadInv .any ops ops.size (Array.replicate ops.size false):=
  ⟨Qf,λj oj _ r=>(by rw [getD_replicate_false] at r;cases r),λt O K=>absurd K Qa⟩
 have s:Rg w { w with drawn:=w.drawn+1 }:=⟨⟨w.drawn+1,#[]⟩,by rw [grow_empty];rfl⟩;have m:∀i∈f,(!f.contains i)=false:=λi hi=>by simp [hi]
 refine F5 (S:=Rg w) (pre:=λj => !f.contains j) _ _ _ _ ?_;suffices N:anyP P .any ops Q (Rg w) (λj => !f.contains j) (y.length+(x.length+(R.length+f.length))) (Array.replicate ops.size false) a { w with drawn:=w.drawn+1 } by rw [<-A] at N;exact N
 refine D7 (T:=λ_=>True) b I (λ_ _=>trivial) (λ_ _ => .inr (λ_=>trivial)) s (λY L J o O => ?_) y _ a z q h;refine D7 (T:=λw'=>∃p:Regrown,w'=grow (redrawn w p.d) p.os) b I (λ_ h=>h) (λi hi => .inl hi) s (λX U e n K => ?_) x Y L J o O;have F:Below w.heap.size w { w with drawn:=w.drawn+1 }:=⟨rfl,rfl,rfl,Qn _,λ_ _=>rfl⟩;simp only [Qq,decide_eq_true_eq] at e;have u:=e.2;simp only [Jv,Qq,List.all_eq_true,Bool.not_eq_true'] at u;exact Zwc b I (Uv E) C m (λh=>regrown_of_below h) B K e.2 e.1 R.length [] (λ_=>undef) X _ Qf List.nodup_nil (λj k=>by cases k) n (λj k r=>by rw [u.1.1.1.1.1 j k] at r;cases r) (λj k=>by cases k) F (λj k=>by cases k) rfl
theorem Jw {I:Nat} {a:Act} {w:World} {l:List Oper} (x u:List Nat) (E:List Eff) (t:List Nat) (D:Nat->Value->World->Prop) (y:∀i v W W',Below W.heap.size W W'->D i v W->D i v W') (K:P.follows .mixedOrders=true) (L:∀c a w,Q (.panic c) a w->False) (o:Region.noSelect l.toArray=true)
 (N:Nk l.toArray x u (E.map (·.1)) t=true) (r:effB l.toArray E=true)
 (h:wpQuiet P l.toArray (λ_=>True) (λF=>wpQuiet P l.toArray (λw'=>∃p:Regrown,w'=grow (redrawn w p.d) p.os) (λn=>(E.all λp=>decide (p.2.1<n.tmps.size))=true/\Jt P l.toArray Q w D n E /\
  ∀W,Below w.heap.size w W->F8 D W (E.map λp=>(p.1,p.2.1)) n λb=>wpList P l.toArray Q (Ag l.toArray t) b W) (Ag l.toArray u) F) (Ag l.toArray x) a) :
 (Code.region I l.toArray true).wp P Q a w:=by
 refine Zoa x u (E.map (·.1)) t D y K L o N (Ed (λF B=>Ed (λn O => ?_) _ _ B) _ _ h);obtain ⟨C,f,m⟩:=O;simp only [effB,List.all_eq_true,Qq,decide_eq_true_eq] at r;have j:(E.map λp=>(p.1,p.2.1)).map (·.1)=E.map (·.1):=by rw [List.map_map];rfl
 refine ⟨λi hi d hd => ?_,λi hi e W A s => ?_,λe W A s => ?_⟩
 ·obtain ⟨p,k,rfl⟩:=List.mem_map.1 hi;have B:=(r p k).1.1;rw [B] at hd;injection hd with hd;subst hd;simp only [List.all_eq_true,decide_eq_true_eq] at C;exact C p k
 ·obtain ⟨p,k,rfl⟩:=List.mem_map.1 hi;have z:=r p k;rw [z.1.2] at s ⊢;rw [z.1.1];exact Ho e p.2.2 n z.2 (Nh E f p k W A) s
 ·have:=Ho (ops:=l.toArray) e (E.map λp=>(p.1,p.2.1)) n (λq J=>by
   obtain ⟨p,k,rfl⟩:=List.mem_map.1 J
   exact (r p k).1.1) (m W A) (by rw [j];exact s)
  rwa [j] at this
end
end Go.Proofs.YtpdphfgpdgadpaaGreat

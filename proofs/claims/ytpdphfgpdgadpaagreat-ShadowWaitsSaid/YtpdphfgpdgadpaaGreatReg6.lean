import Derived.Test.YtpdphfgpdgadpaaGreatReg2
import Derived.Deep.RegionHeld3
set_option linter.unusedSimpArgs false
set_option linter.unusedVariables false
set_option maxHeartbeats 1000000
set_option maxRecDepth 100000
open Go.Proofs.Tryz
namespace Go.Proofs.YtpdphfgpdgadpaaGreat
open Lib(hid)
section
open Go Go.RowKit Go.Sort
section
variable {P:Program} {ops:Array Oper} {md:Region.Mode} {C:World->Prop} {Q:Exit->Act->World->Prop} {S:World->Prop} {pre:Nat->Bool}
def Jo (o:Oper):Bool:=
 match o.op with
 | .move _ | .assign _ | .load _ _ | .fieldAddr _ _ _ | .indexAddr _ _ _ | .extract _ _ | .binOp _ _ _ _ _ | .unOp _ _ _ | .convert _ _ _ | .slice _ _ _ _ _=>true
 | .nilCheck _=>true
 | .call ⟨.builtin .len,_,_⟩ | .call ⟨.builtin .cap,_,_⟩ | .call ⟨.builtin .min,_,_⟩ | .call ⟨.builtin .max,_,_⟩=>true
 | _=>false
theorem M8 (s:Sem Value) (w:World):∀(n:Next) (w':World),(Sem.run P (do pure (Next.value (<-s))) w) = .ok n w'->∃v,n = .value v:=by
 intro n w' h;simp only [Sem.run_bind] at h;generalize Sem.run P s w=r at h;cases r with
 | ok v w1=>simp only [Result.andThen,Sem.run_pure] at h;injection h with a b;exact ⟨v,a.symm⟩
 | halt x w1=>simp [Result.andThen] at h
theorem Ul {o:Oper} (f:Jo o=true) {a:Act} {w:World} {v:Value} (h:Oper.quietUpon P C w v ((execOp a.eval o).run P w)):(execOp a.eval o).run P w = .ok (.value v) w:=by
 have key:∀n w',(execOp a.eval o).run P w = .ok n w'->∃u,n = .value u:=by
  intro n w' c;unfold execOp at c;unfold Jo at f;split at f;all_goals first
   | (rename_i e;simp only [e] at c;first|exact M8 _ w n w' c|(simp only [Sem.run_pure] at c;injection c with d i;exact ⟨_,d.symm⟩))
   | skip
  ·rename_i x e;simp only [e] at c;generalize a.eval x=p at c;split at c;all_goals first
    | (simp [runtimePanic,Sem.run,Result.andThen] at c;done)
    | (simp only [Sem.run_pure] at c;injection c with d i;exact ⟨_,d.symm⟩)
    | skip
   ·split at c
    ·simp [runtimePanic,Sem.run,Result.andThen] at c
    ·rename_i t w1 _;simp only [Sem.run_bind] at c;generalize Sem.run P program w=k at c;cases k with
     | halt x w2=>simp [Result.andThen] at c
     | ok p2 w2=>
      simp only [Result.andThen] at c;generalize Sem.run P (nilAhead _ _ _ _) w2=j at c;cases j with
      | halt x w3=>simp at c
      | ok b w3=>
       simp only at c;split at c
       ·simp [unsupported,Sem.run,Result.andThen] at c
       ·simp only [Sem.run_pure] at c;injection c with d i;exact ⟨_,d.symm⟩
    ·simp only [Sem.run_pure] at c;injection c with d i;exact ⟨_,d.symm⟩
  all_goals first
   | (cases f;done)
   | (rename_i e
      simp only [e,resolve,invoke,builtin,Sem.run_bind,Sem.run_pure,Result.andThen_ok] at c
      refine M8 (P:=P) _ w n w' ?_
      simp only [Sem.run_bind,Sem.run_pure]
      exact c)
 generalize (execOp a.eval o).run P w=r at h key;cases r with
 | ok n w'=>obtain ⟨u,rfl⟩:=key n w' rfl;obtain ⟨rfl,rfl⟩:=h;rfl
 | halt x w'=>exact h.elim
def anyP (P:Program) (md:Region.Mode) (ops:Array Oper) (Q:Exit->Act->World->Prop) (S:World->Prop) (pre:Nat->Bool):Nat->Array Bool->Act->World->Prop
 | 0,listed,a,w=>Region.ready md ops listed=[]/\Q .normal a w
 | f+1,listed,a,w=>(Region.ready md ops listed=[]->Q .normal a w) /\
  ∀i∈Region.ready md ops listed,wpOp P ops Q i (λb w'=>(pre i=true->S w->S w')/\anyP P md ops Q S pre f (listed.setIfInBounds i true) b w') a w
theorem F5:∀(f:Nat) (listed:Array Bool) (a:Act) (w:World),anyP P md ops Q S pre f listed a w->wpAny P md ops Q f listed a w
 | 0,_,_,_,h=>h
 | f+1,_,_,_,h=>⟨h.1,λi hi=>wpOp_mono (λc w' b=>F5 f _ c w' b.2) (h.2 i hi)⟩
theorem Hk {i:Nat} {listed:Array Bool} (a:HeadInv md ops ops.size listed) (hi:i∈Region.ready md ops listed):HeadInv md ops ops.size (listed.setIfInBounds i true):=by obtain ⟨_,c,b,_⟩:=mem_ready.1 hi;exact a.set hi (Array.getElem?_eq_some_iff.1 b).1
theorem Um {i:Nat} {x:Oper} {v:Value} {T:World->Prop} (hi:ops[i]? = some x) (p:∀(j:Nat) (o:Oper) E b,ops[j]? = some o->o.op ≠ .select E b) (hQ:∀c a w,Q (.panic c) a w->False) (N:∀w,S w->T w)
 (hT:∀j listed,HeadInv md ops ops.size listed->listed.getD i true=false->j∈Region.ready md ops listed->j≠i->pre j=true\/∀w,T w) :
 ∀(f:Nat) (listed:Array Bool) (a:Act) (w:World),HeadInv md ops ops.size listed ->
  (∀j r,ops[j]? = some r->j≠i->listed.getD j true=false->(∀e∈r.after,Region.binds md e=true->e.on≠i)->x.apart ops r=true) ->
  i∈Region.ready md ops listed->YieldsIf P ops T x v a->(S w\/∀w,T w)->anyP P md ops Q S pre f (listed.setIfInBounds i true) (a.put x.dst v) w->anyP P md ops Q S pre (f+1) listed a w:=by
 have U:∀{w},(S w\/∀w,T w)->T w:=λh=>h.elim (N _) (λh=>h _);intro f
 induction f with
 | zero=>
  intro listed a w _ _ s F I H;refine ⟨λh=>(by rw [h] at s;cases s),λj y => ?_⟩;by_cases d:j=i
  ·subst d;exact F.wpOp hi (U I) ⟨λ_ h=>h,H⟩
  ·have:=ready_mono y d;rw [H.1] at this;cases this
 | succ f ih=>
  intro listed a w z l s F I H;have A:=(mem_ready.1 s).1;refine ⟨λh=>(by rw [h] at s;cases s),λj y => ?_⟩;by_cases d:j=i
  ·subst d;exact F.wpOp hi (U I) ⟨λ_ h=>h,H⟩
  ·have h1:=H.2 j (ready_mono y d);obtain ⟨q,r,t,D⟩:=mem_ready.1 y;have B:∀e∈r.after,Region.binds md e=true->e.on≠i:=λe Y Z L=>by have u:=D e Y Z;rw [L,getD_both A] at u;cases u
   have h2:=wpOp_putIf (S:=T) t (l j r t d q B) (λE b=>p i x E b hi) (λE b=>p j r E b t) (λc a w h=>(hQ c _ w h).elim) F h1;have m:∀k ok,ops[k]? = some ok->k≠i->(listed.setIfInBounds j true).getD k true=false ->
    (∀e∈ok.after,Region.binds md e=true->e.on≠i)->x.apart ops ok=true:=λk ok X K n J=>by
    refine l k ok X K ?_ J;by_cases C:j=k
    ·subst C;exact q
    ·rw [getD_set_ne true C] at n;exact n
   refine wpOp_mono (λa' w' u=>⟨u.2.1,ih (listed.setIfInBounds j true) a' w' (Hk z y) m (ready_mono s (Ne.symm d)) u.1 ?_ ?_⟩) h2
   ·rcases hT j listed z A y d with R | R
    ·rcases I with O | O
     ·exact .inl (u.2.1 R O)
     ·exact .inr O
    ·exact .inr R
   ·rw [Array.setIfInBounds_comm _ _ d];exact u.2.2
def Jp (md:Region.Mode) (ops:Array Oper):Nat->Nat->Nat->Bool
 | 0,j,i=>Region.waitsFor md ops j i
 | f+1,j,i=>Region.waitsFor md ops j i||(List.range ops.size).any λk=>Region.waitsFor md ops j k&&Jp md ops f k i
def Eu (md:Region.Mode) (ops:Array Oper) (pre:Nat->Bool) (i:Nat):Bool:=(List.range ops.size).all λj=>pre j||decide (j=i)||Jp md ops 6 j i
theorem Zqi {i:Nat} {listed:Array Bool} (m:HeadInv md ops ops.size listed) (n:listed.getD i true=false):∀(f j:Nat),Jp md ops f j i=true->(∀b,ops[j]? = some b->∀e∈b.after,Region.binds md e=true->listed.getD e.on false=true)->False:=by
 have direct:∀j,Region.waitsFor md ops j i=true->(∀b,ops[j]? = some b->∀e∈b.after,Region.binds md e=true->listed.getD e.on false=true)->False:=by intro j u a;obtain ⟨b,d,e,r,t,c⟩:=Region.waitsFor_spec u;have l:=a b d e r t;rw [c,getD_both n] at l;cases l
 intro f
 induction f with
 | zero=>exact λj h a=>direct j h a
 | succ f ih=>
  intro j h a;simp only [Jp,Bool.or_eq_true] at h;rcases h with h | h
  ·exact direct j h a
  ·obtain ⟨k,_,p⟩:=List.any_eq_true.1 h;simp only [Qq] at p;obtain ⟨b,d,e,r,t,c⟩:=Region.waitsFor_spec p.1;have l:=a b d e r t;rw [c] at l;exact ih k p.2 λok o w q s=>m.closed k ok o l w q s
theorem Un {i:Nat} (h:Eu md ops pre i=true):∀j listed,HeadInv md ops ops.size listed->listed.getD i true=false->j∈Region.ready md ops listed->j≠i->pre j=true:=by
 intro j listed d e m f;obtain ⟨_,k,b,c⟩:=mem_ready.1 m;have a:=List.all_eq_true.1 h j (List.mem_range.2 (Array.getElem?_eq_some_iff.1 b).1);simp only [Bool.or_eq_true,decide_eq_true_eq] at a;rcases a with (a | a) | a
 ·exact a
 ·exact absurd a f
 ·exact (Zqi d e 6 j a λo l=>by
   have:o=k:=Option.some.inj (l.symm.trans b)
   subst this
   exact c).elim
def Ag (ops:Array Oper) (t:List Nat):List Oper:=t.filterMap λi=>ops[i]?
def takeB (md:Region.Mode) (ops:Array Oper) (ok:Nat->Bool) (F:Array Bool->Bool):List Nat->Array Bool->Bool
 | [],listed=>F listed
 | i::t,listed=>(Region.ready md ops listed).contains i&&Region.free md ops listed i&&ok i&&((ops[i]?).map Jo).getD false&&takeB md ops ok F t (listed.setIfInBounds i true)
theorem M9 {T:World->Prop} {F:Array Bool->Bool} {ok:Nat->Bool} {x:Act->Prop} {g:Nat} {w:World} (e:Region.noSelect ops=true) (A:∀c a w,Q (.panic c) a w->False) (n:∀w,S w->T w) (m:∀i,ok i=true->(Eu md ops pre i=true\/∀w,T w)) (z:S w)
 (B:∀listed a,F listed=true->HeadInv md ops ops.size listed->x a->anyP P md ops Q S pre g listed a w) :
 ∀(t:List Nat) (listed:Array Bool) (a:Act),takeB md ops ok F t listed=true->HeadInv md ops ops.size listed->wpQuiet P ops T x (Ag ops t) a->anyP P md ops Q S pre (t.length+g) listed a w
 | [],listed,a,o,d,h=>by rw [List.length_nil,Nat.zero_add];exact B listed a o d h
 | i::t,listed,a,o,d,h=>by
  simp only [takeB,Qq] at o;obtain ⟨⟨⟨⟨J,U⟩,N⟩,f⟩,u⟩:=o;have k:i∈Region.ready md ops listed:=by simpa using J
  obtain ⟨_,y,b,_⟩:=mem_ready.1 k;rw [b] at f;simp only [Option.map_some,Option.getD_some] at f;have L:Ag ops (i::t)=y::Ag ops t:=by unfold Ag;rw [List.filterMap_cons,b]
  rw [L] at h;have K:qOp P ops T i (wpQuiet P ops T x (Ag ops t)) a:=by unfold qOp;simp only [b];exact h
  obtain ⟨v,D,X⟩:=yieldsIn_of_qOp b K;have p:YieldsIf P ops T y v a:=D.imp (λ⟨E,I⟩=>⟨E,λw q=>Ul f (I w q)⟩) id;rw [Qt,show t.length+1+g=(t.length+g)+1 by omega];exact Um b (Region.noSelect_spec e) A n (λj C l r R s=>(m i N).imp (λO=>Un O j C l r R s) id) _ listed a w d (Region.free_spec b U) k p (.inl z)
   (M9 e A n m z B t _ _ u (Hk d k) X)
def Dp (P:Program) (ops:Array Oper) (Q:Exit->Act->World->Prop) (i:Nat) (K:Act->World->Prop) (a:Act) (w:World):Prop:=
 ∀o,ops[i]? = some o->if Region.wanted o (yielded ops a.tmps)=true then o.wp P a w K Q else K (a.put o.dst undef) w
theorem Dp.wpOp {i:Nat} {K:Act->World->Prop} {a:Act} {w:World} (h:Dp P ops Q i K a w) (hi:(ops[i]?).isSome=true):wpOp P ops Q i K a w:=by
 obtain ⟨o,d⟩:=Option.isSome_iff_exists.1 hi;have b:=h o d;unfold Go.wpOp;simp only [d];split
 ·rename_i c;rw [if_pos c] at b;exact .inl b
 ·rename_i c;rw [if_neg c] at b;exact b
def Dq (md:Region.Mode) (ops:Array Oper):List Nat->Array Bool->Bool
 | [],listed=>(Region.ready md ops listed).isEmpty
 | i::t,listed=>decide (Region.ready md ops listed=[i])&&Dq md ops t (listed.setIfInBounds i true)
theorem F6:∀(t:List Nat) (listed:Array Bool) (a:Act) (w:World),(∀i∈t,pre i=false)->Dq md ops t listed=true->wpList P ops Q (Ag ops t) a w->anyP P md ops Q S pre t.length listed a w
 | [],_,_,_,_,b,h=>⟨by simpa [Dq] using b,h⟩
 | i::t,listed,a,w,l,b,h=>by
  simp only [Dq,Qq,decide_eq_true_eq] at b;refine ⟨λp=>(by rw [b.1] at p;cases p),λj f => ?_⟩;have e:=f;rw [b.1] at f;have d:j=i:=by simpa using f
  subst d;obtain ⟨_,o,m,_⟩:=mem_ready.1 e;have c:Ag ops (j::t)=o::Ag ops t:=by unfold Ag;rw [List.filterMap_cons,m]
  rw [c] at h;have q:Go.wpOp P ops Q j (wpList P ops Q (Ag ops t)) a w:=by unfold Go.wpOp;simp only [m];exact h
  exact wpOp_mono (λu w' s=>⟨λn=>(by rw [l j Qf] at n;cases n),F6 t _ u w' (λk r=>l k (by simp [r])) b.2 s⟩) q
def wayQ (P:Program) (ops:Array Oper) (Q:Exit->Act->World->Prop) (w:World) (x y:Nat) (d:List Nat) (a:Act) (w':World):Prop:=
 ∀K:Act->World->Prop,(∀c w3,Below w.heap.size w w3->(∀K2:Act->World->Prop,(∀b w4,Below w.heap.size w w4->wpList P ops Q (Ag ops d) b w4->K2 b w4)->Dp P ops Q y K2 c w3)->K c w3)->Dp P ops Q x K a w'
def Uo (ops:Array Oper) (d c:List Nat) (x y:Nat) (b:List Nat):Bool:=
 decide (x≠y)&&(ops[x]?).isSome&&(ops[y]?).isSome&&decide (ops.size=d.length+(c.length+(b.length+1+1))) &&
 takeB .any ops (λ_=>true) (λe=>takeB .any ops (λi=>Eu .any ops (λj => !b.contains j) i) (λa=>
  decide (Region.ready .any ops a=[x,y])&&decide (Region.ready .any ops (a.setIfInBounds x true)=[y])&&decide (Region.ready .any ops (a.setIfInBounds y true)=[x])&&Dq .any ops b ((a.setIfInBounds x true).setIfInBounds y true)) c e) d (Array.replicate ops.size false)
theorem Na {id:Nat} {a:Act} {w:World} {l:List Oper} (C B:List Nat) (x y:Nat) (b:List Nat) (hm:P.follows .mixedOrders=true) (hQ:∀c a w,Q (.panic c) a w->False) (f:Region.noSelect l.toArray=true) (E:Uo l.toArray C B x y b=true)
 (h:wpQuiet P l.toArray (λ_=>True) (λZ=>wpQuiet P l.toArray (λw'=>∃p:Regrown,w'=grow (redrawn w p.d) p.os) (λe=>∀w',Below w.heap.size w w'->wayQ P l.toArray Q w x y b e w'/\wayQ P l.toArray Q w y x b e w') (Ag l.toArray B) Z) (Ag l.toArray C) a) :
 (Code.region id l.toArray true).wp P Q a w:=by
 generalize l.toArray=ops at *
 simp only [Uo,Qq,decide_eq_true_eq] at E;obtain ⟨⟨⟨⟨J,hx⟩,hy⟩,K⟩,E⟩:=E;refine wp_region_any hm ?_;have r:HeadInv .any ops ops.size (Array.replicate ops.size false):=
  ⟨Qf,λj oj _ hl=>(by rw [getD_replicate_false] at hl;cases hl),λt k Y=>absurd Y Qa⟩
 have z:Rg w { w with drawn:=w.drawn+1 }:=⟨⟨w.drawn+1,#[]⟩,by rw [grow_empty];rfl⟩;have n:∀{w'},Below w.heap.size w w'->Rg w w':=λh=>regrown_of_below h;have o:∀i∈b,(!b.contains i)=false:=λi hi=>by simp [hi]
 refine F5 (S:=Rg w) (pre:=λj => !b.contains j) _ _ _ _ ?_;suffices hh:anyP P .any ops Q (Rg w) (λj => !b.contains j) (C.length+(B.length+(b.length+1+1))) (Array.replicate ops.size false) a { w with drawn:=w.drawn+1 } by rw [<-K] at hh;exact hh
 have one:∀(u v:Nat) (listed:Array Bool) (e:Act) (w':World),(ops[u]?).isSome=true->(ops[v]?).isSome=true->Region.ready .any ops (listed.setIfInBounds u true)=[v]->Dq .any ops b ((listed.setIfInBounds u true).setIfInBounds v true)=true->wayQ P ops Q w u v b e w' ->
  Go.wpOp P ops Q u (λa' w1=>((!b.contains u)=true->Rg w w'->Rg w w1)/\anyP P .any ops Q (Rg w) (λj => !b.contains j) (b.length+1) (listed.setIfInBounds u true) a' w1) e w':=by
  intro u v listed e w' hu hv hr D s;refine (s _ (λa3 w3 R m=>⟨λ_ _=>n R,?_⟩)).wpOp hu;refine ⟨λk=>(by rw [hr] at k;cases k),λj hj => ?_⟩;rw [hr] at hj;have N:j=v:=by simpa using hj
  subst N;exact (m _ (λa4 w4 O L=>⟨λ_ _=>n O,F6 b _ a4 w4 o D L⟩)).wpOp hv
 refine M9 (T:=λ_=>True) f hQ (λ_ _=>trivial) (λ_ _ => .inr (λ_=>trivial)) z (λl1 Z X q k => ?_) C _ a E r h;refine M9 (T:=λw'=>∃p:Regrown,w'=grow (redrawn w p.d) p.os) f hQ (λ_ h=>h) (λi hi => .inl hi) z (λl2 e A a5 Y => ?_) B l1 Z X q k;simp only [Qq,decide_eq_true_eq] at A;obtain ⟨⟨⟨r0,r1⟩,r2⟩,D⟩:=A;have U:Below w.heap.size w { w with drawn:=w.drawn+1 }:=⟨rfl,rfl,rfl,Qn _,λ_ _=>rfl⟩;obtain ⟨I,F⟩:=Y _ U;refine ⟨λk=>(by rw [r0] at k;cases k),λi hi => ?_⟩;rw [r0] at hi;simp only [List.mem_cons,List.not_mem_nil,or_false] at hi;rcases hi with rfl | rfl
 ·exact one i y l2 e _ hx hy r1 D I
 ·refine one i x l2 e _ hy hx r2 ?_ F;rw [Array.setIfInBounds_comm _ _ J.symm];exact D
end
end
section
open Go.RowKit Go.Sort M
section
variable {K:World->Nat->Nat->List Pl->Prop} {w w1:World} {t g:Nat} {v v':Value} {T:Tab} {m:Int}
theorem Tb.newStash (y:BK K) (H:Tb K w t g v T) {st':List Rt} (c:w.grownBy w1 v.ownBlock) (o:w1.ownsRow 0 34 4 v' st'.length (rcs st')) (n:v'.ownBlock=v.ownBlock\/∃k,v'.ownBlock=some k/\w.heap.size<=k) :
 Tb K (w1.setCell ⟨t,2,none⟩ v') t g v' { T with st:=st' }/\Touch (Blk t g v) w (w1.setCell ⟨t,2,none⟩ v')/\∀k,Blk t g v' k->k<w.heap.size->Blk t g v k:=by
 have d:w1.heap[t]? = w.heap[t]? := c.block t H.tlt (λe=>H.tv e.symm);have r:w1.heap[g]? = w.heap[g]? := c.block g H.blt (λe=>H.gv e.symm);have m:∀k,k≠t->(w1.setCell ⟨t,2,none⟩ v').heap[k]? = w1.heap[k]? := λk l=>Below.heap_setCell w1 ⟨t,2,none⟩ v' k (by simpa using l);have h:(w1.setCell ⟨t,2,none⟩ v').heap.size=w1.heap.size:=World.size_setCell _ _ _;have A:=(World.cell?_of_block (a:=⟨t,0,none⟩) d).trans H.c0;have z:=(World.cell?_of_block (a:=⟨t,1,none⟩) d).trans H.c1;have c2:=(World.cell?_of_block (a:=⟨t,2,none⟩) d).trans H.c2;have s:∀j,j≠2->(w1.setCell ⟨t,2,none⟩ v').cell? ⟨t,j,none⟩=w1.cell? ⟨t,j,none⟩:=λj x=>by rw [World.cell?_setCell_other];intro e;injection e with _ b;exact x b.symm
 have p:v'.ownBlock≠some t:=by
  rcases n with e | ⟨k,e,l⟩
  ·rw [e];exact H.tv
  ·rw [e];intro b;injection b with b;have:=H.tlt;omega
 have q:v'.ownBlock≠some g:=by
  rcases n with e | ⟨k,e,l⟩
  ·rw [e];exact H.gv
  ·rw [e];intro b;injection b with b;have:=H.blt;omega
 refine ⟨⟨λi hi=>y.block (H.bk i hi) (by rw [h];exact c.size) ((m g (λe=>H.tg e.symm)).trans r),by rw [h];exact Qm H.blt c.size,by rw [h];exact Qm H.tlt c.size,
  (s 0 Qd).trans A,(s 1 Qd).trans z,World.cell?_setCell_same _ _ _ c2,λj=>by rw [World.frozen?_setCell,World.frozen?_of_block (a:=⟨t,j,none⟩) d];exact H.f j,
  Jm o (λj e=>m j (λb=>p (b▸e))),H.tg,p,q⟩,⟨c.os,c.tape,c.output,by rw [h];exact c.size,λk l u => ?_⟩,λk l B => ?_⟩
 ·rw [m k (λe=>u (.inl e))];exact c.block k l (λe=>u (.inr (.inr e.symm)))
 ·rcases l with e | e | e
  ·exact .inl e
  ·exact .inr (.inl e)
  ·rcases n with b | ⟨j,b,x⟩
   ·exact .inr (.inr (b▸e))
   ·rw [b] at e;injection e with e;omega
theorem CT.newStash (H:CT w t g v T m) {st':List Rt} (f:w.grownBy w1 v.ownBlock) (b:w1.ownsRow 0 34 4 v' st'.length (rcs st')) (d:v'.ownBlock=v.ownBlock\/∃k,v'.ownBlock=some k/\w.heap.size<=k) :
 CT (w1.setCell ⟨t,2,none⟩ v') t g v' { T with st:=st' } m/\Touch (Blk t g v) w (w1.setCell ⟨t,2,none⟩ v')/\∀k,Blk t g v' k->k<w.heap.size->Blk t g v k:=by
 have h:=H.tb.newStash Hh f b d;have c:w1.heap[t]? = w.heap[t]? := f.block t H.tb.tlt (λe=>H.tb.tv e.symm);refine ⟨⟨h.1,?_⟩,h.2⟩;rw [World.cell?_setCell_other]
 ·exact (World.cell?_of_block (a:=⟨t,3,none⟩) c).trans H.c3
 ·intro e;injection e with _ i;exact absurd i Qd
theorem Tb.inStash (l:BK K) (H:Tb K w t g v T) {st':List Rt} (c:w.grownBy w1 v.ownBlock) (d:w1.ownsRow 0 34 4 v st'.length (rcs st')):Tb K w1 t g v { T with st:=st' }/\Touch (Blk t g v) w w1:=by
 have b:w1.heap[t]? = w.heap[t]? := c.block t H.tlt (λe=>H.tv e.symm);have h:w1.heap[g]? = w.heap[g]? := c.block g H.blt (λe=>H.gv e.symm);exact ⟨⟨λi hi=>l.block (H.bk i hi) c.size h,Qm H.blt c.size,Qm H.tlt c.size,(World.cell?_of_block (a:=⟨t,0,none⟩) b).trans H.c0,(World.cell?_of_block (a:=⟨t,1,none⟩) b).trans H.c1,
  (World.cell?_of_block (a:=⟨t,2,none⟩) b).trans H.c2,λj=>(World.frozen?_of_block (a:=⟨t,j,none⟩) b).trans (H.f j),d,H.tg,H.tv,H.gv⟩,Touch.of_grown c (λk e => .inr (.inr e.symm))⟩
theorem CT.inStash (H:CT w t g v T m) {st':List Rt} (c:w.grownBy w1 v.ownBlock) (b:w1.ownsRow 0 34 4 v st'.length (rcs st')):CT w1 t g v { T with st:=st' } m/\Touch (Blk t g v) w w1:=by have h:=H.tb.inStash Hh c b;exact ⟨⟨h.1,(World.cell?_of_block (a:=⟨t,3,none⟩) (c.block t H.tb.tlt (λe=>H.tb.tv e.symm))).trans H.c3⟩,h.2⟩
theorem CT.count (H:CT w t g v T m) (m':Int):CT (w.setCell ⟨t,3,none⟩ (.int .i64 m')) t g v T m'/\Touch (Blk t g v) w (w.setCell ⟨t,3,none⟩ (.int .i64 m')):=by
 have b:∀k,k≠t->(w.setCell ⟨t,3,none⟩ (.int .i64 m')).heap[k]? = w.heap[k]? := λk l=>Below.heap_setCell w ⟨t,3,none⟩ _ k (by simpa using l);have a:(w.setCell ⟨t,3,none⟩ (.int .i64 m')).heap.size=w.heap.size:=World.size_setCell _ _ _;have c:∀j,j≠3->(w.setCell ⟨t,3,none⟩ (.int .i64 m')).cell? ⟨t,j,none⟩=w.cell? ⟨t,j,none⟩:=λj n=>by rw [World.cell?_setCell_other];intro e;injection e with _ d;exact n d.symm
 have B:=H.tb;exact ⟨⟨⟨λi hi=>Hh.block (B.bk i hi) (by rw [a];exact Qn _) (b g (λe=>B.tg e.symm)),by rw [a];exact B.blt,by rw [a];exact B.tlt,(c 0 Qd).trans B.c0,(c 1 Qd).trans B.c1,(c 2 Qd).trans B.c2,λj=>by rw [World.frozen?_setCell];exact B.f j,
  Jm B.own (λj e=>b j (λd=>B.tv (d▸e))),B.tg,B.tv,B.gv⟩,World.cell?_setCell_same _ _ _ H.c3⟩,⟨rfl,rfl,rfl,by rw [a];exact Qn _,λk _ h=>b k (λe=>h (.inl e))⟩⟩
end
theorem Up:∀(L:List Rt) (i:Nat) (h:i<L.length) (x:Int),(rcs L).set (i*4+3) (.int .i64 x)=rcs (L.set i ⟨L[i].k,x⟩)
 | a::L,0,_,x=>by show (Ae a++rcs L).set 3 _=Ae ⟨a.k,x⟩++rcs L;rfl
 | a::L,i+1,h,x=>by have b:=Up L i (by simpa using h) x;show (Ae a++rcs L).set ((i+1)*4+3) _=Ae a++rcs (L.set i ⟨(L[i]'(by simpa using h)).k,x⟩);rw [List.set_append_right _ _ (by simp [Ae];omega),show (i+1)*4+3-(Ae a).length=i*4+3 by simp [Ae];omega,b]
theorem Zu9 {C:List Pl} {k:Ky} {v:Int} (h:(getC C k).isSome=true):(putC C k v).isSome=true:=by obtain ⟨i,hi,e,-⟩:=Gs h;rw [P7 e];rfl
theorem Hl (g o:Nat) (C:List Pl) (k:Ky) (w:World) (H:Bkt w g o C) :
 Calls prog 120 #[.pointer (some ⟨g,o,none⟩),kyV k] w λe w'=>e = .returned (.tuple #[.int .i64 ((getC C k).getD 0),.bool (getC C k).isSome])/\Below w.heap.size w w':=by
 have h:=hid (λw H=>M4 g o C k w H);have f:=hid H;have p:=H.four;rcases C8 (hasK k) C with ⟨i,hi,d,c,j⟩ | ⟨d,c⟩
 ·rw [Ld hi d j];rw [c] at h;clear d c j H;have m:i<4:=Qa;unfold kyV at *
  go_enter func120,ntmps120;go_wp2_with fail;refine (h.o _ (f.o.below Qg)).mono ?_;rintro e w1 ⟨rfl,a⟩;have b:Below w.heap.size w w1:=Below.trans Qg (a.mono Qh);obtain ⟨r,q,c2,c3,c4⟩:=(f.o.below b).at i hi;have l:=b.size;have n:=f.o.lt;clear a;go_wp2;go_ret2;exact ⟨rfl,Qg⟩
 ·rw [Po d];rw [c] at h;clear d c H;unfold kyV at *
  go_enter func120,ntmps120;go_wp2_with fail;refine (h.o _ (f.o.below Qg)).mono ?_;rintro e w1 ⟨rfl,a⟩;have b:Below w.heap.size w w1:=Below.trans Qg (a.mono Qh);clear a;go_wp2;go_ret2;exact ⟨rfl,Qg⟩
theorem Fa (g o:Nat) (C:List Pl) (k:Ky) (w:World) (H:Bkt w g o C) :
 Calls prog 114 #[.pointer (some ⟨g,o,none⟩),kyV k] w λe w'=>e = .returned (.bool (takeC C k).isSome)/\Bkt w' g o ((takeC C k).getD C)/\Turn w w' g o 20:=by
 have j:=hid (λw H=>M4 g o C k w H);have c:=hid H;have s:=H.four;rcases C8 (hasK k) C with ⟨i,hi,h,f,q⟩ | ⟨h,f⟩
 ·rw [show takeC C k=some (C.set i none) by unfold takeC;rw [h]];rw [f] at j;clear h f q H;have p:i<4:=Qa;unfold kyV at *
  go_enter func114,ntmps114;go_wp2_with fail;refine (j.o _ (c.o.below Qg)).mono ?_;rintro e w1 ⟨rfl,b⟩;have a:Below w.heap.size w w1:=Below.trans Qg (b.mono Qh);have d:=c.o.below a;obtain ⟨x,u,c2,c3,c4⟩:=d.at i hi;have t:=d.free (i*5) Qa;have f1:=d.free (i*5+1) Qa;have f2:=d.free (i*5+2) Qa;have f3:=d.free (i*5+3) Qa;have r:=d.free (i*5+4) Qa;have n:=a.size;have l:=c.o.lt;simp only [<-Nat.add_assoc] at f1 f2 f3 r;clear b d;go_wp2;go_ret;have m:=(c.o.below a).put i hi none;exact ⟨rfl,m.1,(Turn.of_below l a).trans m.2⟩
 ·rw [show takeC C k=none by unfold takeC;rw [h]];rw [f] at j;clear h f H;unfold kyV at *
  go_enter func114,ntmps114;go_wp2_with fail;refine (j.o _ (c.o.below Qg)).mono ?_;rintro e w1 ⟨rfl,b⟩;have a:Below w.heap.size w w1:=Below.trans Qg (b.mono Qh);have l:=c.o.lt;clear b;go_wp2;go_ret;exact ⟨rfl,c.o.below a,Turn.of_below l a⟩
theorem Dr (g o:Nat) (C:List Pl) (k:Ky) (v:Int) (w:World) (H:Bkt w g o C) :
 Calls prog 123 #[.pointer (some ⟨g,o,none⟩),kyV k,.int .i64 v] w λe w'=>e = .returned (.bool (putC C k v).isSome)/\Bkt w' g o ((putC C k v).getD C)/\Turn w w' g o 20:=by
 have s:=hid (λw H=>M4 g o C k w H);have y:=hid (λw H=>Zz1 g o C w H);have j:=hid H;have R:=H.four;rcases C8 (hasK k) C with ⟨i,hi,r,q,K⟩ | ⟨r,q⟩
 ·rw [show putC C k v=some (C.set i (some ⟨k,v⟩)) by unfold putC;rw [r]];rw [q] at s;clear r q K H y;have B:i<4:=Qa;unfold kyV at *
  go_enter func123,ntmps123;go_wp2_with fail;refine (s.o _ (j.o.below Qg)).mono ?_;rintro e w1 ⟨rfl,a⟩;have b:Below w.heap.size w w1:=Below.trans Qg (a.mono Qh);have Q:w1.cell? ⟨w.heap.size,0,none⟩=some (.int .u64 (k.h:Int)):=by rw [a.cell Qc];exact Ql
  have b1:w1.cell? ⟨w.heap.size,1,none⟩=some (.int .u64 (k.l:Int)):=by rw [a.cell Qc];exact Ql
  have b2:w1.cell? ⟨w.heap.size,2,none⟩=some (.int .i64 k.n):=by rw [a.cell Qc];exact Ql
  have f:=j.o.below b;obtain ⟨O,N,c2,c3,c4⟩:=f.at i hi;have L:=f.free (i*5) Qa;have f1:=f.free (i*5+1) Qa;have f2:=f.free (i*5+2) Qa;have f3:=f.free (i*5+3) Qa;have D:=f.free (i*5+4) Qa;have z:=b.size;have A:=j.o.lt;simp only [<-Nat.add_assoc] at f1 f2 f3 D;clear a f;go_wp2_with fail;go_region;go_wp2;go_ret;have t:=j.o.put_drew b i hi (some ⟨k,v⟩);exact ⟨rfl,t.1,t.2⟩
 ·rcases C8 Option.isNone C with ⟨i,hi,x,u,J⟩ | ⟨x,u⟩
  ·rw [show putC C k v=some (C.set i (some ⟨k,v⟩)) by unfold putC;rw [r];simp only;rw [x]];rw [q] at s;rw [u] at y;clear r q x u J H;have B:i<4:=Qa;unfold kyV at *
   go_enter func123,ntmps123;go_wp2_with fail;refine (s.o _ (j.o.below Qg)).mono ?_;rintro e w2 ⟨rfl,c⟩;have d:Below w.heap.size w w2:=Below.trans Qg (c.mono Qh);have E:w2.cell? ⟨w.heap.size,0,none⟩=some (.int .u64 (k.h:Int)):=by rw [c.cell Qc];exact Ql
   have d1:w2.cell? ⟨w.heap.size,1,none⟩=some (.int .u64 (k.l:Int)):=by rw [c.cell Qc];exact Ql
   have d2:w2.cell? ⟨w.heap.size,2,none⟩=some (.int .i64 k.n):=by rw [c.cell Qc];exact Ql
   have m:w.heap.size<w2.heap.size:=by
    have I:=c.size;try simp only [World.size_alloc,World.size_setCell] at I
    omega
   clear c;go_wp2_with fail;refine (y.o _ (j.o.below d)).mono ?_;rintro e w1 ⟨rfl,a⟩;have b:=d.trans (a.mono d.size);have Q:=(a.cell (p:=⟨w.heap.size,0,none⟩) m).trans E;have b1:=(a.cell (p:=⟨w.heap.size,1,none⟩) m).trans d1;have b2:=(a.cell (p:=⟨w.heap.size,2,none⟩) m).trans d2;have F:=Qm m a.size;clear E d1 d2 d m a;have f:=j.o.below b;obtain ⟨O,N,c2,c3,c4⟩:=f.at i hi;have L:=f.free (i*5) Qa;have f1:=f.free (i*5+1) Qa;have f2:=f.free (i*5+2) Qa;have f3:=f.free (i*5+3) Qa;have D:=f.free (i*5+4) Qa;have z:=b.size;have A:=j.o.lt;simp only [<-Nat.add_assoc] at f1 f2 f3 D;clear f;go_wp2_with fail;go_region;go_wp2;go_ret;have t:=j.o.put_drew b i hi (some ⟨k,v⟩);exact ⟨rfl,t.1,t.2⟩
  ·rw [show putC C k v=none by unfold putC;rw [r];simp only;rw [x]];rw [q] at s;rw [u] at y;clear r q x u H;unfold kyV at *
   go_enter func123,ntmps123;go_wp2_with fail;refine (s.o _ (j.o.below Qg)).mono ?_;rintro e w2 ⟨rfl,c⟩;have d:Below w.heap.size w w2:=Below.trans Qg (c.mono Qh);clear c;go_wp2_with fail;refine (y.o _ (j.o.below d)).mono ?_;rintro e w1 ⟨rfl,a⟩;have b:=d.trans (a.mono d.size);have A:=j.o.lt;clear a;go_wp2;go_ret;exact ⟨rfl,j.o.below b,Turn.of_below A b⟩
end
section
open Go Go.RowKit Go.Sort
section
variable {P:Program} {ops:Array Oper} {md:Region.Mode} {C:World->Prop} {Q:Exit->Act->World->Prop} {S:World->Prop} {pre:Nat->Bool}
def Nb (o:Oper):Bool:=
 Jo o||match o.op with
 | .build _ _=>true
 | _=>false
theorem Znt {o:Oper} (b:Nb o=true) {a:Act} {w:World} {v:Value} (h:Oper.quietUpon P C w v ((execOp a.eval o).run P w)):(execOp a.eval o).run P w = .ok (.value v) w:=by
 unfold Nb at b;rw [Bool.or_eq_true] at b;rcases b with b | b
 ·exact Ul b h
 have key:∀n w',(execOp a.eval o).run P w = .ok n w'->∃u,n = .value u:=by
  intro n w' c;unfold execOp at c;split at b
  ·rename_i d;simp only [d] at c;exact M8 _ w n w' c
  ·cases b
 generalize (execOp a.eval o).run P w=r at h key;cases r with
 | ok n w'=>obtain ⟨u,rfl⟩:=key n w' rfl;obtain ⟨rfl,rfl⟩:=h;rfl
 | halt x w'=>exact h.elim
def takeD (md:Region.Mode) (ops:Array Oper) (ok:Nat->Bool) (F:Array Bool->Bool):List Nat->Array Bool->Bool
 | [],listed=>F listed
 | i::t,listed=>(Region.ready md ops listed).contains i&&Region.free md ops listed i&&ok i&&((ops[i]?).map Nb).getD false&&takeD md ops ok F t (listed.setIfInBounds i true)
theorem D7 {T:World->Prop} {F:Array Bool->Bool} {ok:Nat->Bool} {x:Act->Prop} {g:Nat} {w:World} (e:Region.noSelect ops=true) (A:∀c a w,Q (.panic c) a w->False) (n:∀w,S w->T w) (m:∀i,ok i=true->(Eu md ops pre i=true\/∀w,T w)) (z:S w)
 (B:∀listed a,F listed=true->HeadInv md ops ops.size listed->x a->anyP P md ops Q S pre g listed a w) :
 ∀(t:List Nat) (listed:Array Bool) (a:Act),takeD md ops ok F t listed=true->HeadInv md ops ops.size listed->wpQuiet P ops T x (Ag ops t) a->anyP P md ops Q S pre (t.length+g) listed a w
 | [],listed,a,o,d,h=>by rw [List.length_nil,Nat.zero_add];exact B listed a o d h
 | i::t,listed,a,o,d,h=>by
  simp only [takeD,Qq] at o;obtain ⟨⟨⟨⟨J,U⟩,N⟩,f⟩,u⟩:=o;have k:i∈Region.ready md ops listed:=by simpa using J
  obtain ⟨_,y,b,_⟩:=mem_ready.1 k;rw [b] at f;simp only [Option.map_some,Option.getD_some] at f;have L:Ag ops (i::t)=y::Ag ops t:=by unfold Ag;rw [List.filterMap_cons,b]
  rw [L] at h;have K:qOp P ops T i (wpQuiet P ops T x (Ag ops t)) a:=by unfold qOp;simp only [b];exact h
  obtain ⟨v,D,X⟩:=yieldsIn_of_qOp b K;have p:YieldsIf P ops T y v a:=D.imp (λ⟨E,I⟩=>⟨E,λw q=>Znt f (I w q)⟩) id;rw [Qt,show t.length+1+g=(t.length+g)+1 by omega];exact Um b (Region.noSelect_spec e) A n (λj C l r R s=>(m i N).imp (λO=>Un O j C l r R s) id) _ listed a w d (Region.free_spec b U) k p (.inl z)
   (D7 e A n m z B t _ _ u (Hk d k) X)
def oneB (ops:Array Oper) (c b a:List Nat):Bool:=
 decide (ops.size=c.length+(b.length+a.length)) &&
 takeD .any ops (λ_=>true) (λe=>takeD .any ops (λi=>Eu .any ops (λj => !a.contains j) i) (λd=>Dq .any ops a d) b e) c (Array.replicate ops.size false)
theorem Jq {K:Nat} {a:Act} {w:World} {l:List Oper} (q o b:List Nat) (L:P.follows .mixedOrders=true) (F:∀c a w,Q (.panic c) a w->False) (e:Region.noSelect l.toArray=true) (r:oneB l.toArray q o b=true)
 (h:wpQuiet P l.toArray (λ_=>True) (λB=>wpQuiet P l.toArray (λw'=>∃p:Regrown,w'=grow (redrawn w p.d) p.os) (λA=>∀w',Below w.heap.size w w'->wpList P l.toArray Q (Ag l.toArray b) A w') (Ag l.toArray o) B) (Ag l.toArray q) a) :
 (Code.region K l.toArray true).wp P Q a w:=by
 generalize l.toArray=ops at *
 simp only [oneB,Qq,decide_eq_true_eq] at r;obtain ⟨s,r⟩:=r;refine wp_region_any L ?_;have m:HeadInv .any ops ops.size (Array.replicate ops.size false):=
  ⟨Qf,λj N _ D=>(by rw [getD_replicate_false] at D;cases D),λt I z=>absurd z Qa⟩
 have n:Rg w { w with drawn:=w.drawn+1 }:=⟨⟨w.drawn+1,#[]⟩,by rw [grow_empty];rfl⟩;have f:∀i∈b,(!b.contains i)=false:=λi hi=>by simp [hi]
 refine F5 (S:=Rg w) (pre:=λj => !b.contains j) _ _ _ _ ?_;suffices E:anyP P .any ops Q (Rg w) (λj => !b.contains j) (q.length+(o.length+b.length)) (Array.replicate ops.size false) a { w with drawn:=w.drawn+1 } by rw [<-s] at E;exact E
 refine D7 (T:=λ_=>True) e F (λ_ _=>trivial) (λ_ _ => .inr (λ_=>trivial)) n (λJ B y k I => ?_) q _ a r m h;refine D7 (T:=λw'=>∃p:Regrown,w'=grow (redrawn w p.d) p.os) e F (λ_ h=>h) (λi hi => .inl hi) n (λO A x C z => ?_) o J B y k I;have u:Below w.heap.size w { w with drawn:=w.drawn+1 }:=⟨rfl,rfl,rfl,Qn _,λ_ _=>rfl⟩;exact F6 b _ A _ f x (z _ u)
end
section
variable {P:Program} {ops:Array Oper} {md:Region.Mode} {C:World->Prop} {Q:Exit->Act->World->Prop} {S:World->Prop} {pre:Nat->Bool}
def Jr (ops:Array Oper) (a:List Nat):List Nat->Array Bool->Bool
 | [],listed=>Dq .any ops a listed
 | x::xs,listed=>decide (Region.ready .any ops listed=[x])&&(ops[x]?).isSome&&Jr ops a xs (listed.setIfInBounds x true)
def rowB (ops:Array Oper) (c b xs a:List Nat):Bool:=
 decide (ops.size=c.length+(b.length+(xs.length+a.length))) &&
 takeD .any ops (λ_=>true) (λe=>takeD .any ops (λi=>Eu .any ops (λj => !a.contains j) i) (λd=>Jr ops a xs d) b e) c (Array.replicate ops.size false)
end
end
end Go.Proofs.YtpdphfgpdgadpaaGreat

import Derived.Test.YtpdphfgpdgadpaaGreatQs
import Derived.WalkKit
import Derived.Lib.BitFns
import Derived.Test.YtpdphfgpdgadpaaGreatRows
import Derived.ProofKit
import Derived.OpenShut
import Derived.Lib.SmallJoins
import Derived.Lib.QuietBelow
import Derived.StillTail
import Derived.BigQuiet
import Derived.Maps.AppendAt
set_option linter.unusedSimpArgs false
set_option linter.unusedVariables false
namespace Go.Proofs.YtpdphfgpdgadpaaGreat.M
theorem Zo (a k j:Nat):(a*2^k).testBit j=(decide (k<=j)&&a.testBit (j-k)):=by rw [<-Nat.shiftLeft_eq,Nat.testBit_shiftLeft]
def W64 (w:Nat):Prop:=w<2^64
theorem W64.lt {w:Nat} (h:W64 w):w<18446744073709551616:=h
theorem W64.mk {w:Nat} (h:w<18446744073709551616):W64 w:=h
def cutW (w n:Nat):Nat:=w/2^(64-n)*2^(64-n)
theorem Fi (w n j:Nat):(cutW w n).testBit j=(decide (64-n<=j)&&w.testBit j):=by
 unfold cutW;rw [Zo,Nat.testBit_div_two_pow];by_cases h:64-n<=j
 ·simp [h]
 ·simp [h]
theorem Zp (w n:Nat):cutW w n<=w:=Nat.div_mul_le_self _ _
theorem Zq (n:Nat) (h:n<=64):(2^64-1)/2^n=2^(64-n)-1:=by apply Nat.eq_of_testBit_eq;intro i;rw [Nat.testBit_div_two_pow,Nat.testBit_two_pow_sub_one,Nat.testBit_two_pow_sub_one];by_cases a:i+n<64<;>simp [a]<;>omega
theorem Zr (w n:Nat) (d:w<2^64) (h:n<=64):w &&& ((2^64-1) ^^^ ((2^64-1)/2^n))=cutW w n:=by
 apply Nat.eq_of_testBit_eq;intro i;rw [Zq n h,Fi,Nat.testBit_and,Nat.testBit_xor,Nat.testBit_two_pow_sub_one,Nat.testBit_two_pow_sub_one];by_cases c:i<64
 ·by_cases b:i<64-n
  ·have a:¬64-n<=i:=Qa;simp [c,b,a]
  ·have a:64-n<=i:=Qa;simp [c,b,a]
 ·have:w.testBit i=false:=Nat.testBit_lt_two_pow (Qm d (Nat.pow_le_pow_right Qa Qa));simp [this]
def bitN (hi lo i:Nat):Bool:=if i<64 then hi.testBit (63-i) else if i<128 then lo.testBit (127-i) else false
theorem O2 (hi lo n i:Nat):bitN (cutW hi n) (cutW lo (n-64)) i=(decide (i<n)&&bitN hi lo i):=by
 unfold bitN;by_cases h:i<64
 ·simp only [h,if_true,Fi];by_cases a:i<n
  ·have:64-n<=63-i:=Qa;simp [a,this]
  ·have:¬64-n<=63-i:=Qa;simp [a,this]
 ·by_cases b:i<128
  ·simp only [h,b,if_true,if_false,Fi];by_cases a:i<n
   ·have:64-(n-64)<=127-i:=Qa;simp [a,this]
   ·have:¬64-(n-64)<=127-i:=Qa;simp [a,this]
  ·simp [h,b]
theorem O3 (a b:Nat) (ha:a<2^64) (c:b<2^64) (h:∀i,i<64->a.testBit i=b.testBit i):a=b:=by
 apply Nat.eq_of_testBit_eq;intro i;by_cases hi:i<64
 ·exact h i hi
 ·rw [Nat.testBit_lt_two_pow (Qm ha (Nat.pow_le_pow_right Qa Qa)),Nat.testBit_lt_two_pow (Qm c (Nat.pow_le_pow_right Qa Qa))]
theorem Zs (h l j f:Nat) (a:h<2^64) (b:l<2^64) (c:j<2^64) (d:f<2^64) (e:∀i,i<128->bitN h l i=bitN j f i):h=j/\l=f:=by
 constructor
 ·refine O3 _ _ a c λi hi => ?_;have:=e (63-i) Qa;unfold bitN at this;rw [if_pos Qa,if_pos Qa,show 63-(63-i)=i from by omega] at this;exact this
 ·refine O3 _ _ b d λi hi => ?_;have:=e (127-i) Qa;unfold bitN at this;have n:¬127-i<64:=Qa;have m:127-i<128:=Qa;have k:127-(127-i)=i:=Qa;simp only [n,m,k,if_true,if_false] at this;exact this
theorem Zt (w n:Nat) (h:64<=n):cutW w n=w:=by unfold cutW;rw [show 64-n=0 by omega];simp
theorem Ku (w:Nat) (h:w<2^64):cutW w 0=0:=by unfold cutW;simp [Nat.div_eq_of_lt h]
def Ap (hi lo:Nat) (n:Int):Bool:=decide (0<=n/\n<=128/\cutW hi n.toNat=hi/\cutW lo (n.toNat-64)=lo)
def hasB (hi lo:Nat) (n:Int) (b a:Nat):Bool:=Ap hi lo n&&(decide (cutW b n.toNat=hi)&&decide (cutW a (n.toNat-64)=lo))
def A5 (d b:Nat) (e:Int) (c a:Nat) (n2:Int):Bool:=if d≠c then decide (d<c) else if b≠a then decide (b<a) else decide (e<n2)
theorem bitLenAux_le:∀(f x:Nat),Lib.bitLenAux f x<=f
 | 0,_=>Qn _
 | f+1,x=>by unfold Lib.bitLenAux;have:=bitLenAux_le f (x/2);split<;>omega
theorem bitLen_le (x:Nat):Lib.bitLen x<=64:=bitLenAux_le 64 x
theorem Kv:∀(f x:Nat),x<2^f->x<2^Lib.bitLenAux f x/\(x≠0->0<Lib.bitLenAux f x/\2^(Lib.bitLenAux f x-1)<=x)
 | 0,x,h=>by
  have:x=0:=by simpa using h
  simp [this,Lib.bitLenAux]
 | f+1,x,h=>by
  unfold Lib.bitLenAux;by_cases a:x=0
  ·simp [a]
  ·rw [if_neg a];obtain ⟨i,c⟩:=Kv f (x/2) (by rw [Nat.pow_succ] at h;omega);refine ⟨?_,λ_=>⟨Qa,?_⟩⟩
   ·rw [Nat.add_comm,Nat.pow_succ];omega
   ·rw [show 1+Lib.bitLenAux f (x/2)-1=Lib.bitLenAux f (x/2) by omega];by_cases b:x/2=0
    ·have:Lib.bitLenAux f (x/2)=0:=by rw [b];cases f<;>simp [Lib.bitLenAux]
     rw [this];simp;omega
    ·obtain ⟨e,d⟩:=c b;have:2^Lib.bitLenAux f (x/2)=2^(Lib.bitLenAux f (x/2)-1)*2:=by rw [<-Nat.pow_succ];congr 1;omega
     omega
theorem O4 (x:Nat) (a:x<2^64) (f:x≠0):0<Lib.bitLen x/\x.testBit (Lib.bitLen x-1)=true:=by
 obtain ⟨i,d⟩:=Kv 64 x a;obtain ⟨c,h⟩:=d f;refine ⟨c,?_⟩;show x.testBit (Lib.bitLenAux 64 x-1)=true;rw [Nat.testBit_eq_decide_div_mod_eq];have e:2^Lib.bitLenAux 64 x=2*2^(Lib.bitLenAux 64 x-1):=by rw [Nat.mul_comm,<-Nat.pow_succ];congr 1;omega
 have b:x/2^(Lib.bitLenAux 64 x-1)=1:=by refine Nat.div_eq_of_lt_le Qa Qa
 simp [b]
theorem O5 (x j:Nat) (a:x<2^64) (h:Lib.bitLen x<=j):x.testBit j=false:=
 Nat.testBit_lt_two_pow (Qm (Kv 64 x a).1 (Nat.pow_le_pow_right Qa h))
def Bi (b d a c:Nat):Nat:=if b≠a then 64-Lib.bitLen (b ^^^ a) else 128-Lib.bitLen (d ^^^ c)
theorem O6 (a b:Nat) (h:a≠b):a ^^^ b≠0:=λe=>h (Nat.eq_of_testBit_eq λi=>by
 have:=congrArg (λx=>x.testBit i) e
 simp only [Nat.testBit_xor,Nat.zero_testBit] at this
 cases d:a.testBit i<;>cases c:b.testBit i<;>simp_all)
theorem Ii (a b i:Nat):(a ^^^ b).testBit i=false↔a.testBit i=b.testBit i:=by rw [Nat.testBit_xor];cases a.testBit i<;>cases b.testBit i<;>simp
theorem Zu (j l f k:Nat) (a:j<2^64) (b:l<2^64) (c:f<2^64) (d:k<2^64) (i:Nat) (hi:i<Bi j l f k):bitN j l i=bitN f k i:=by
 unfold Bi at hi;unfold bitN;by_cases e:j=f
 ·subst e;simp only [ne_eq,not_true_eq_false,if_false] at hi;by_cases h:i<64
  ·simp [h]
  ·have m:i<128:=Qa;simp only [h,m,if_false,if_true];exact (Ii _ _ _).1 (O5 _ _ (Nat.xor_lt_two_pow b d) Qa)
 ·simp only [ne_eq,e,not_false_eq_true,if_true] at hi;have h:i<64:=Qa;simp only [h,if_true];exact (Ii _ _ _).1 (O5 _ _ (Nat.xor_lt_two_pow a c) Qa)
theorem Zv (j h i f:Nat) (a:j<2^64) (b:h<2^64) (c:i<2^64) (d:f<2^64) (hi:Bi j h i f<128):bitN j h (Bi j h i f)≠bitN i f (Bi j h i f):=by
 unfold Bi at *
 unfold bitN;by_cases e:j=i
 ·subst e;simp only [ne_eq,not_true_eq_false,if_false] at hi ⊢;have n:h≠f:=λe=>by subst e;simp [Lib.bitLen,Lib.bitLenAux] at hi
  obtain ⟨t0,t1⟩:=O4 _ (Nat.xor_lt_two_pow b d) (O6 _ _ n);have t2:=bitLen_le (h ^^^ f);have l:¬128-Lib.bitLen (h ^^^ f)<64:=Qa;have k:127-(128-Lib.bitLen (h ^^^ f))=Lib.bitLen (h ^^^ f)-1:=Qa;simp only [l,hi,k,if_false,if_true];intro m;rw [(Ii _ _ _).2 m] at t1;cases t1
 ·simp only [ne_eq,e,not_false_eq_true,if_true] at hi ⊢;obtain ⟨t0,t1⟩:=O4 _ (Nat.xor_lt_two_pow a c) (O6 _ _ e);have t2:=bitLen_le (j ^^^ i);have l:64-Lib.bitLen (j ^^^ i)<64:=Qa;have k:63-(64-Lib.bitLen (j ^^^ i))=Lib.bitLen (j ^^^ i)-1:=Qa;simp only [l,k,if_true];intro m;rw [(Ii _ _ _).2 m] at t1;cases t1
theorem Gl (w n m:Nat):cutW (cutW w n) m=cutW w (min n m):=by
 apply Nat.eq_of_testBit_eq;intro j;simp only [Fi];by_cases h:64-min n m<=j
 ·have b:64-n<=j:=Qa;have a:64-m<=j:=Qa;simp only [h,b,a,decide_true,Bool.true_and]
 ·by_cases b:64-n<=j
  ·have a:¬64-m<=j:=Qa;simp only [h,a,decide_false,Bool.false_and]
  ·simp only [h,b,decide_false,Bool.false_and,Bool.and_false]
theorem O7 (w n:Nat):cutW (cutW w n) n=cutW w n:=by rw [Gl,Nat.min_self]
theorem Fj (hi lo:Nat) (n:Int):Ap hi lo n=true↔0<=n/\n<=128/\cutW hi n.toNat=hi/\cutW lo (n.toNat-64)=lo:=by unfold Ap;rw [decide_eq_true_eq]
theorem O8 (hi lo:Nat) (n:Int) (b a:Nat):hasB hi lo n b a=true↔Ap hi lo n=true/\cutW b n.toNat=hi/\cutW a (n.toNat-64)=lo:=by unfold hasB;simp
theorem O9 (hi lo:Nat) (n:Int) (b:0<=n) (a:n<=128):Ap (cutW hi n.toNat) (cutW lo (n.toNat-64)) n=true:=by rw [Fj];exact ⟨b,a,O7 _ _,O7 _ _⟩
theorem W64.cut {x:Nat} (n:Nat) (h:W64 x):W64 (cutW x n):=Nat.lt_of_le_of_lt (Zp x n) h
theorem Zw (h l:Nat) (n:Int):A5 h l n h l n=false:=by simp [A5]
theorem Fl (d b:Nat) (e:Int) (c a:Nat) (n2:Int):A5 d b e c a n2=true↔d<c\/d=c/\(b<a\/b=a/\e<n2):=by unfold A5;by_cases h:d=c<;>by_cases f:b=a<;>simp [h,f]<;>omega
theorem Zx (f c:Nat) (a:Int) (d b:Nat) (n2:Int) (h:¬(f=d/\c=b/\a=n2)):A5 d b n2 f c a = !A5 f c a d b n2:=by
 cases e:A5 f c a d b n2
 ·have:¬A5 f c a d b n2=true:=by simp [e]
  rw [Fl] at this;rw [Bool.not_false,Fl];omega
 ·rw [Fl] at e;rw [Bool.not_true,<-Bool.not_eq_true,Fl];omega
theorem Zy (k h:Nat) (d:Int) (j f:Nat) (n2:Int) (i e:Nat) (c:Int) (a:A5 k h d j f n2=true) (b:A5 j f n2 i e c=true):A5 k h d i e c=true:=by
 rw [Fl] at *
 omega
end Go.Proofs.YtpdphfgpdgadpaaGreat.M
namespace Go.Proofs.YtpdphfgpdgadpaaGreat
section
open Go.ChangeShapes Go.WideShapes Go.ChangeAt Go.RowKit Go.Joins M
section
variable {H:Type} {enc:TypeId×Value->H} {P:Program}
theorem Pa (k:laidOutB P=true) {W W':World} {sp:Nat->Bool}:∀(c:List TypeId) (e:List Value) (i:List (DataW H)) (p:List MemPlace),c.all (λt=>P.readableRec t&&decide (t<P.types.size))=true ->
 DataW.TrodAll enc P W 0 (λ_=>true) true c e i p->(∀x∈p,W.sameAt W' x)->(∀x∈p,sp x.block=true)->DataW.TrodAll enc P W' 0 sp true c e i p
 | [],[],[],_,_,h,_,_=>h
 | t::c,v::e,d::i,p,f,h,a,j=>by
  obtain ⟨l,p2,n,m,rfl⟩:=h;simp only [List.all_cons,Qq,decide_eq_true_eq] at f;exact ⟨l,p2,WideElems.Trod_stays k f.1.1 f.1.2 n (λx b=>a x (List.mem_append_left _ b)) (λx b=>j x (List.mem_append_left _ b)),
   Pa k c e i p2 f.2 m (λx b=>a x (List.mem_append_right _ b)) (λx b=>j x (List.mem_append_right _ b)),rfl⟩
 | [],_::_,_,_,_,h,_,_=>h.elim
 | [],[],_::_,_,_,h,_,_=>h.elim
 | _::_,[],_,_,_,h,_,_=>h.elim
 | _::_,_::_,[],_,_,h,_,_=>h.elim
theorem law_post {f:Func} {s:ChangeSpec} {apart:Bool} {W W':World} {args:Array Value} {k J:List (DataW H)} {before:List MemPlace} {E:TypeId}
 (Q:laidOutB P=true) (w:f.params.toList.all (λt=>P.readableRec t&&decide (t<P.types.size))=true) (I:f.resultTypes = #[E]) (m:P.underlying E=some .bool) (F:s.vars=[])
 (C:DataW.Whole enc P f.params.toList s.vars apart W args.toList k J before) (i:s.fn H (k++J)={ results:=[.lit (.bool true)],args:=k }) (A:Below W.heap.size W W') :
 s.post enc P f apart true false false W args (.bool true) W':=by
 have h:∀p∈before,p.block<W.heap.size:=λp d=>C.lt p d;have o:∀p∈before,(λb=>decide (b<W.heap.size)) p.block=true:=λp d=>by simpa using h p d
 have B:=C;obtain ⟨p,q,U,D,n,K,O⟩:=B;rw [F] at D;have S:=D;obtain ⟨R,N⟩:=trodVars_none D;subst R N;rw [List.append_nil] at n;subst n;have e:∀(b:Nat) (sp:Nat->Bool) (hd:Bool),DataW.TrodAll enc P W' b sp hd f.resultTypes.toList ((Value.bool true).resultList f.resultTypes.size) (s.fn H (k++[])).results []:=λb sp hd=>by rw [i,I];exact trodAll_cons_mk (shut_bool m _) trodAll_mk0
 have c:∀sp:Nat->Bool,(∀x∈before,sp x.block=true)->DataW.TrodAll enc P W' 0 sp true f.params.toList args.toList (s.fn H (k++[])).args before:=λsp y=>by rw [i];exact Pa Q _ _ _ _ w U (λx L=>A.same (h x L)) y
 have a:∀sp:Nat->Bool,DataW.TrodVars enc P W' sp s.vars (s.fn H (k++[])).vars []:=λsp=>by rw [i,F];rfl
 have z:∀(j:Nat) (t:TypeId) (r:Value),f.resultTypes[j]? = some t->((Value.bool true).resultList f.resultTypes.size)[j]? = some r->Value.okWide P W' .any 0 t r:=
  ok_one I rfl (okWide_bool_mk m _)
 refine ⟨k,[],before,[],before,[],C,e _ _ _,c _ o,a _,World.keptBut_mono (λp d=>⟨d,Or.inr (by simpa using d)⟩) (A.frame (· ∈ before)),λ_ => ?_⟩;refine ⟨z,_,_,([]++before)++[],⟨[]++before,[],trodAll_append (c _ (λ_ _=>rfl)) (e _ _ _),a _,rfl,?_,?_⟩,?_⟩
 ·intro b l d;have u:MemPlace.cell b l∈before:=by simpa using d
  rw [A.frozen (h _ u)];exact K b l u
 ·intro ha;simpa using O ha
 ·intro p d _;simpa using d
end
section
variable {H:Type} {enc:TypeId×Value->H} {w:World} {base:Nat} {spare:Nat->Bool} {held:Bool} {r:Reach} {b0:Nat}
theorem wf_u64 {n:Int} (h:(Lit.int .u64 n).wf=true):∃k:Nat,n=k/\W64 k:=by obtain ⟨a,b⟩:=bounds_u64 h;obtain ⟨k,rfl⟩:=Qv a;exact ⟨k,rfl,W64.mk Qa⟩
end
end
section
open Go.ChangeShapes Go.WideShapes Go.ChangeAt Go.RowKit Go.Joins Go.Deep M
def RowA {α:Type} (k:Nat) (cells:α->List Value) (w:World) (p:Option Addr) (L:List α):Prop:=
 L=[]\/∃g o,p=some ⟨g,o,none⟩/\g<w.heap.size/\∀(i:Nat) (hi:i<L.length) (j:Nat) (u:Value),(cells L[i])[j]? = some u->w.cell? ⟨g,o+i*k+j,none⟩=some u
theorem RowA.below {α:Type} {k:Nat} {cells:α->List Value} {w w':World} {p:Option Addr} {L:List α} (h:RowA k cells w p L) (b:Below w.heap.size w w'):RowA k cells w' p L:=by
 rcases h with h | ⟨g,o,e,a,d⟩
 ·exact .inl h
 ·exact .inr ⟨g,o,e,Qm a b.size,λi hi j u c=>(b.cell (p:=⟨g,o+i*k+j,none⟩) a).trans (d i hi j u c)⟩
theorem RowA.at {α:Type} {k:Nat} {cells:α->List Value} {w:World} {p:Option Addr} {L:List α} (h:RowA k cells w p L) {i:Nat} (hi:i<L.length) :
 ∃g o,p=some ⟨g,o,none⟩/\g<w.heap.size/\∀(j:Nat) (u:Value),(cells L[i])[j]? = some u->w.cell? ⟨g,o+i*k+j,none⟩=some u:=by
 rcases h with h | ⟨g,o,e,b,c⟩
 ·subst h;simp at hi
 ·exact ⟨g,o,e,b,λj u a=>c i hi j u a⟩
section
variable {H:Type} {enc:TypeId×Value->H} {P:Program} {w:World} {base:Nat} {spare:Nat->Bool} {held:Bool} {r:Reach} {b0:Nat}
end
end
section
open Go Go.RowKit Go.Sort
section
variable {P:Program} {ops:Array Oper} {md:Region.Mode} {C:World->Prop}
def Ec (P:Program) (md:Region.Mode) (ops:Array Oper) (C:World->Prop) (n:Nat) (L:Array Bool->Act->Prop):Nat->Array Bool->Act->Prop
 | 0,listed,a=>L listed a
 | f+1,listed,a=>Region.ready md ops listed≠[]/\∀i∈Region.ready md ops listed,i<n/\qOp P ops C i (Ec P md ops C n L f (listed.setIfInBounds i true)) a
theorem Ij {n g:Nat} {L:Array Bool->Act->Prop} {Q':Exit->Act->World->Prop} (d:∀listed a w,C w->L listed a->wpAny P md ops Q' g listed a w) :
 ∀(f:Nat) (listed:Array Bool) (a:Act) (w:World),C w->Ec P md ops C n L f listed a->wpAny P md ops Q' (f+g) listed a w
 | 0,listed,a,w,c,h=>by rw [Nat.zero_add];exact d _ _ _ c h
 | f+1,listed,a,w,c,h=>by rw [show f+1+g=(f+g)+1 by omega];exact ⟨λe=>absurd e h.1,λi hi=>wpOp_of_qOp c (λk w' b j=>Ij d f _ k w' b j) (h.2 i hi).2⟩
theorem Zz {n i:Nat} {z:Oper} {v:Value} {L:Array Bool->Act->Prop} (hi:ops[i]? = some z) (r:∀(j:Nat) (o:Oper) J b,ops[j]? = some o->o.op ≠ .select J b)
 (R:Region.sinkB md ops n=true) (U:Region.chainB md ops n=true) (S:n<ops.size) (E:i<n)
 (y:∀listed a,L listed a->∀j∈Region.ready md ops listed,n<=j) :
 ∀(f:Nat) (listed:Array Bool) (a:Act),HeadInv md ops n listed ->
  (∀j u,ops[j]? = some u->j≠i->listed.getD j true=false->(∀e∈u.after,Region.binds md e=true->e.on≠i)->z.apart ops u=true) ->
  i∈Region.ready md ops listed->YieldsIn P ops C z v a ->
  Ec P md ops C n L f (listed.setIfInBounds i true) (a.put z.dst v)->Ec P md ops C n L (f+1) listed a:=by
 intro f
 induction f with
 | zero=>
  intro listed a l _ s K H;refine ⟨λh=>(by rw [h] at s;cases s),λj x => ?_⟩;have m:j<n:=Nat.lt_of_not_le λh=>tail_waits R U S l _ i rfl E (mem_ready.1 s).1 j h x;refine ⟨m,?_⟩;by_cases c:j=i
  ·subst c;exact K.qOp hi H
  ·have:=y _ _ H j (ready_mono x c);omega
 | succ f ih=>
  intro listed a l d s K H;have A:=(mem_ready.1 s).1;refine ⟨λh=>(by rw [h] at s;cases s),λj x => ?_⟩;have m:j<n:=Nat.lt_of_not_le λh=>tail_waits R U S l _ i rfl E A j h x;refine ⟨m,?_⟩;by_cases c:j=i
  ·subst c;exact K.qOp hi H
  ·have h1:=(H.2 j (ready_mono x c)).2;obtain ⟨t,u,w,F⟩:=mem_ready.1 x;have B:∀e∈u.after,Region.binds md e=true->e.on≠i:=λe Y Z Q=>by have I:=F e Y Z;rw [Q,getD_both A] at I;cases I
   have h2:=qOp_put w (d j u w c t B) (λJ b=>r i z J b hi) (λJ b=>r j u J b w) K h1;have p:∀k ok,ops[k]? = some ok->k≠i->(listed.setIfInBounds j true).getD k true=false ->
    (∀e∈ok.after,Region.binds md e=true->e.on≠i)->z.apart ops ok=true:=λk ok X O q N=>by
    refine d k ok X O ?_ N;by_cases D:j=k
    ·subst D;exact t
    ·rw [getD_set_ne true D] at q;exact q
   refine qOp_mono (λa' I=>ih (listed.setIfInBounds j true) a' (l.set x m) p (ready_mono s (Ne.symm c)) I.1 ?_) h2;rw [Array.setIfInBounds_comm _ _ c];exact I.2
theorem Pb {n g:Nat} {s:Act->Prop} (c:Region.noSelect ops=true) (t:Region.sinkB md ops n=true) (x:Region.chainB md ops n=true) (u:n<ops.size) :
 ∀(l:List Oper) (k:Nat) (listed:Array Bool) (a:Act),(∀j,j<l.length->l[j]? = ops[k+j]?)->k+l.length=n->HeadInv md ops n listed ->
 Region.lexHead md ops g l.length k listed=true->wpQuiet P ops C s l a ->
 Ec P md ops C n (λb y=>Region.seqB md ops g n b=true/\s y) l.length listed a
 | [],k,listed,a,_,i,_,m,h=>by
  obtain rfl:k=n:=by simpa using i
  exact ⟨by simpa [Region.lexHead] using m,h⟩
 | o::l,k,listed,a,w,i,d,m,h=>by
  have p:ops[k]? = some o:=by simpa using (w 0 Qf).symm
  simp only [Qt,Region.lexHead,Qq] at m;obtain ⟨⟨A,B⟩,r⟩:=m;have f:k<n:=by simp only [Qt] at i;omega
  have e:k∈Region.ready md ops listed:=by simpa using A
  have q:qOp P ops C k (wpQuiet P ops C s l) a:=by unfold qOp;simp only [p];exact h
  obtain ⟨v,z,E⟩:=yieldsIn_of_qOp p q;exact Zz p (Region.noSelect_spec c) t x u f (λb y D=>seqB_ready D.1) l.length listed a d (Region.free_spec p B) e z
   (Pb c t x u l (k+1) _ _ (λj F=>by have:=w (j+1) Qe;simpa [Nat.add_assoc,Nat.add_comm 1 j] using this) (by simp only [Qt] at i;omega) (d.set e f) r E)
theorem Ed {Q Q':Act->Prop} (h:∀a,Q a->Q' a):∀(l:List Oper) (a:Act),wpQuiet P ops C Q l a->wpQuiet P ops C Q' l a
 | [],_,H=>h _ H
 | o::l,a,H=>by
  unfold wpQuiet at *
  split
  ·rename_i b;rw [if_pos b] at H;exact Oper.quiet_mono (λc=>Ed h l c) H
  ·rename_i b;rw [if_neg b] at H;exact Ed h l _ H
theorem Z0 {u:Nat} {Q:Exit->Act->World->Prop} {a:Act} {w:World} {l:List Oper} (n:Nat) (A:P.follows .mixedOrders=true) (s:Region.lexTailB .any l.toArray n=true) (D:C { w with drawn:=w.drawn+1 })
 (h:wpQuiet P l.toArray C (λm=>∀w',C w'->wpList P l.toArray Q (l.drop n) m w') (l.take n) a):(Code.region u l.toArray true).wp P Q a w:=by
 simp only [Region.lexTailB,Qq,decide_eq_true_eq] at s;obtain ⟨⟨⟨⟨d,o⟩,y⟩,B⟩,e⟩:=s;have z:n<l.length:=by simpa using o
 have b:(l.take n).length=n:=Qe;have f:(l.drop n).length=l.toArray.size-n:=Qf;have c:HeadInv .any l.toArray n (Array.replicate l.toArray.size false):=
  ⟨Qf,λj E _ p=>(by rw [getD_replicate_false] at p;cases p),λt _ x=>getD_in (by simpa using x) (getD_replicate_false _ _)⟩
 have H:=Pb (md := .any) (g:=l.toArray.size-n) d y B o (l.take n) 0 _ a (λj q=>by
  have k:j<n:=by rw [b] at q;exact q
  simp [k]) (by simpa using b) c (by rw [b];exact e) h
 refine wp_region_any A ?_;have:=Ij (Q':=Q) (g:=l.toArray.size-n) (λlisted m w' i r=>by
  have:=wpAny_of_seq (md := .any) (Q':=Q) (l.drop n) n listed m w' (λj=>by simp [List.getElem?_drop]) (by rw [f];exact r.1) (r.2 w' i)
  rwa [f] at this) _ _ _ _ D H
 rw [b,show n+(l.toArray.size-n)=l.toArray.size by omega] at this;exact this
theorem A1 {b:Nat} {Q:Exit->Act->World->Prop} {a:Act} {w:World} {l:List Oper} (n:Nat) (e:P.follows .mixedOrders=true) (f:Region.lexTailB .any l.toArray n=true)
 (h:wpQuiet P l.toArray (λw'=>∃p:Regrown,w'=grow (redrawn w p.d) p.os) (λi=>∀w',Below w.heap.size w w'->wpList P l.toArray Q (l.drop n) i w') (l.take n) a) :
 (Code.region b l.toArray true).wp P Q a w:=
 Z0 (C:=λw'=>∃p:Regrown,w'=grow (redrawn w p.d) p.os) n e f ⟨⟨w.drawn+1,#[]⟩,by rw [grow_empty];rfl⟩ (Ed (λ_ H w' ⟨p,c⟩=>H w' (c▸below_regrown _ _ _)) _ _ h)
theorem Am {b:Nat} {Q:Exit->Act->World->Prop} {a:Act} {w:World} {l:List Oper} (e:P.follows .mixedOrders=true) (f:Region.lexB .any l.toArray=true)
 (h:wpQuiet P l.toArray (λw'=>∃p:Regrown,w'=grow (redrawn w p.d) p.os) (λi=>∀w',Below w.heap.size w w'->Q .normal i w') l a):(Code.region b l.toArray true).wp P Q a w:=
 wp_region_quiet_below e f (Ed (λ_ H w' ⟨p,c⟩=>H w' (c▸below_regrown _ _ _)) _ _ h)
end
theorem Ad (W:World) (d:Nat) (a:Array Obj) (b o:Nat) (h:b<W.heap.size):(grow (redrawn W d) a).cell? ⟨b,o,none⟩=W.cell? ⟨b,o,none⟩:=
 (below_regrown W d a).cell (p:=⟨b,o,none⟩) h
theorem Au {a b:Bool} (h:a=b):Ending.returned (.bool a) = .returned (.bool b):=by rw [h]
theorem Bc {k:IntKind} {a b:Int} (h:a=b):Ending.returned (.int k a) = .returned (.int k b):=by rw [h]
def Aj (P:Program) (f:FuncId) (args:Array Value) (v:Value):Prop:=∀w,Calls P f args w λe w'=>e = .returned v/\Below w.heap.size w w'
theorem Aj.at {P:Program} {f:FuncId} {args:Array Value} {v:Value} (h:Aj P f args v) (w:World) (d:Nat) (b:Array Obj) :
 Calls P f args (grow (redrawn w d) b) λe a=>e = .returned v/\∃p:Regrown,a=grow (redrawn w p.d) p.os:=Calls.regrown_of (h _)
theorem Aj.still {P:Program} {f:FuncId} {args:Array Value} {v:Value} (h:∀w,Calls P f args w λe w'=>e = .returned v/\w=w'):Aj P f args v:=
 λw=>(h w).mono λ_ _ ⟨b,a⟩=>⟨b,a▸Below.refl _ _⟩
theorem Ac {W w1:World} (a:Below W.heap.size W w1):(∀b o,b<W.heap.size->w1.cell? ⟨b,o,none⟩=W.cell? ⟨b,o,none⟩)/\(∀b o,b<W.heap.size->w1.frozen? ⟨b,o,none⟩=W.frozen? ⟨b,o,none⟩):=
 ⟨λb o h=>a.cell (p:=⟨b,o,none⟩) h,λb o h=>a.frozen (p:=⟨b,o,none⟩) h⟩
end
section
open Go.RowKit Go.Sort
theorem own_below {B n k:Nat} {e:TypeId} {v:Value} {xs:List Value} {w w':World} (h:w.ownsRow B e k v n xs) (a:Below w.heap.size w w'):w'.ownsRow B e k v n xs:=
 h.kept (row:=none) ⟨a.os,a.tape,a.output,a.size,λj b _=>a.block j b⟩ (by cases c:v.ownBlock<;>simp)
theorem Aq {B n k:Nat} {e:TypeId} {v:Value} {xs:List Value} {w:World} (h:w.ownsRow B e k v n xs):∃p cap,v = .slice p n cap:=by
 rcases h.2 with ⟨rfl,a⟩ | ⟨g,cap,_,rfl,_⟩
 ·exact ⟨none,0,by rw [a]⟩
 ·exact ⟨some ⟨g,0,none⟩,cap,rfl⟩
theorem A7 {B B' n k:Nat} {e:TypeId} {v:Value} {xs:List Value} {w:World} (h:w.ownsRow B e k v n xs) (d:B'<=B):w.ownsRow B' e k v n xs:=
 ⟨h.1,h.2.elim Or.inl (λ⟨g,cap,a,b,c,r⟩=>Or.inr ⟨g,cap,a,b,Qw d c,r⟩)⟩
end
end Go.Proofs.YtpdphfgpdgadpaaGreat
namespace Go.Proofs.YtpdphfgpdgadpaaGreat.M
def val (h l:Nat):Nat:=h*2^64+l
def hiW (a:Nat):Nat:=a/2^64
def loW (a:Nat):Nat:=a%2^64
def W128 (a:Nat):Prop:=a<2^128
theorem Kw (h l:Nat) (b:W64 l):hiW (val h l)=h:=by unfold hiW val;unfold W64 at b;omega
theorem Pd (h l:Nat) (b:W64 l):loW (val h l)=l:=by unfold loW val;unfold W64 at b;omega
theorem Kx (a:Nat):val (hiW a) (loW a)=a:=by unfold val hiW loW;omega
theorem W128.hi {a:Nat} (h:W128 a):W64 (hiW a):=by unfold W128 at h;unfold W64 hiW;omega
theorem W128.lo {a:Nat}:W64 (loW a):=by unfold W64 loW;omega
theorem W64.val {h l:Nat} (a:W64 h) (b:W64 l):W128 (val h l):=by unfold W128 M.val;unfold W64 at a b;omega
theorem Z1 {h l c a:Nat} (b:W64 l) (d:W64 a) (e:val h l=val c a):h=c/\l=a:=by unfold val at e;unfold W64 at b d;omega
theorem Z2 (h l k:Nat) (b:W64 l):val h l/2^(64+k)=h/2^k:=by rw [Nat.pow_add,<-Nat.div_div_eq_div_mul];congr 1;exact Kw h l b
theorem Z3 (h l k:Nat) (a:k<=64):val h l/2^k=h*2^(64-k)+l/2^k:=by unfold val;rw [show (2:Nat)^64=2^(64-k)*2^k by rw [<-Nat.pow_add];congr 1;omega,<-Nat.mul_assoc,Nat.add_comm,Nat.add_mul_div_right _ _ (Nat.two_pow_pos k),Nat.add_comm]
theorem Kz (h l n:Nat) (b:W64 l) (a:n<=128):val (cutW h n) (cutW l (n-64))=val h l/2^(128-n)*2^(128-n):=by
 by_cases c:n<=64
 ·rw [show n-64=0 by omega,Ku l b,show 128-n=64+(64-n) by omega,Z2 h l _ b];unfold val cutW;rw [Nat.add_zero,Nat.mul_assoc,<-Nat.pow_add,Nat.add_comm]
 ·rw [Zt h n Qa,Z3 h l _ Qa];unfold val cutW;rw [show 64-(n-64)=128-n by omega,Nat.add_mul,Nat.mul_assoc,<-Nat.pow_add];congr 3;omega
theorem Ik (h l c a n:Nat) (b:W64 l) (d:W64 a) (f:n<=128):(cutW h n=c/\cutW l (n-64)=a)↔val h l/2^(128-n)*2^(128-n)=val c a:=by rw [<-Kz h l n b f];exact ⟨λ⟨j,i⟩=>by rw [j,i],λe=>Z1 (b.cut _) d e⟩
theorem La (x y:Nat):x/y*y=x↔y ∣ x:=Nat.dvd_iff_div_mul_eq x y |>.symm
theorem Cv (h l:Nat) (n:Int) (b:W64 l):Ap h l n=true↔0<=n/\n<=128/\2^(128-n.toNat) ∣ val h l:=by
 rw [Fj];constructor
 ·rintro ⟨d,c,a⟩;refine ⟨d,c,?_⟩;rw [<-La,<-(Ik h l h l n.toNat b b Qa)];exact a
 ·rintro ⟨d,c,a⟩;refine ⟨d,c,?_⟩;rw [Ik h l h l n.toNat b b Qa,La];exact a
theorem Lb (h l:Nat) (n:Int) (x y:Nat) (b:W64 l) (d:W64 y):hasB h l n x y=true↔Ap h l n=true/\val x y/2^(128-n.toNat)=val h l/2^(128-n.toNat):=by
 rw [O8];constructor
 ·rintro ⟨c,e⟩;have a:=c;rw [Cv h l n b] at a;obtain ⟨j,i,f⟩:=a;rw [Ik x y h l n.toNat d b Qa] at e;refine ⟨c,?_⟩;rw [<-e,Nat.mul_div_cancel _ (Nat.two_pow_pos _)]
 ·rintro ⟨c,e⟩;have a:=c;rw [Cv h l n b] at a;obtain ⟨j,i,f⟩:=a;refine ⟨c,?_⟩;rw [Ik x y h l n.toNat d b Qa,e,La];exact f
theorem Z4 (f c:Nat) (h:Int) (e a:Nat) (n2:Int) (b:W64 c) (d:W64 a):A5 f c h e a n2=true↔val f c<val e a\/val f c=val e a/\h<n2:=by rw [Fl];unfold val;unfold W64 at b d;omega
structure Pf where
 a:Nat
 n:Int
deriving DecidableEq
theorem Z5 (x y k:Nat) (b:2^k ∣ x) (a:y<2^k):x ||| y=x+y:=by obtain ⟨q,rfl⟩:=b;exact (Nat.two_pow_add_eq_or_of_lt a q).symm
theorem hi_or (x y:Nat):hiW (x ||| y)=hiW x ||| hiW y:=by unfold hiW;apply Nat.eq_of_testBit_eq;intro i;rw [Nat.testBit_or,Nat.testBit_div_two_pow,Nat.testBit_div_two_pow,Nat.testBit_div_two_pow,Nat.testBit_or]
theorem lo_or (x y:Nat):loW (x ||| y)=loW x ||| loW y:=by unfold loW;apply Nat.eq_of_testBit_eq;intro i;simp only [Nat.testBit_mod_two_pow,Nat.testBit_or];by_cases h:i<64<;>simp [h]
def Dg (x k:Nat):Nat:=if 64<=k then x*2^(k-64)%2^64 else x/2^(64-k)
def Dh (x k:Nat):Nat:=if 64<=k then 0 else x*2^k%2^64
theorem Z6 (x k:Nat) (h:x*2^k<2^128):Dg x k=hiW (x*2^k):=by
 unfold Dg hiW;by_cases a:64<=k
 ·rw [if_pos a];have e:2^k=2^(k-64)*2^64:=by rw [<-Nat.pow_add];congr 1;omega
  rw [e,<-Nat.mul_assoc] at h;rw [e,<-Nat.mul_assoc,Nat.mul_div_cancel _ Qd,Nat.mod_eq_of_lt Qa]
 ·rw [if_neg a];have e:(2:Nat)^64=2^(64-k)*2^k:=by rw [<-Nat.pow_add];congr 1;omega
  rw [e,Nat.mul_div_mul_right _ _ (Nat.two_pow_pos k)]
theorem Z7 (x k:Nat):Dh x k=loW (x*2^k):=by
 unfold Dh loW;by_cases a:64<=k
 ·rw [if_pos a];have e:2^k=2^(k-64)*2^64:=by rw [<-Nat.pow_add];congr 1;omega
  rw [e,<-Nat.mul_assoc,Nat.mul_mod_left]
 ·rw [if_neg a]
theorem Pe (a x m n:Nat) (f:m<=n) (h:n<=128) (ha:W128 a) (hd:2^(128-m) ∣ a) (d:x<2^(n-m)) :
 hiW a ||| Dg x (128-n)=hiW (a+x*2^(128-n))/\loW a ||| Dh x (128-n)=loW (a+x*2^(128-n))/\W128 (a+x*2^(128-n)):=by
 have b:x*2^(128-n)<2^(128-m):=by rw [show 128-m=(n-m)+(128-n) by omega,Nat.pow_add];exact Nat.mul_lt_mul_of_pos_right d (Nat.two_pow_pos _)
 have c:2^(128-m)<=2^128:=Nat.pow_le_pow_right Qd Qa;have e:=Z5 a (x*2^(128-n)) (128-m) hd b;rw [Z6 x _ (Qm b c),Z7,<-hi_or,<-lo_or,e];refine ⟨rfl,rfl,?_⟩;unfold W128;rw [<-e];exact Nat.or_lt_two_pow ha (Qm b c)
def Dz (a m n:Nat):List Nat:=(List.range (2^(n-m))).map λi=>a+i*2^(128-n)
theorem Pg (a m n:Nat):(Dz a m n).length=2^(n-m):=by simp [Dz]
theorem Z8 (a m n:Nat) (c:m<=n) (d:n<=128) (ha:W128 a) (hd:2^(128-m) ∣ a):∀x∈Dz a m n,W128 x/\2^(128-n) ∣ x:=by intro x b;unfold Dz at b;rw [List.mem_map] at b;obtain ⟨i,hi,rfl⟩:=b;rw [List.mem_range] at hi;exact ⟨(Pe a i m n c d ha hd hi).2.2,Nat.dvd_add (Nat.dvd_trans (Nat.pow_dvd_pow 2 Qa) hd) (Nat.dvd_mul_left _ _)⟩
theorem Z9 (a m n i:Nat) (b:m<=n) (d:n<=128) (hd:2^(128-m) ∣ a) (hi:i<2^(n-m)):(a+i*2^(128-n))/2^(128-m)=a/2^(128-m):=by
 obtain ⟨q,rfl⟩:=hd;have c:i*2^(128-n)<2^(128-m):=by rw [show 128-m=(n-m)+(128-n) by omega,Nat.pow_add];exact Nat.mul_lt_mul_of_pos_right hi (Nat.two_pow_pos _)
 rw [Nat.mul_comm (2^(128-m)) q,Nat.add_comm,Nat.add_mul_div_right _ _ (Nat.two_pow_pos _),Nat.mul_div_cancel _ (Nat.two_pow_pos _),Nat.div_eq_of_lt c,Nat.zero_add]
end Go.Proofs.YtpdphfgpdgadpaaGreat.M
namespace Go.Proofs.YtpdphfgpdgadpaaGreat
open Go.RowKit Go.Sort M
def D1 (p:Pf):List Value:=[.int .u64 (hiW p.a:Nat),.int .u64 (loW p.a:Nat),.int .i64 p.n]
def pcs (L:List Pf):List Value:=L.flatMap D1
theorem Z5q (L:List Pf):(pcs L).length=L.length*3:=by
 unfold pcs
 induction L with
 | nil=>rfl
 | cons x L ih=>simp only [List.flatMap_cons,Qo,ih,D1,Qt,List.length_nil];omega
theorem Zve (L M:List Pf):pcs (L++M)=pcs L++pcs M:=by simp [pcs]
theorem Ph (x:Pf) (L:List Pf):pcs (x::L)=D1 x++pcs L:=rfl
theorem Z5p (p:Pf):pcs [p]=D1 p:=by simp [pcs]
theorem Il:∀(L:List Pf) (k j:Nat) (h:k<L.length),j<3->(pcs L)[k*3+j]? = (D1 L[k])[j]?
 | x::L,0,j,_,a=>by rw [Ph,List.getElem?_append_left (by simp [D1];omega)];simp
 | x::L,k+1,j,h,a=>by rw [Ph,List.getElem?_append_right (by simp [D1];omega),show (k+1)*3+j-(D1 x).length=k*3+j by simp [D1];omega];rw [Il L k j (by simpa using h) a];simp
theorem B9 {P:Program} {t e:TypeId} {z:Value} {size bytes:Nat} (l:P.underlying t=some (.slice e)) (k:(P.info? e).map (λi=>(i.zero,i.size,i.bytes))=some (some z,size,bytes)) (c:Nat) (n:bytes*c<=281474976710656) (m:c<=maxLen) (w:World) :
 (Instr.makeSlice t (.int .i64 (c:Int)) (.int .i64 (c:Int))).run P w = .ok (.slice (some ⟨w.heap.size,0,none⟩) c c) (w.alloc (.cells (madeCells z.cells (c*size)) e)):=by
 obtain ⟨j,f,d,b,a⟩:=info_parts k;have h:=run_make (P:=P) w t e j z l f d .i64 .i64 c c Qa Qa (by rw [a];have e:((bytes*c:Nat):Int)<=281474976710656:=(Qa);rwa [Int.natCast_mul] at e) (by unfold maxLen at m;omega);rw [Int.toNat_natCast,b] at h;exact h
def Row (w:World) (p:Option Addr) (xs:List Value):Prop:=xs=[]\/∃g o,p=some ⟨g,o,none⟩/\g<w.heap.size/\∀j u,xs[j]? = some u->w.cell? ⟨g,o+j,none⟩=some u
theorem Row.below {w w':World} {p:Option Addr} {xs:List Value} (h:Row w p xs) (b:Below w.heap.size w w'):Row w' p xs:=by
 rcases h with h | ⟨g,o,e,a,d⟩
 ·exact .inl h
 ·exact .inr ⟨g,o,e,Qm a b.size,λj u c=>(b.cell (p:=⟨g,o+j,none⟩) a).trans (d j u c)⟩
theorem Row.of_own {w:World} {B n k c:Nat} {e:TypeId} {p:Option Addr} {xs:List Value} (h:w.ownsRow B e k (.slice p n c) n xs):Row w p xs:=by
 by_cases a:xs=[]
 ·exact .inl a
 ·have i:=λg f=>h.cells (g:=g) f;have d:=h.lt;rcases h.2 with ⟨e,l⟩ | ⟨g,cap,o,e,-,-,-,-,-,-⟩
  ·exact absurd (List.length_eq_zero_iff.1 (by rw [h.1,l,Nat.zero_mul])) a
  ·injection e with m r q;subst m;refine .inr ⟨g,0,rfl,(d g rfl).2,λj u b => ?_⟩;have:=i g rfl j u b;rw [Nat.zero_add]
   rwa [show (⟨g,0,none⟩:Addr).add j=⟨g,j,none⟩ by unfold Addr.add;split<;>simp_all] at this
theorem Row.at {w:World} {p:Option Addr} {L:List Pf} (h:Row w p (pcs L)) {k:Nat} (b:k<L.length):∃g o,p=some ⟨g,o,none⟩/\g<w.heap.size /\
 w.cell? ⟨g,o+k*3,none⟩=some (.int .u64 (hiW L[k].a:Nat))/\w.cell? ⟨g,o+k*3+1,none⟩=some (.int .u64 (loW L[k].a:Nat))/\w.cell? ⟨g,o+k*3+2,none⟩=some (.int .i64 L[k].n):=by
 rcases h with h | ⟨g,o,e,d,c⟩
 ·have:=Z5q L;rw [h] at this;simp at this;omega
 ·exact ⟨g,o,e,d,c (k*3) _ (Il L k 0 b Qa),c (k*3+1) _ (Il L k 1 b Qa),c (k*3+2) _ (Il L k 2 b Qa)⟩
theorem Z7o {w:World} {B g n c:Nat} {e:TypeId} {xs:List Value} (h:w.ownsRow B e 3 (.slice (some ⟨g,0,none⟩) n c) n xs) (k:Nat) (u0 u1 u2:Value) :
 (((w.setCell ⟨g,k*3,none⟩ u0).setCell ⟨g,k*3+1,none⟩ u1).setCell ⟨g,k*3+2,none⟩ u2).ownsRow B e 3 (.slice (some ⟨g,0,none⟩) n c) n (((xs.set (k*3) u0).set (k*3+1) u1).set (k*3+2) u2):=
 (((h.stored _ _).1.stored _ _).1.stored _ _).1
theorem Zxh (xs:List Value) (k:Nat) (u0 u1 u2:Value) (h:k*3+3<=xs.length):(((xs.set (k*3) u0).set (k*3+1) u1).set (k*3+2) u2).take ((k+1)*3)=xs.take (k*3)++[u0,u1,u2]:=by
 apply List.ext_getElem?;intro i;rw [List.getElem?_take,List.getElem?_append,Qs,Nat.min_eq_left Qa,List.getElem?_take];by_cases a:i<k*3
 ·rw [if_pos Qa,if_pos a,if_pos a];simp only [List.getElem?_set];rw [if_neg Qa,if_neg Qa,if_neg Qa]
 ·rw [if_neg a];by_cases b:i<(k+1)*3
  ·rw [if_pos b];simp only [List.getElem?_set,List.length_set];rcases (show i=k*3\/i=k*3+1\/i=k*3+2 by omega) with rfl | rfl | rfl
   ·rw [if_neg Qa,if_neg Qa,if_pos rfl,if_pos Qa];simp
   ·rw [if_neg Qa,if_pos rfl,if_pos Qa];simp
   ·rw [if_pos rfl,if_pos Qa];simp
  ·rw [if_neg b,List.getElem?_eq_none Qe]
theorem Ee (w:World) (a:Array Value) (t:TypeId):∀j u,a.toList[j]? = some u->(w.alloc (.cells a t)).cell? ((⟨w.heap.size,0,none⟩:Addr).add j)=some u:=by intro j u b;rw [show (⟨w.heap.size,0,none⟩:Addr).add j=⟨w.heap.size,j,none⟩ by unfold Addr.add;split<;>simp_all];rw [cell_of_row _ _ j a t (0,0) (heap_alloc_new w _)];simpa using b
def pfs (L:List Nat) (m:Int):List Pf:=L.map λx=>⟨x,m⟩
theorem Pi (L:List Nat) (m:Int):(pfs L m).length=L.length:=by simp [pfs]
end Go.Proofs.YtpdphfgpdgadpaaGreat

import Derived.WalkKit
import Derived.Lib.BitFns
import Derived.Test.YtgfjmgebecmbiaaGreatRows
import Derived.ProofKit
import Derived.OpenShut
import Derived.Lib.SmallJoins
import Derived.Lib.QuietBelow
import Derived.StillTail
import Derived.BigQuiet
set_option linter.unusedSimpArgs false
set_option linter.unusedVariables false
namespace Go.Proofs.YtgfjmgebecmbiaaGreat.M
theorem Zf8 (a k j:Nat):(a*2^k).testBit j=(decide (k<=j)&&a.testBit (j-k)):=by
 rw [<-Nat.shiftLeft_eq,Nat.testBit_shiftLeft]
def W64 (w:Nat):Prop:=w<2^64
theorem W64.lt {w:Nat} (h:W64 w):w<18446744073709551616:=h
theorem W64.mk {w:Nat} (h:w<18446744073709551616):W64 w:=h
def cutW (w n:Nat):Nat:=w/2^(64-n)*2^(64-n)
theorem Zcn (w n j:Nat):(cutW w n).testBit j=(decide (64-n<=j)&&w.testBit j):=by
 unfold cutW
 rw [Zf8,Nat.testBit_div_two_pow]
 by_cases h:64-n<=j
 ·simp [h]
 ·simp [h]
theorem Zz9 (w n:Nat):cutW w n<=w:=Nat.div_mul_le_self _ _
theorem Z3g (n:Nat) (h:n<=64):(2^64-1)/2^n=2^(64-n)-1:=by
 apply Nat.eq_of_testBit_eq
 intro i
 rw [Nat.testBit_div_two_pow,Nat.testBit_two_pow_sub_one,Nat.testBit_two_pow_sub_one]
 by_cases h1:i+n<64<;>simp [h1]<;>omega
theorem Z2h (w n:Nat) (hw:w<2^64) (h:n<=64):w &&& ((2^64-1) ^^^ ((2^64-1)/2^n))=cutW w n:=by
 apply Nat.eq_of_testBit_eq
 intro i
 rw [Z3g n h,Zcn,Nat.testBit_and,Nat.testBit_xor,Nat.testBit_two_pow_sub_one,Nat.testBit_two_pow_sub_one]
 by_cases h1:i<64
 ·by_cases h2:i<64-n
  ·have h3:¬64-n<=i:=by omega
   simp [h1,h2,h3]
  ·have h3:64-n<=i:=by omega
   simp [h1,h2,h3]
 ·have:w.testBit i=false:=Nat.testBit_lt_two_pow (Nat.lt_of_lt_of_le hw (Nat.pow_le_pow_right (by omega) (by omega)))
  simp [this]
def bitN (hi lo i:Nat):Bool:=if i<64 then hi.testBit (63-i) else if i<128 then lo.testBit (127-i) else false
def bitI (hi lo:Nat) (i:Int):Int:=if 0<=i/\bitN hi lo i.toNat=true then 1 else 0
theorem Z61 (hi lo i:Nat) (h:i<64):bitI hi lo (i:Int)=((hi/2^(63-i) &&& 1:Nat):Int):=by
 unfold bitI bitN
 simp only [Int.toNat_natCast,h,if_true,Nat.and_one_is_mod]
 rw [<-Nat.toNat_testBit]
 cases hi.testBit (63-i)<;>simp
theorem Z60 (hi lo i:Nat) (h:64<=i) (h2:i<128):bitI hi lo (i:Int)=((lo/2^(127-i) &&& 1:Nat):Int):=by
 unfold bitI bitN
 have h1:¬i<64:=by omega
 simp only [Int.toNat_natCast,h1,h2,if_true,if_false,Nat.and_one_is_mod]
 rw [<-Nat.toNat_testBit]
 cases lo.testBit (127-i)<;>simp
theorem Z34 (hi lo:Nat) (i:Int) (h:i<0\/128<=i):bitI hi lo i=0:=by
 unfold bitI bitN
 by_cases h0:0<=i
 ·have h1:¬i.toNat<64:=by omega
  have h2:¬i.toNat<128:=by omega
  simp [h1,h2]
 ·simp [h0]
theorem Z35 (hi lo i:Nat):bitI hi lo (i:Int)=if bitN hi lo i then 1 else 0:=by
 unfold bitI;simp
theorem Zt4 (hi lo n i:Nat):bitN (cutW hi n) (cutW lo (n-64)) i=(decide (i<n)&&bitN hi lo i):=by
 unfold bitN
 by_cases h:i<64
 ·simp only [h,if_true,Zcn]
  by_cases h1:i<n
  ·have:64-n<=63-i:=by omega
   simp [h1,this]
  ·have:¬64-n<=63-i:=by omega
   simp [h1,this]
 ·by_cases h2:i<128
  ·simp only [h,h2,if_true,if_false,Zcn]
   by_cases h1:i<n
   ·have:64-(n-64)<=127-i:=by omega
    simp [h1,this]
   ·have:¬64-(n-64)<=127-i:=by omega
    simp [h1,this]
  ·simp [h,h2]
theorem Zr6 (a b:Nat) (ha:a<2^64) (hb:b<2^64) (h:∀i,i<64->a.testBit i=b.testBit i):a=b:=by
 apply Nat.eq_of_testBit_eq
 intro i
 by_cases hi:i<64
 ·exact h i hi
 ·rw [Nat.testBit_lt_two_pow (Nat.lt_of_lt_of_le ha (Nat.pow_le_pow_right (by omega) (by omega))),Nat.testBit_lt_two_pow (Nat.lt_of_lt_of_le hb (Nat.pow_le_pow_right (by omega) (by omega)))]
theorem Z4a (h l h2 l2:Nat) (a:h<2^64) (b:l<2^64) (c:h2<2^64) (d:l2<2^64) (e:∀i,i<128->bitN h l i=bitN h2 l2 i):h=h2/\l=l2:=by
 constructor
 ·refine Zr6 _ _ a c fun i hi => ?_
  have:=e (63-i) (by omega)
  unfold bitN at this
  rw [if_pos (by omega),if_pos (by omega),show 63-(63-i)=i from by omega] at this
  exact this
 ·refine Zr6 _ _ b d fun i hi => ?_
  have:=e (127-i) (by omega)
  unfold bitN at this
  have q1:¬127-i<64:=by omega
  have q2:127-i<128:=by omega
  have q3:127-(127-i)=i:=by omega
  simp only [q1,q2,q3,if_true,if_false] at this
  exact this
theorem Zhf (w i:Nat) (h:i<64):cutW w (i+1)=if w.testBit (63-i) then cutW w i ||| 2^(63-i) else cutW w i:=by
 apply Nat.eq_of_testBit_eq
 intro j
 rw [Zcn]
 by_cases hj:j=63-i
 ·subst hj
  have h1:64-(i+1)<=63-i:=by omega
  by_cases hb:w.testBit (63-i)=true
  ·rw [if_pos hb,Nat.testBit_or,Nat.testBit_two_pow,hb]
   simp only [h1,decide_true,Bool.true_and,Bool.or_true]
  ·rw [if_neg hb,Zcn]
   simp only [Bool.not_eq_true] at hb
   simp only [hb,Bool.and_false]
 ·have h3:decide (64-(i+1)<=j)=decide (64-i<=j):=by rw [decide_eq_decide];omega
  rw [h3]
  by_cases hb:w.testBit (63-i)=true
  ·have h4:¬(63-i=j):=by omega
   rw [if_pos hb,Nat.testBit_or,Zcn,Nat.testBit_two_pow]
   simp only [h4,decide_false,Bool.or_false]
  ·rw [if_neg hb,Zcn]
theorem Ze4 (w n:Nat) (h:64<=n):cutW w n=w:=by unfold cutW;rw [show 64-n=0 by omega];simp
theorem Ze3 (w:Nat) (h:w<2^64):cutW w 0=0:=by unfold cutW;simp [Nat.div_eq_of_lt h]
def Zan (hi lo:Nat) (n:Int):Bool:=decide (0<=n/\n<=128/\cutW hi n.toNat=hi/\cutW lo (n.toNat-64)=lo)
def hasB (hi lo:Nat) (n:Int) (ahi alo:Nat):Bool:=Zan hi lo n&&(decide (cutW ahi n.toNat=hi)&&decide (cutW alo (n.toNat-64)=lo))
def lessB (h1 l1:Nat) (n1:Int) (h2 l2:Nat) (n2:Int):Bool:=if h1≠h2 then decide (h1<h2) else if l1≠l2 then decide (l1<l2) else decide (n1<n2)
theorem bitLenAux_le:∀(f x:Nat),Lib.bitLenAux f x<=f
 | 0,_=>Nat.le_refl _
 | f+1,x=>by
  unfold Lib.bitLenAux
  have:=bitLenAux_le f (x/2)
  split<;>omega
theorem bitLen_le (x:Nat):Lib.bitLen x<=64:=bitLenAux_le 64 x
theorem Zdp:∀(f x:Nat),x<2^f->x<2^Lib.bitLenAux f x/\(x≠0->0<Lib.bitLenAux f x/\2^(Lib.bitLenAux f x-1)<=x)
 | 0,x,h=>by
  have:x=0:=by simpa using h
  simp [this,Lib.bitLenAux]
 | f+1,x,h=>by
  unfold Lib.bitLenAux
  by_cases hx:x=0
  ·simp [hx]
  ·rw [if_neg hx]
   obtain ⟨h1,h2⟩:=Zdp f (x/2) (by rw [Nat.pow_succ] at h;omega)
   refine ⟨?_,fun _=>⟨by omega,?_⟩⟩
   ·rw [Nat.add_comm,Nat.pow_succ];omega
   ·rw [show 1+Lib.bitLenAux f (x/2)-1=Lib.bitLenAux f (x/2) by omega]
    by_cases h0:x/2=0
    ·have:Lib.bitLenAux f (x/2)=0:=by rw [h0];cases f<;>simp [Lib.bitLenAux]
     rw [this];simp;omega
    ·obtain ⟨h3,h4⟩:=h2 h0
     have:2^Lib.bitLenAux f (x/2)=2^(Lib.bitLenAux f (x/2)-1)*2:=by rw [<-Nat.pow_succ];congr 1;omega
     omega
theorem Zlr (x:Nat) (hx:x<2^64) (h0:x≠0):0<Lib.bitLen x/\x.testBit (Lib.bitLen x-1)=true:=by
 obtain ⟨h1,h2⟩:=Zdp 64 x hx
 obtain ⟨h3,h4⟩:=h2 h0
 refine ⟨h3,?_⟩
 show x.testBit (Lib.bitLenAux 64 x-1)=true
 rw [Nat.testBit_eq_decide_div_mod_eq]
 have e:2^Lib.bitLenAux 64 x=2*2^(Lib.bitLenAux 64 x-1):=by rw [Nat.mul_comm,<-Nat.pow_succ];congr 1;omega
 have h5:x/2^(Lib.bitLenAux 64 x-1)=1:=by
  refine Nat.div_eq_of_lt_le (by omega) (by omega)
 simp [h5]
theorem Ziv (x j:Nat) (hx:x<2^64) (h:Lib.bitLen x<=j):x.testBit j=false:=
 Nat.testBit_lt_two_pow (Nat.lt_of_lt_of_le (Zdp 64 x hx).1 (Nat.pow_le_pow_right (by omega) h))
def Zbr (h1 l1 h2 l2:Nat):Nat:=if h1≠h2 then 64-Lib.bitLen (h1 ^^^ h2) else 128-Lib.bitLen (l1 ^^^ l2)
theorem Zii (a b:Nat) (h:a≠b):a ^^^ b≠0:=fun e=>h (Nat.eq_of_testBit_eq fun i=>by
 have:=congrArg (fun x=>x.testBit i) e
 simp only [Nat.testBit_xor,Nat.zero_testBit] at this
 cases h1:a.testBit i<;>cases h2:b.testBit i<;>simp_all)
theorem Zl0 (a b i:Nat):(a ^^^ b).testBit i=false↔a.testBit i=b.testBit i:=by
 rw [Nat.testBit_xor]
 cases a.testBit i<;>cases b.testBit i<;>simp
theorem Zpp (h1 l1 h2 l2:Nat) (a:h1<2^64) (b:l1<2^64) (c:h2<2^64) (d:l2<2^64) (i:Nat) (hi:i<Zbr h1 l1 h2 l2):bitN h1 l1 i=bitN h2 l2 i:=by
 unfold Zbr at hi
 unfold bitN
 by_cases e:h1=h2
 ·subst e
  simp only [ne_eq,not_true_eq_false,if_false] at hi
  by_cases h:i<64
  ·simp [h]
  ·have h3:i<128:=by omega
   simp only [h,h3,if_false,if_true]
   exact (Zl0 _ _ _).1 (Ziv _ _ (Nat.xor_lt_two_pow b d) (by omega))
 ·simp only [ne_eq,e,not_false_eq_true,if_true] at hi
  have h:i<64:=by omega
  simp only [h,if_true]
  exact (Zl0 _ _ _).1 (Ziv _ _ (Nat.xor_lt_two_pow a c) (by omega))
theorem Zpq (h1 l1 h2 l2:Nat) (a:h1<2^64) (b:l1<2^64) (c:h2<2^64) (d:l2<2^64) (hi:Zbr h1 l1 h2 l2<128):bitN h1 l1 (Zbr h1 l1 h2 l2)≠bitN h2 l2 (Zbr h1 l1 h2 l2):=by
 unfold Zbr at *
 unfold bitN
 by_cases e:h1=h2
 ·subst e
  simp only [ne_eq,not_true_eq_false,if_false] at hi ⊢
  have hl:l1≠l2:=fun e=>by subst e;simp [Lib.bitLen,Lib.bitLenAux] at hi
  obtain ⟨t0,t1⟩:=Zlr _ (Nat.xor_lt_two_pow b d) (Zii _ _ hl)
  have t2:=bitLen_le (l1 ^^^ l2)
  have q1:¬128-Lib.bitLen (l1 ^^^ l2)<64:=by omega
  have q2:127-(128-Lib.bitLen (l1 ^^^ l2))=Lib.bitLen (l1 ^^^ l2)-1:=by omega
  simp only [q1,hi,q2,if_false,if_true]
  intro hh
  rw [(Zl0 _ _ _).2 hh] at t1
  cases t1
 ·simp only [ne_eq,e,not_false_eq_true,if_true] at hi ⊢
  obtain ⟨t0,t1⟩:=Zlr _ (Nat.xor_lt_two_pow a c) (Zii _ _ e)
  have t2:=bitLen_le (h1 ^^^ h2)
  have q1:64-Lib.bitLen (h1 ^^^ h2)<64:=by omega
  have q2:63-(64-Lib.bitLen (h1 ^^^ h2))=Lib.bitLen (h1 ^^^ h2)-1:=by omega
  simp only [q1,q2,if_true]
  intro hh
  rw [(Zl0 _ _ _).2 hh] at t1
  cases t1
theorem Zdf (w n m:Nat):cutW (cutW w n) m=cutW w (min n m):=by
 apply Nat.eq_of_testBit_eq
 intro j
 simp only [Zcn]
 by_cases h:64-min n m<=j
 ·have h1:64-n<=j:=by omega
  have h2:64-m<=j:=by omega
  simp only [h,h1,h2,decide_true,Bool.true_and]
 ·by_cases h1:64-n<=j
  ·have h2:¬64-m<=j:=by omega
   simp only [h,h2,decide_false,Bool.false_and]
  ·simp only [h,h1,decide_false,Bool.false_and,Bool.and_false]
theorem Zpm (w n:Nat):cutW (cutW w n) n=cutW w n:=by rw [Zdf,Nat.min_self]
theorem Zds (hi lo:Nat) (n:Int):Zan hi lo n=true↔0<=n/\n<=128/\cutW hi n.toNat=hi/\cutW lo (n.toNat-64)=lo:=by unfold Zan;rw [decide_eq_true_eq]
theorem Zth (hi lo:Nat) (n:Int) (ahi alo:Nat):hasB hi lo n ahi alo=true↔Zan hi lo n=true/\cutW ahi n.toNat=hi/\cutW alo (n.toNat-64)=lo:=by unfold hasB;simp
theorem Zn3 (hi lo:Nat) (n:Int) (h0:0<=n) (h1:n<=128):Zan (cutW hi n.toNat) (cutW lo (n.toNat-64)) n=true:=by
 rw [Zds]
 exact ⟨h0,h1,Zpm _ _,Zpm _ _⟩
theorem W64.cut {x:Nat} (n:Nat) (h:W64 x):W64 (cutW x n):=Nat.lt_of_le_of_lt (Zz9 x n) h
theorem Zvq (h l:Nat) (n:Int):lessB h l n h l n=false:=by simp [lessB]
theorem Zdv (h1 l1:Nat) (n1:Int) (h2 l2:Nat) (n2:Int):lessB h1 l1 n1 h2 l2 n2=true↔h1<h2\/h1=h2/\(l1<l2\/l1=l2/\n1<n2):=by
 unfold lessB
 by_cases h:h1=h2<;>by_cases h':l1=l2<;>simp [h,h']<;>omega
theorem Zq8 (h1 l1:Nat) (n1:Int) (h2 l2:Nat) (n2:Int) (h:¬(h1=h2/\l1=l2/\n1=n2)):lessB h2 l2 n2 h1 l1 n1 = !lessB h1 l1 n1 h2 l2 n2:=by
 cases e:lessB h1 l1 n1 h2 l2 n2
 ·have:¬lessB h1 l1 n1 h2 l2 n2=true:=by simp [e]
  rw [Zdv] at this
  rw [Bool.not_false,Zdv]
  omega
 ·rw [Zdv] at e
  rw [Bool.not_true,<-Bool.not_eq_true,Zdv]
  omega
theorem Zq7 (h1 l1:Nat) (n1:Int) (h2 l2:Nat) (n2:Int) (h3 l3:Nat) (n3:Int) (a:lessB h1 l1 n1 h2 l2 n2=true) (b:lessB h2 l2 n2 h3 l3 n3=true):lessB h1 l1 n1 h3 l3 n3=true:=by
 rw [Zdv] at *
 omega
end Go.Proofs.YtgfjmgebecmbiaaGreat.M
namespace Go.Proofs.YtgfjmgebecmbiaaGreat
section
open Go.ChangeShapes Go.WideShapes Go.ChangeAt Go.RowKit Go.Joins M
section
variable {H:Type} {enc:TypeId×Value->H} {P:Program}
theorem Zpz (hl:laidOutB P=true) {W W':World} {sp:Nat->Bool}:∀(ts:List TypeId) (vs:List Value) (ds:List (DataW H)) (p:List MemPlace),ts.all (fun t=>P.readableRec t&&decide (t<P.types.size))=true ->
 DataW.TrodAll enc P W 0 (fun _=>true) true ts vs ds p->(∀x∈p,W.sameAt W' x)->(∀x∈p,sp x.block=true)->DataW.TrodAll enc P W' 0 sp true ts vs ds p
 | [],[],[],_,_,h,_,_=>h
 | t::ts,v::vs,d::ds,p,ht,h,hsame,hs=>by
  obtain ⟨p1,p2,h1,h2,rfl⟩:=h
  simp only [List.all_cons,Bool.and_eq_true,decide_eq_true_eq] at ht
  exact ⟨p1,p2,WideElems.Trod_stays hl ht.1.1 ht.1.2 h1 (fun x hx=>hsame x (List.mem_append_left _ hx)) (fun x hx=>hs x (List.mem_append_left _ hx)),
   Zpz hl ts vs ds p2 ht.2 h2 (fun x hx=>hsame x (List.mem_append_right _ hx)) (fun x hx=>hs x (List.mem_append_right _ hx)),rfl⟩
 | [],_::_,_,_,_,h,_,_=>h.elim
 | [],[],_::_,_,_,h,_,_=>h.elim
 | _::_,[],_,_,_,h,_,_=>h.elim
 | _::_,_::_,[],_,_,h,_,_=>h.elim
theorem law_post {f:Func} {s:ChangeSpec} {apart:Bool} {W W':World} {args:Array Value} {ds gs:List (DataW H)} {before:List MemPlace} {tb:TypeId}
 (hl:laidOutB P=true) (hts:f.params.toList.all (fun t=>P.readableRec t&&decide (t<P.types.size))=true) (hr:f.resultTypes = #[tb]) (htb:P.underlying tb=some .bool) (hv:s.vars=[])
 (hW:DataW.Whole enc P f.params.toList s.vars apart W args.toList ds gs before) (hfn:s.fn H (ds++gs)={ results:=[.lit (.bool true)],args:=ds }) (hb:Below W.heap.size W W') :
 s.post enc P f apart true false false W args (.bool true) W':=by
 have hlt:∀p∈before,p.block<W.heap.size:=fun p hp=>hW.lt p hp
 have hold:∀p∈before,(fun b=>decide (b<W.heap.size)) p.block=true:=fun p hp=>by simpa using hlt p hp
 have hW2:=hW
 obtain ⟨p,q,hA,hV,hpq,hz,hn⟩:=hW2
 rw [hv] at hV
 have hV2:=hV
 obtain ⟨hg,hq⟩:=trodVars_none hV
 subst hg hq
 rw [List.append_nil] at hpq
 subst hpq
 have hres:∀(b:Nat) (sp:Nat->Bool) (hd:Bool),DataW.TrodAll enc P W' b sp hd f.resultTypes.toList ((Value.bool true).resultList f.resultTypes.size) (s.fn H (ds++[])).results []:=fun b sp hd=>by
  rw [hfn,hr]
  exact trodAll_cons_mk (shut_bool htb _) trodAll_mk0
 have hargs:∀sp:Nat->Bool,(∀x∈before,sp x.block=true)->DataW.TrodAll enc P W' 0 sp true f.params.toList args.toList (s.fn H (ds++[])).args before:=fun sp hsp=>by
  rw [hfn]
  exact Zpz hl _ _ _ _ hts hA (fun x hx=>hb.same (hlt x hx)) hsp
 have hvars:∀sp:Nat->Bool,DataW.TrodVars enc P W' sp s.vars (s.fn H (ds++[])).vars []:=fun sp=>by
  rw [hfn,hv]
  rfl
 have hok:∀(j:Nat) (t:TypeId) (r:Value),f.resultTypes[j]? = some t->((Value.bool true).resultList f.resultTypes.size)[j]? = some r->Value.okWide P W' .any 0 t r:=
  ok_one hr rfl (okWide_bool_mk htb _)
 refine ⟨ds,[],before,[],before,[],hW,hres _ _ _,hargs _ hold,hvars _,World.keptBut_mono (fun p hp=>⟨hp,Or.inr (by simpa using hp)⟩) (hb.frame (· ∈ before)),fun _ => ?_⟩
 refine ⟨hok,_,_,([]++before)++[],⟨[]++before,[],trodAll_append (hargs _ (fun _ _=>rfl)) (hres _ _ _),hvars _,rfl,?_,?_⟩,?_⟩
 ·intro b off hp
  have hin:MemPlace.cell b off∈before:=by simpa using hp
  rw [hb.frozen (hlt _ hin)]
  exact hz b off hin
 ·intro ha
  simpa using hn ha
 ·intro p hp _
  simpa using hp
end
section
variable {H:Type} {enc:TypeId×Value->H} {w:World} {base:Nat} {spare:Nat->Bool} {held:Bool} {r:Reach} {b0:Nat}
theorem wf_u64 {n:Int} (h:(Lit.int .u64 n).wf=true):∃k:Nat,n=k/\W64 k:=by
 obtain ⟨h0,h1⟩:=bounds_u64 h
 obtain ⟨k,rfl⟩:=Int.eq_ofNat_of_zero_le h0
 exact ⟨k,rfl,W64.mk (by omega)⟩
theorem Z40:Tryz.prog.cellsOf 37=2:=by kernel_rfl
theorem Z3w:Tryz.prog.cellsOf 24=1:=by kernel_rfl
theorem Z4z:Tryz.prog.cellsOf 39=3:=by kernel_rfl
theorem Z8q:Tryz.prog.cellsOf 3=1:=by kernel_rfl
theorem Zkp {n:Nat} {cs:List Value} {x:DataW H×List MemPlace} (h:DataW.trod enc Tryz.prog w base spare held n 39 cs=some x) :
 ∃(hi lo:Nat) (k:Int),cs=[.int .u64 hi,.int .u64 lo,.int .i64 k]/\W64 hi/\W64 lo/\(Lit.int .i64 k).wf=true:=by
 obtain ⟨xs,m,-,-,hl,hxl,hf⟩:=DataW.trod_struct Tryz.underlying39 h
 rw [Z4z] at hl
 have h0:DataW.trod enc Tryz.prog w base spare held m 37 ((cs.drop 0).take (Tryz.prog.cellsOf 37))=xs[0]? := hf 0 _ rfl
 have h1:DataW.trod enc Tryz.prog w base spare held m 3 ((cs.drop 2).take (Tryz.prog.cellsOf 3))=xs[1]? := hf 1 _ rfl
 rw [Z40] at h0
 rw [Z8q] at h1
 obtain ⟨c0,c1,c2,rfl⟩:∃c0 c1 c2,cs=[c0,c1,c2]:=by
  rcases cs with _ | ⟨c0,_ | ⟨c1,_ | ⟨c2,_ | ⟨c3,cs⟩⟩⟩⟩<;>simp at hl
  exact ⟨c0,c1,c2,rfl⟩
 simp only [List.drop_zero,List.take_succ_cons,List.take_zero,List.drop_succ_cons] at h0 h1
 rw [List.getElem?_eq_getElem (by rw [hxl];decide)] at h0 h1
 obtain ⟨ys,m',-,-,hl',hyl,hg⟩:=DataW.trod_struct Tryz.underlying37 h0
 have g0:DataW.trod enc Tryz.prog w base spare held m' 24 (([c0,c1].drop 0).take (Tryz.prog.cellsOf 24))=ys[0]? := hg 0 _ rfl
 have g1:DataW.trod enc Tryz.prog w base spare held m' 24 (([c0,c1].drop 1).take (Tryz.prog.cellsOf 24))=ys[1]? := hg 1 _ rfl
 rw [Z3w] at g0 g1
 simp only [List.drop_zero,List.take_succ_cons,List.take_zero,List.drop_succ_cons] at g0 g1
 rw [List.getElem?_eq_getElem (by rw [hyl];decide)] at g0 g1
 obtain ⟨a,e0,-,wa⟩:=DataW.trod_int Tryz.underlying24 g0
 obtain ⟨b,e1,-,wb⟩:=DataW.trod_int Tryz.underlying24 g1
 obtain ⟨c,e2,-,wc⟩:=DataW.trod_int Tryz.underlying3 h1
 simp only [List.cons.injEq,and_true] at e0 e1 e2
 obtain ⟨i,rfl,hi⟩:=wf_u64 wa
 obtain ⟨j,rfl,hj⟩:=wf_u64 wb
 exact ⟨i,j,c,by rw [e0,e1,e2],hi,hj,wc⟩
end
end
section
open Go.ChangeShapes Go.WideShapes Go.ChangeAt Go.RowKit Go.Joins Go.Deep M
def RowA {α:Type} (k:Nat) (cells:α->List Value) (w:World) (p:Option Addr) (L:List α):Prop:=
 L=[]\/∃g o,p=some ⟨g,o,none⟩/\g<w.heap.size/\∀(i:Nat) (hi:i<L.length) (j:Nat) (u:Value),(cells L[i])[j]? = some u->w.cell? ⟨g,o+i*k+j,none⟩=some u
theorem RowA.below {α:Type} {k:Nat} {cells:α->List Value} {w w':World} {p:Option Addr} {L:List α} (h:RowA k cells w p L) (hb:Below w.heap.size w w'):RowA k cells w' p L:=by
 rcases h with h | ⟨g,o,e,hg,hc⟩
 ·exact .inl h
 ·exact .inr ⟨g,o,e,Nat.lt_of_lt_of_le hg hb.size,fun i hi j u hu=>(hb.cell (p:=⟨g,o+i*k+j,none⟩) hg).trans (hc i hi j u hu)⟩
theorem RowA.at {α:Type} {k:Nat} {cells:α->List Value} {w:World} {p:Option Addr} {L:List α} (h:RowA k cells w p L) {i:Nat} (hi:i<L.length) :
 ∃g o,p=some ⟨g,o,none⟩/\g<w.heap.size/\∀(j:Nat) (u:Value),(cells L[i])[j]? = some u->w.cell? ⟨g,o+i*k+j,none⟩=some u:=by
 rcases h with h | ⟨g,o,e,hg,hc⟩
 ·subst h
  simp at hi
 ·exact ⟨g,o,e,hg,fun j u hu=>hc i hi j u hu⟩
section
variable {H:Type} {enc:TypeId×Value->H} {P:Program} {w:World} {base:Nat} {spare:Nat->Bool} {held:Bool} {r:Reach} {b0:Nat}
theorem Zjg {α:Type} [Inhabited α] {t e:TypeId} {k:Nat} {cells:α->List Value} {good:α->Prop} (ht:P.underlying t=some (.slice e)) (hC:P.cellsOf e=k) (hk:0<k) (hcell:∀a,good a->0<(cells a).length)
 (elem:∀n cs x,DataW.trod enc P w base spare held n e cs=some x->∃a,cs=cells a/\good a)
 {v:Value} {d:DataW H} {p:List MemPlace} (hv:Value.okWide P w r b0 t v) (h:DataW.Trod enc P w base spare held t v d p) :
 ∃(q:Option Addr) (c:Nat) (L:List α),v = .slice q L.length c/\RowA k cells w q L/\(∀a∈L,good a)/\L.length<=maxLen:=by
 obtain ⟨q,len,c,rfl⟩:=okWide_slice ht hv
 obtain ⟨fuel,hf⟩:=h
 rcases open_slice ht hf with ⟨h0,-⟩ | ⟨a,len',cap,m,n,D,Pl,hcs,-,hl,hm,hmm,-,hx⟩
 ·simp only [Value.cells,List.cons.injEq,Value.slice.injEq,and_true] at h0
  obtain ⟨rfl,rfl,rfl⟩:=h0
  exact ⟨none,0,[],rfl,.inl rfl,by simp,by simp⟩
 ·simp only [Value.cells,List.cons.injEq,Value.slice.injEq,and_true] at hcs
  obtain ⟨rfl,rfl,rfl⟩:=hcs
  have hlm:len<=m:=by
   rw [hmm]
   split<;>omega
  obtain ⟨V,hV⟩:=choose_lt (α:=α) (n:=len) (p:=fun i x=>good x/\∀(j:Nat) (u:Value),(cells x)[j]? = some u->w.cell? (a.add (i*k+j))=some u) (fun i hi=>by
   obtain ⟨cs',h1,h2⟩:=hx i (by omega)
   obtain ⟨x,rfl,hg⟩:=elem _ _ _ h2
   refine ⟨x,hg,fun j u hu => ?_⟩
   obtain ⟨_,hlen,hat⟩:=World.cells?_some h1
   rw [hC] at hat hlen
   have hj:j<k:=by
    have:=(List.getElem?_eq_some_iff.1 hu).1
    omega
   have:=hat j hj
   rw [<-hu,<-this,Go.Deep.add_add])
  have hL:((List.range len).map V).length=len:=by simp
  refine ⟨some a,c,(List.range len).map V,by rw [hL],?_,?_,by rw [hL];omega⟩
  ·by_cases h0:len=0
   ·subst h0
    exact .inl rfl
   ·right
    obtain ⟨g,o,spot⟩:=a
    have hw0:=hcell _ (hV 0 (by omega)).1
    have h00:=(hV 0 (by omega)).2 0 _ (List.getElem?_eq_getElem hw0)
    rw [Nat.zero_mul,Nat.zero_add] at h00
    have hspot:spot=none:=by simpa [Addr.add] using World.cell?_spot h00
    subst hspot
    refine ⟨g,o,rfl,?_,fun i hi j u hu => ?_⟩
    ·have:=World.block_lt_of_cell? w _ h00
     simpa [Addr.add] using this
    ·rw [hL] at hi
     have:=(hV i hi).2 j u (by simpa using hu)
     rw [show (⟨g,o,none⟩:Addr).add (i*k+j)=⟨g,o+i*k+j,none⟩ by unfold Addr.add;split<;>simp_all<;>omega] at this
     exact this
  ·intro x hx
   rw [List.mem_map] at hx
   obtain ⟨i,hi,rfl⟩:=hx
   exact (hV i (List.mem_range.1 hi)).1
end
end
section
open Go Go.RowKit Go.Sort
section
variable {P:Program} {ops:Array Oper} {md:Region.Mode} {C:World->Prop}
def Zey (P:Program) (md:Region.Mode) (ops:Array Oper) (C:World->Prop) (n:Nat) (L:Array Bool->Act->Prop):Nat->Array Bool->Act->Prop
 | 0,listed,a=>L listed a
 | f+1,listed,a=>Region.ready md ops listed≠[]/\∀i∈Region.ready md ops listed,i<n/\qOp P ops C i (Zey P md ops C n L f (listed.setIfInBounds i true)) a
theorem Zfi {n g:Nat} {L:Array Bool->Act->Prop} {Q':Exit->Act->World->Prop} (hL:∀listed a w,C w->L listed a->wpAny P md ops Q' g listed a w) :
 ∀(f:Nat) (listed:Array Bool) (a:Act) (w:World),C w->Zey P md ops C n L f listed a->wpAny P md ops Q' (f+g) listed a w
 | 0,listed,a,w,hw,h=>by rw [Nat.zero_add];exact hL _ _ _ hw h
 | f+1,listed,a,w,hw,h=>by
  rw [show f+1+g=(f+g)+1 by omega]
  exact ⟨fun h0=>absurd h0 h.1,fun i hi=>wpOp_of_qOp hw (fun a' w' hw' h'=>Zfi hL f _ a' w' hw' h') (h.2 i hi).2⟩
theorem Zmv {n i:Nat} {oi:Oper} {v:Value} {L:Array Bool->Act->Prop} (hi:ops[i]? = some oi) (hsel:∀(j:Nat) (o:Oper) cs b,ops[j]? = some o->o.op ≠ .select cs b)
 (hs:Region.sinkB md ops n=true) (hc:Region.chainB md ops n=true) (hn:n<ops.size) (hin:i<n)
 (hdone:∀listed a,L listed a->∀j∈Region.ready md ops listed,n<=j) :
 ∀(f:Nat) (listed:Array Bool) (a:Act),HeadInv md ops n listed ->
  (∀j oj,ops[j]? = some oj->j≠i->listed.getD j true=false->(∀e∈oj.after,Region.binds md e=true->e.on≠i)->oi.apart ops oj=true) ->
  i∈Region.ready md ops listed->YieldsIn P ops C oi v a ->
  Zey P md ops C n L f (listed.setIfInBounds i true) (a.put oi.dst v)->Zey P md ops C n L (f+1) listed a:=by
 intro f
 induction f with
 | zero=>
  intro listed a inv _ hr hy H
  refine ⟨fun h=>(by rw [h] at hr;cases hr),fun j hj => ?_⟩
  have hjn:j<n:=Nat.lt_of_not_le fun h=>tail_waits hs hc hn inv _ i rfl hin (mem_ready.1 hr).1 j h hj
  refine ⟨hjn,?_⟩
  by_cases hji:j=i
  ·subst hji;exact hy.qOp hi H
  ·have:=hdone _ _ H j (ready_mono hj hji)
   omega
 | succ f ih=>
  intro listed a inv hfree hr hy H
  have hun:=(mem_ready.1 hr).1
  refine ⟨fun h=>(by rw [h] at hr;cases hr),fun j hj => ?_⟩
  have hjn:j<n:=Nat.lt_of_not_le fun h=>tail_waits hs hc hn inv _ i rfl hin hun j h hj
  refine ⟨hjn,?_⟩
  by_cases hji:j=i
  ·subst hji;exact hy.qOp hi H
  ·have h1:=(H.2 j (ready_mono hj hji)).2
   obtain ⟨hjun,oj,hoj,hall⟩:=mem_ready.1 hj
   have hnot:∀e∈oj.after,Region.binds md e=true->e.on≠i:=fun e he hb heq=>by
    have h3:=hall e he hb
    rw [heq,getD_both hun] at h3
    cases h3
   have h2:=qOp_put hoj (hfree j oj hoj hji hjun hnot) (fun cs b=>hsel i oi cs b hi) (fun cs b=>hsel j oj cs b hoj) hy h1
   have hfree':∀k ok,ops[k]? = some ok->k≠i->(listed.setIfInBounds j true).getD k true=false ->
    (∀e∈ok.after,Region.binds md e=true->e.on≠i)->oi.apart ops ok=true:=fun k ok hk hki hun2 hno=>by
    refine hfree k ok hk hki ?_ hno
    by_cases hjk:j=k
    ·subst hjk;exact hjun
    ·rw [getD_set_ne true hjk] at hun2;exact hun2
   refine qOp_mono (fun a' h3=>ih (listed.setIfInBounds j true) a' (inv.set hj hjn) hfree' (ready_mono hr (Ne.symm hji)) h3.1 ?_) h2
   rw [Array.setIfInBounds_comm _ _ hji]
   exact h3.2
theorem Zj8 {n g:Nat} {Lq:Act->Prop} (hsel:Region.noSelect ops=true) (hs:Region.sinkB md ops n=true) (hc:Region.chainB md ops n=true) (hn:n<ops.size) :
 ∀(l:List Oper) (k:Nat) (listed:Array Bool) (a:Act),(∀j,j<l.length->l[j]? = ops[k+j]?)->k+l.length=n->HeadInv md ops n listed ->
 Region.lexHead md ops g l.length k listed=true->wpQuiet P ops C Lq l a ->
 Zey P md ops C n (fun listed' a'=>Region.seqB md ops g n listed'=true/\Lq a') l.length listed a
 | [],k,listed,a,_,hk,_,hB,h=>by
  obtain rfl:k=n:=by simpa using hk
  exact ⟨by simpa [Region.lexHead] using hB,h⟩
 | o::l,k,listed,a,hl,hk,inv,hB,h=>by
  have h0:ops[k]? = some o:=by simpa using (hl 0 (by simp)).symm
  simp only [List.length_cons,Region.lexHead,Bool.and_eq_true] at hB
  obtain ⟨⟨hr,hf⟩,hB'⟩:=hB
  have hkn:k<n:=by simp only [List.length_cons] at hk;omega
  have hr':k∈Region.ready md ops listed:=by simpa using hr
  have hst:qOp P ops C k (wpQuiet P ops C Lq l) a:=by unfold qOp;simp only [h0];exact h
  obtain ⟨v,hy,hK⟩:=yieldsIn_of_qOp h0 hst
  exact Zmv h0 (Region.noSelect_spec hsel) hs hc hn hkn (fun listed' a' hL=>seqB_ready hL.1) l.length listed a inv (Region.free_spec h0 hf) hr' hy
   (Zj8 hsel hs hc hn l (k+1) _ _ (fun j hj=>by have:=hl (j+1) (by simp;omega);simpa [Nat.add_assoc,Nat.add_comm 1 j] using this) (by simp only [List.length_cons] at hk;omega) (inv.set hr' hkn) hB' hK)
theorem Zb6 {Q Q':Act->Prop} (h:∀a,Q a->Q' a):∀(l:List Oper) (a:Act),wpQuiet P ops C Q l a->wpQuiet P ops C Q' l a
 | [],_,H=>h _ H
 | o::l,a,H=>by
  unfold wpQuiet at *
  split
  ·rename_i hw
   rw [if_pos hw] at H
   exact Oper.quiet_mono (fun a'=>Zb6 h l a') H
  ·rename_i hw
   rw [if_neg hw] at H
   exact Zb6 h l _ H
theorem Zqp {id:Nat} {Q:Exit->Act->World->Prop} {a:Act} {w:World} {l:List Oper} (n:Nat) (hm:P.follows .mixedOrders=true) (hB:Region.lexTailB .any l.toArray n=true) (hC:C { w with drawn:=w.drawn+1 })
 (h:wpQuiet P l.toArray C (fun a'=>∀w',C w'->wpList P l.toArray Q (l.drop n) a' w') (l.take n) a):(Code.region id l.toArray true).wp P Q a w:=by
 simp only [Region.lexTailB,Bool.and_eq_true,decide_eq_true_eq] at hB
 obtain ⟨⟨⟨⟨hsel,hn⟩,hs⟩,hc⟩,hlex⟩:=hB
 have hn':n<l.length:=by simpa using hn
 have htl:(l.take n).length=n:=by simp;omega
 have hdl:(l.drop n).length=l.toArray.size-n:=by simp
 have inv0:HeadInv .any l.toArray n (Array.replicate l.toArray.size false):=
  ⟨by simp,fun j oj _ hl=>(by rw [getD_replicate_false] at hl;cases hl),fun t _ ht=>getD_in (by simpa using ht) (getD_replicate_false _ _)⟩
 have H:=Zj8 (md := .any) (g:=l.toArray.size-n) hsel hs hc hn (l.take n) 0 _ a (fun j hj=>by
  have hj':j<n:=by rw [htl] at hj;exact hj
  simp [hj']) (by simpa using htl) inv0 (by rw [htl];exact hlex) h
 refine wp_region_any hm ?_
 have:=Zfi (Q':=Q) (g:=l.toArray.size-n) (fun listed a' w' hw' hL=>by
  have:=wpAny_of_seq (md := .any) (Q':=Q) (l.drop n) n listed a' w' (fun j=>by simp [List.getElem?_drop]) (by rw [hdl];exact hL.1) (hL.2 w' hw')
  rwa [hdl] at this) _ _ _ _ hC H
 rw [htl,show n+(l.toArray.size-n)=l.toArray.size by omega] at this
 exact this
theorem Zaj {id:Nat} {Q:Exit->Act->World->Prop} {a:Act} {w:World} {l:List Oper} (n:Nat) (hm:P.follows .mixedOrders=true) (hB:Region.lexTailB .any l.toArray n=true)
 (h:wpQuiet P l.toArray (fun w'=>∃p:Regrown,w'=grow (redrawn w p.d) p.os) (fun a'=>∀w',Below w.heap.size w w'->wpList P l.toArray Q (l.drop n) a' w') (l.take n) a) :
 (Code.region id l.toArray true).wp P Q a w:=
 Zqp (C:=fun w'=>∃p:Regrown,w'=grow (redrawn w p.d) p.os) n hm hB ⟨⟨w.drawn+1,#[]⟩,by rw [grow_empty];rfl⟩ (Zb6 (fun _ H w' ⟨p,hp⟩=>H w' (hp▸below_regrown _ _ _)) _ _ h)
theorem Zab {id:Nat} {Q:Exit->Act->World->Prop} {a:Act} {w:World} {l:List Oper} (hm:P.follows .mixedOrders=true) (hB:Region.lexB .any l.toArray=true)
 (h:wpQuiet P l.toArray (fun w'=>∃p:Regrown,w'=grow (redrawn w p.d) p.os) (fun a'=>∀w',Below w.heap.size w w'->Q .normal a' w') l a):(Code.region id l.toArray true).wp P Q a w:=
 wp_region_quiet_below hm hB (Zb6 (fun _ H w' ⟨p,hp⟩=>H w' (hp▸below_regrown _ _ _)) _ _ h)
end
theorem Zaa (W:World) (d:Nat) (os:Array Obj) (b o:Nat) (h:b<W.heap.size):(grow (redrawn W d) os).cell? ⟨b,o,none⟩=W.cell? ⟨b,o,none⟩:=
 (below_regrown W d os).cell (p:=⟨b,o,none⟩) h
theorem Zai {a b:Bool} (h:a=b):Ending.returned (.bool a) = .returned (.bool b):=by rw [h]
theorem Zbb {k:IntKind} {a b:Int} (h:a=b):Ending.returned (.int k a) = .returned (.int k b):=by rw [h]
def Zak (P:Program) (f:FuncId) (args:Array Value) (v:Value):Prop:=∀w,Calls P f args w fun e w'=>e = .returned v/\Below w.heap.size w w'
theorem Zak.at {P:Program} {f:FuncId} {args:Array Value} {v:Value} (h:Zak P f args v) (w:World) (d:Nat) (os:Array Obj) :
 Calls P f args (grow (redrawn w d) os) fun e w''=>e = .returned v/\∃p:Regrown,w''=grow (redrawn w p.d) p.os:=Calls.regrown_of (h _)
theorem Zak.still {P:Program} {f:FuncId} {args:Array Value} {v:Value} (h:∀w,Calls P f args w fun e w'=>e = .returned v/\w=w'):Zak P f args v:=
 fun w=>(h w).mono fun _ _ ⟨he,hw⟩=>⟨he,hw▸Below.refl _ _⟩
theorem Zaf {W w1:World} (hb:Below W.heap.size W w1):(∀b o,b<W.heap.size->w1.cell? ⟨b,o,none⟩=W.cell? ⟨b,o,none⟩)/\(∀b o,b<W.heap.size->w1.frozen? ⟨b,o,none⟩=W.frozen? ⟨b,o,none⟩):=
 ⟨fun b o h=>hb.cell (p:=⟨b,o,none⟩) h,fun b o h=>hb.frozen (p:=⟨b,o,none⟩) h⟩
end
section
open Go.RowKit Go.Sort
theorem own_below {B n k:Nat} {e:TypeId} {v:Value} {xs:List Value} {w w':World} (h:w.ownsRow B e k v n xs) (hb:Below w.heap.size w w'):w'.ownsRow B e k v n xs:=
 h.kept (row:=none) ⟨hb.os,hb.tape,hb.output,hb.size,fun j hj _=>hb.block j hj⟩ (by cases hv:v.ownBlock<;>simp)
theorem Zag {B n k:Nat} {e:TypeId} {v:Value} {xs:List Value} {w:World} (h:w.ownsRow B e k v n xs):∃p cap,v = .slice p n cap:=by
 rcases h.2 with ⟨rfl,h0⟩ | ⟨g,cap,_,rfl,_⟩
 ·exact ⟨none,0,by rw [h0]⟩
 ·exact ⟨some ⟨g,0,none⟩,cap,rfl⟩
theorem Za4 {B B' n k:Nat} {e:TypeId} {v:Value} {xs:List Value} {w:World} (h:w.ownsRow B e k v n xs) (hb:B'<=B):w.ownsRow B' e k v n xs:=
 ⟨h.1,h.2.elim Or.inl (fun ⟨g,cap,cur,hv,hg,r⟩=>Or.inr ⟨g,cap,cur,hv,Nat.le_trans hb hg,r⟩)⟩
end
end Go.Proofs.YtgfjmgebecmbiaaGreat

import Derived.Shelf.GgSortMore.Stable
import Derived.Test.YtgfjmgebecmbiaaGreatProg
import Derived.RangeFuncNested
import Derived.RangeFuncBound
import Derived.OwnWalkIn
import Derived.TacticsInMore
import Derived.LoopNIn
import Derived.LoopIn
import Derived.Test.YtgfjmgebecmbiaaGreatW1b
set_option linter.unusedSimpArgs false
set_option linter.unusedVariables false
namespace Go.Proofs
open Go.Shelf
def Tryz.laysStb_ren:Go.Shelf.Ren:=⟨fun | 8=>140 | 13=>121 | 14=>122 | 16=>123 | 15=>174 | 29=>158 | 30=>187 | 42=>192 | 49=>197 | n=>n,fun | 20=>20 | 26=>157 | 36=>176 | 0=>0 | 38=>178 | 42=>183 | 3=>3 | 4=>4 | 47=>109 | 17=>17 | 33=>173 | 34=>174 | 89=>242 | 12=>12 | 56=>198 | 82=>235 | 5=>5 | 83=>236 | 84=>237 | 85=>238 | 86=>239 | 87=>240 | n=>n,fun | n=>n⟩
theorem Tryz.laysStb:Go.Proofs.LaysGt.n8 Tryz.prog Tryz.laysStb_ren:={
 mixed:=by kernel_rfl
 f8:=Tryz.func140.trans (congrArg some (by kernel_rfl))
 f13:=Tryz.func121.trans (congrArg some (by kernel_rfl))
 f14:=Tryz.func122.trans (congrArg some (by kernel_rfl))
 f15:=Tryz.func174.trans (congrArg some (by kernel_rfl))
 f16:=Tryz.func123.trans (congrArg some (by kernel_rfl))
 f29:=Tryz.func158.trans (congrArg some (by kernel_rfl))
 f30:=Tryz.func187.trans (congrArg some (by kernel_rfl))
 f42:=Tryz.func192.trans (congrArg some (by kernel_rfl))
 f49:=Tryz.func197.trans (congrArg some (by kernel_rfl))
 t0:=Tryz.underlying0
 a0:=Tryz.isAgg0
 z0:=Tryz.sizeOf0
 v0:=Tryz.zeroValue0
 i0:=by kernel_rfl
 t3:=Tryz.underlying3
 a3:=Tryz.isAgg3
 z3:=Tryz.sizeOf3
 v3:=Tryz.zeroValue3
 i3:=by kernel_rfl
 t4:=Tryz.underlying4
 a4:=Tryz.isAgg4
 z4:=Tryz.sizeOf4
 v4:=Tryz.zeroValue4
 i4:=by kernel_rfl
 t5:=Tryz.underlying5
 a5:=Tryz.isAgg5
 z5:=Tryz.sizeOf5
 v5:=Tryz.zeroValue5
 i5:=by kernel_rfl
 t12:=Tryz.underlying12
 a12:=Tryz.isAgg12
 z12:=Tryz.sizeOf12
 v12:=Tryz.zeroValue12
 i12:=by kernel_rfl
 t17:=Tryz.underlying17
 a17:=Tryz.isAgg17
 z17:=Tryz.sizeOf17
 v17:=Tryz.zeroValue17
 i17:=by kernel_rfl
 t20:=Tryz.underlying20
 a20:=Tryz.isAgg20
 z20:=Tryz.sizeOf20
 v20:=Tryz.zeroValue20
 i20:=by kernel_rfl
 t26:=Tryz.underlying157
 a26:=Tryz.isAgg157
 z26:=Tryz.sizeOf157
 v26:=Tryz.zeroValue157
 i26:=by kernel_rfl
 t33:=Tryz.underlying173
 a33:=Tryz.isAgg173
 z33:=Tryz.sizeOf173
 v33:=Tryz.zeroValue173
 i33:=by kernel_rfl
 t34:=Tryz.underlying174
 a34:=Tryz.isAgg174
 z34:=Tryz.sizeOf174
 v34:=Tryz.zeroValue174
 i34:=by kernel_rfl
 t36:=Tryz.underlying176
 a36:=Tryz.isAgg176
 z36:=Tryz.sizeOf176
 v36:=Tryz.zeroValue176
 i36:=by kernel_rfl
 t38:=Tryz.underlying178
 a38:=Tryz.isAgg178
 z38:=Tryz.sizeOf178
 v38:=Tryz.zeroValue178
 i38:=by kernel_rfl
 t42:=Tryz.underlying183
 a42:=Tryz.isAgg183
 z42:=Tryz.sizeOf183
 v42:=Tryz.zeroValue183
 i42:=by kernel_rfl
 t47:=Tryz.underlying109
 a47:=Tryz.isAgg109
 z47:=Tryz.sizeOf109
 v47:=Tryz.zeroValue109
 i47:=by kernel_rfl
 t56:=Tryz.underlying198
 a56:=Tryz.isAgg198
 z56:=Tryz.sizeOf198
 v56:=Tryz.zeroValue198
 i56:=by kernel_rfl
 t82:=Tryz.underlying235
 a82:=Tryz.isAgg235
 z82:=Tryz.sizeOf235
 v82:=Tryz.zeroValue235
 i82:=by kernel_rfl
 t83:=Tryz.underlying236
 a83:=Tryz.isAgg236
 z83:=Tryz.sizeOf236
 v83:=Tryz.zeroValue236
 i83:=by kernel_rfl
 t84:=Tryz.underlying237
 a84:=Tryz.isAgg237
 z84:=Tryz.sizeOf237
 v84:=Tryz.zeroValue237
 i84:=by kernel_rfl
 t85:=Tryz.underlying238
 a85:=Tryz.isAgg238
 z85:=Tryz.sizeOf238
 v85:=Tryz.zeroValue238
 i85:=by kernel_rfl
 t86:=Tryz.underlying239
 a86:=Tryz.isAgg239
 z86:=Tryz.sizeOf239
 v86:=Tryz.zeroValue239
 i86:=by kernel_rfl
 t87:=Tryz.underlying240
 a87:=Tryz.isAgg240
 z87:=Tryz.sizeOf240
 v87:=Tryz.zeroValue240
 i87:=by kernel_rfl
 t89:=Tryz.underlying242
 a89:=Tryz.isAgg242
 z89:=Tryz.sizeOf242
 v89:=Tryz.zeroValue242
 i89:=by kernel_rfl }
end Go.Proofs
namespace Go.Proofs.YtgfjmgebecmbiaaGreat
section
open Go Go.RowKit
section
variable {P:Program} {Q:Exit->Act->World->Prop} {a:Act} {w:World} {l n:Nat}
def Zep (o:Oper):Bool:=match o.op with | .defer _=>false | _=>true
theorem Zvh {o:Oper} (h:Zep o=true):∀c,o.op ≠ .defer c:=fun c e=>by
 unfold Zep at h
 rw [e] at h
 cases h
theorem Zuu {row:String} {args:Array Value} {R:Value->World->Prop} (h:Rows P row args w R):RowsIn (Fence.wide.inRound l) n P row args w R:=fun c cs _=>
 let ⟨v,w',r,s⟩:=h c cs
 ⟨v,w',r,stepsIn_wide.2 s⟩
theorem Zvd {o:Oper} {K:Act->World->Prop} (hnd:Zep o=true) (h:o.wp P a w K Q):o.wpIn (Fence.wide.inRound l) n P a w K Q:=by
 unfold Oper.wpIn
 refine ⟨fun _ _=>trivial,?_⟩
 rw [Oper.semAt_eq _ _ _ (Zvh hnd)]
 unfold Oper.wp at h
 generalize (execOp a.eval o).run P w=r at *
 cases r with
 | ok x w'=>
  cases x with
  | value v=>exact h
  | skip=>exact h
  | defer d=>exact h
  | enter f args=>exact ⟨fun h=>(by cases h),CallsIn.inRound l (callsIn_wide.2 h)⟩
  | row row args=>exact ⟨fun h=>(by cases h),Zuu h⟩
  | round=>exact h.elim
  | _=>exact h.elim
 | halt x w'=>cases x<;>exact h
theorem Z13 {ops:Array Oper} {i:Nat} {K K':Act->World->Prop} (hnd:ops.all Zep=true) (hL:¬LetsOut Q) (hK:∀a w,K a w->K' a w) (h:wpOp P ops Q i K a w):wpOpIn (Fence.wide.inRound l) n P ops Q i K' a w:=by
 unfold wpOp at h
 unfold wpOpIn
 cases ho:ops[i]? with
 | none=>
  simp only [ho] at h
  exact hK _ _ h
 | some o=>
  simp only [ho] at h
  have hn:Zep o=true:=Array.all_eq_true_iff_forall_mem.1 hnd o (Array.mem_of_getElem? ho)
  simp only
  by_cases hw:Region.wanted o (yielded ops a.tmps)=true
  ·rw [if_pos hw] at h ⊢
   exact Oper.wpIn_mono hK (Zvd hn (h.resolve_right fun x=>hL x.2))
  ·rw [if_neg hw] at h ⊢
   exact ⟨fun _ _=>trivial,hK _ _ h⟩
theorem Zpx {ops:Array Oper} {md:Region.Mode} (hnd:ops.all Zep=true) (hL:¬LetsOut Q):∀(fuel:Nat) (listed:Array Bool) (a:Act) (w:World),wpAny P md ops Q fuel listed a w->wpAnyIn (Fence.wide.inRound l) n P md ops Q fuel listed a w
 | 0,_,_,_,h=>h
 | fuel+1,_,_,_,h=>⟨h.1,fun i hi=>Z13 hnd hL (fun a w h=>Zpx hnd hL fuel _ a w h) (h.2 i hi)⟩
theorem Zn6 {id:Nat} {ops:Array Oper} (hm:P.follows .mixedOrders=true) (hnd:ops.all Zep=true) (hL:¬LetsOut Q) (h:wpAny P .any ops Q ops.size (Array.replicate ops.size false) a { w with drawn:=w.drawn+1 }) :
 (Code.region id ops true).wpIn (Fence.wide.inRound l) n P Q a w:=wpIn_region_any hm (Zpx hnd hL _ _ _ _ h)
def Zck (Q:Exit->Act->World->Prop):Exit->Act->World->Prop
 | .normal,a,w=>Q .normal a w
 | _,_,_=>False
theorem Zck.normal (h:Q .normal a w):Zck Q .normal a w:=h
theorem Zda {id:Nat} {ops:Array Oper} (hm:P.follows .mixedOrders=true) (hnd:ops.all Zep=true) (h:wpAny P .any ops (Zck Q) ops.size (Array.replicate ops.size false) a { w with drawn:=w.drawn+1 }) :
 (Code.region id ops true).wpIn (Fence.wide.inRound l) n P Q a w:=
 wpIn_mono (Zn6 hm hnd (fun ⟨_,_,h⟩=>h) h) fun e a w h=>by
  cases e with
  | normal=>exact h
  | _=>exact h.elim
theorem Zgq {β:Type} {S:Nat->Prop} (W1:World):OwnFrom W1.heap.size (fun (_:β) W=>Touch S W1 W):=fun _ W W' row hs hg hr=>
 ⟨hg.os.trans hs.os,hg.tape.trans hs.tape,hg.output.trans hs.output,Nat.le_trans hs.size hg.size,fun k hk hn=>(hg.block k (Nat.lt_of_lt_of_le hk hs.size) (fun e=>by have:=(hr k e.symm).1;omega)).trans (hs.block k hk hn)⟩
theorem Zd8 {S:Nat->Prop} {B:Nat} {W W':World} (h:Touch S W W') (hS:∀j,S j->j<B):KeepsFrom B W W':=
 ⟨h.size,fun k o hB hk _=>(h.block k (Array.getElem?_eq_some_iff.1 hk).1 (fun x=>by have:=hS k x;omega)).trans hk⟩
theorem Ziu {S:Nat->Prop} {B:Nat} {W W':World} (h:Touch S W W') (hS:∀j o,S j->W.heap[j]? = some o->o.isCells=false->j<B):KeepsFrom B W W':=
 ⟨h.size,fun k o hB hk hc=>(h.block k (Array.getElem?_eq_some_iff.1 hk).1 (fun x=>by have:=hS k o x hk hc;omega)).trans hk⟩
theorem Zoi {W:World} {B n k j:Nat} {e:TypeId} {v:Value} {xs:List Value} {o:Obj} (h:W.ownsRow B e k v n xs) (hj:v.ownBlock=some j) (ho:W.heap[j]? = some o) (hc:o.isCells=false):False:=by
 rcases h.2 with ⟨rfl,_⟩ | ⟨g,cap,cur,rfl,_,hg,_⟩
 ·simp [Value.ownBlock] at hj
 ·have:g=j:=by simpa [Value.ownBlock] using hj
  subst this
  rw [hg] at ho
  cases ho
  cases hc
end
end
section
open Go.Sort M
def ltR (a b:Rt):Bool:=Zau a.k b.k
theorem Zq4:SWO ltR:=by
 refine ⟨fun x=>Za0 _,fun x y z h g=>Zbh h g,fun x y z h g => ?_⟩
 unfold ltR at *
 cases hc:Zau x.k z.k with
 | false=>rfl
 | true=>
  by_cases e:y.k=z.k
  ·rw [e] at h
   rw [h] at hc
   cases hc
  ·have h2:=Zb3 e
   rw [g] at h2
   have:=Zbh hc h2
   rw [h] at this
   cases this
theorem Zl9 {M:List Rt} (hk:(Zad M).Nodup) (h:M.Pairwise fun a b=>ltR b a=false):Sorted M:=by
 unfold Zad List.Nodup at hk
 rw [List.pairwise_map] at hk
 refine (hk.and h).imp ?_
 rintro a b ⟨hne,hl⟩
 have:=Zb3 (a:=b.k) (b:=a.k) (fun e=>hne e.symm)
 rw [this]
 unfold ltR at hl
 rw [hl]
 rfl
end
section
open Go.Sort
set_option linter.unusedSectionVars false
section
variable {α:Type} [Inhabited α] {lt:α->α->Bool}
def eqv (lt:α->α->Bool) (x y:α):Bool := !lt x y && !lt y x
def Stb (lt:α->α->Bool) (X Y:List α):Prop:=X.Perm Y/\∀x,X.filter (eqv lt x)=Y.filter (eqv lt x)
def Asc (lt:α->α->Bool) (X:List α):Prop:=X.Pairwise fun a b=>lt b a=false
theorem Stb.refl (X:List α):Stb lt X X:=⟨List.Perm.refl _,fun _=>rfl⟩
theorem Stb.trans {X Y Z:List α} (h:Stb lt X Y) (g:Stb lt Y Z):Stb lt X Z:=⟨h.1.trans g.1,fun x=>(h.2 x).trans (g.2 x)⟩
theorem Stb.append {X Y X' Y':List α} (h:Stb lt X X') (g:Stb lt Y Y'):Stb lt (X++Y) (X'++Y'):=⟨h.1.append g.1,fun x=>by rw [List.filter_append,List.filter_append,h.2,g.2]⟩
theorem Stb.len {X Y:List α} (h:Stb lt X Y):X.length=Y.length:=h.1.length_eq
theorem Stb.swap (hO:SWO lt) {U V:List α} (h:∀u∈U,∀v∈V,lt v u=true):Stb lt (U++V) (V++U):=by
 refine ⟨List.perm_append_comm,fun x => ?_⟩
 rw [List.filter_append,List.filter_append]
 by_cases hu:∃u∈U,eqv lt x u=true
 ·obtain ⟨u,hu,hxu⟩:=hu
  have:V.filter (eqv lt x)=[]:=by
   rw [List.filter_eq_nil_iff]
   intro v hv hxv
   simp only [eqv,Bool.and_eq_true,Bool.not_eq_true'] at hxu hxv
   have:=hO.ntrans v x u hxv.2 hxu.1
   rw [h u hu v hv] at this
   cases this
  rw [this]
  simp
 ·have:U.filter (eqv lt x)=[]:=by
   rw [List.filter_eq_nil_iff]
   exact fun u hu2 hxu=>hu ⟨u,hu2,hxu⟩
  rw [this]
  simp
theorem asymm (hO:SWO lt) {x y:α} (h:lt x y=true):lt y x=false:=by
 cases g:lt y x with
 | false=>rfl
 | true=>
  have:=hO.trans x y x h g
  rw [hO.irrefl] at this
  cases this
theorem Z1g (d:Array α) (i j:Nat) (hi:i<d.size) (hj:j<d.size):swp d i j=swp d j i:=by
 apply Array.ext (by simp [swp])
 intro k h1 h2
 have e1:=swp_get d hi hj k
 have e2:=swp_get d hj hi k
 rw [getElem!_pos (swp d i j) k h1] at e1
 rw [getElem!_pos (swp d j i) k h2] at e2
 rw [e1,e2]
 by_cases a:k=i
 ·by_cases b:k=j
  ·subst a;rw [b]
  ·rw [if_neg b,if_pos a,if_pos a]
 ·by_cases b:k=j
  ·rw [if_pos b,if_neg a,if_pos b]
  ·rw [if_neg b,if_neg a,if_neg a,if_neg b]
theorem Zh8 (P Q:List α) (x:α) (p:Nat) (hp:p=P.length):(P++x::Q).toArray[p]! = x:=by
 subst hp
 simp
theorem Zjm (P Q S:List α) (x y:α) (p q:Nat) (hp:p=P.length) (hq:q=P.length+1+Q.length) :
 swp (P++x::(Q++y::S)).toArray p q=(P++y::(Q++x::S)).toArray:=by
 have e1:(P++x::(Q++y::S)).toArray[p]! = x:=Zh8 _ _ _ _ hp
 have e2:(P++x::(Q++y::S)).toArray[q]! = y:=by
  have:=Zh8 (P++x::Q) S y q (by simp;omega)
  simpa using this
 unfold swp
 rw [e1,e2]
 subst hp hq
 rw [List.setIfInBounds_toArray,List.setIfInBounds_toArray]
 congr 1
 rw [List.set_append_right _ _ (Nat.le_refl _),Nat.sub_self,List.set_cons_zero,List.set_append_right _ _ (by omega)]
 rw [show P.length+1+Q.length-P.length=Q.length+1 from by omega,List.set_cons_succ,List.set_append_right _ _ (Nat.le_refl _),Nat.sub_self,List.set_cons_zero]
theorem Zkz (P Q S:List α) (x y:α) (p q:Nat) (hp:p=P.length) (hq:q=P.length+1+Q.length) :
 swp (P++x::(Q++y::S)).toArray q p=(P++y::(Q++x::S)).toArray:=by
 rw [Z1g _ _ _ (by simp;omega) (by simp;omega)]
 exact Zjm P Q S x y p q hp hq
theorem Zha (hO:SWO lt) (P:List α) (x:α):∀(n:Nat) (X Y:List α) (a j:Nat),X.length=n->a=P.length->j=P.length+n ->
 ∃X1 X2,X=X1++X2/\insInner lt a j (P++(X++x::Y)).toArray=(P++(X1++x::(X2++Y))).toArray/\(∀z∈X2,lt x z=true)/\∀z,X1.getLast? = some z->lt x z=false
 | 0,X,Y,a,j,hX,ha,hj=>by
  obtain rfl:=List.eq_nil_of_length_eq_zero hX
  refine ⟨[],[],rfl,?_,by simp,by simp⟩
  rw [insInner_stop lt a j _ (.inl (by omega))]
  simp
 | n+1,X,Y,a,j,hX,ha,hj=>by
  obtain ⟨X',z,rfl⟩:∃X' z,X=X'++[z]:=⟨X.dropLast,X.getLast (by intro e;simp [e] at hX),(List.dropLast_concat_getLast _).symm⟩
  have hX':X'.length=n:=by simpa using hX
  have e0:P++((X'++[z])++x::Y)=(P++X')++z::([]++x::Y):=by simp
  have g1:(P++((X'++[z])++x::Y)).toArray[j]! = x:=by
   have:=Zh8 (P++(X'++[z])) Y x j (by simp;omega)
   simpa using this
  have g2:(P++((X'++[z])++x::Y)).toArray[j-1]! = z:=by
   have:=Zh8 (P++X') (x::Y) z (j-1) (by simp;omega)
   simpa using this
  cases h:lt x z with
  | false=>
   refine ⟨X'++[z],[],by simp,?_,by simp,?_⟩
   ·rw [insInner_stop lt a j _ (.inr (by rw [g1,g2];exact h))]
    simp
   ·intro y hy
    simp at hy
    subst hy
    exact h
  | true=>
   rw [insInner_go lt a j _ (by omega) (by rw [g1,g2];exact h),e0,Zkz (P++X') [] Y z x (j-1) j (by simp;omega) (by simp;omega)]
   obtain ⟨X1,X2,h1,h2,h3,h4⟩:=Zha hO P x n X' (z::Y) a (j-1) hX' ha (by omega)
   refine ⟨X1,X2++[z],by rw [h1];simp,?_,?_,h4⟩
   ·have e:(P++X')++x::([]++z::Y)=P++(X'++x::(z::Y)):=by simp
    rw [e,h2]
    simp
   ·intro y hy
    rcases List.mem_append.1 hy with hy | hy
    ·exact h3 y hy
    ·simp at hy
     subst hy
     exact h
theorem Zt9 {x:α} {X:List α} (h:Asc lt X) (hx:∀z∈X,lt z x=false):Asc lt (x::X):=List.pairwise_cons.2 ⟨hx,h⟩
theorem Zax {X Y:List α}:Asc lt (X++Y)↔Asc lt X/\Asc lt Y/\∀x∈X,∀y∈Y,lt y x=false:=List.pairwise_append
theorem Zg9 (hO:SWO lt) (P:List α):∀(n:Nat) (X1 X2 Y:List α) (a b i:Nat),X2.length=n->a=P.length->i=P.length+X1.length->b=P.length+X1.length+n->Asc lt X1 ->
 ∃R,insOuter lt a b i (P++(X1++(X2++Y))).toArray=(P++(R++Y)).toArray/\Asc lt R/\Stb lt (X1++X2) R
 | 0,X1,X2,Y,a,b,i,hX,ha,hi,hb,hs=>by
  obtain rfl:=List.eq_nil_of_length_eq_zero hX
  rw [insOuter_stop lt a b i _ (by omega)]
  exact ⟨X1,by simp,hs,by simpa using Stb.refl _⟩
 | n+1,X1,X2,Y,a,b,i,hX,ha,hi,hb,hs=>by
  cases X2 with
  | nil=>simp at hX
  | cons x X2=>
   simp only [List.length_cons,Nat.add_right_cancel_iff] at hX
   rw [insOuter_go lt a b i _ (by omega)]
   obtain ⟨U1,U2,h1,h2,h3,h4⟩:=Zha hO P x X1.length X1 (X2++Y) a i rfl ha hi
   have e:P++(X1++(x::X2++Y))=P++(X1++x::(X2++Y)):=by simp
   rw [e,h2]
   subst h1
   obtain ⟨s1,s2,s3⟩:=Zax.1 hs
   have low:∀z∈U1,lt x z=false:=by
    intro z hz
    cases hl:U1.getLast? with
    | none=>rw [List.getLast?_eq_none_iff] at hl;rw [hl] at hz;cases hz
    | some y=>
     have hy:=h4 y hl
     obtain ⟨W,rfl⟩:=List.getLast?_eq_some_iff.1 hl
     rcases List.mem_append.1 hz with hz | hz
     ·exact hO.ntrans x y z hy ((Zax.1 s1).2.2 z hz y (by simp))
     ·simp at hz
      subst hz
      exact hy
   have hs2:Asc lt (U1++x::U2):=Zax.2 ⟨s1,Zt9 s2 fun z hz=>asymm hO (h3 z hz),fun z hz y hy=>by
    rcases List.mem_cons.1 hy with rfl | hy
    ·exact low z hz
    ·exact s3 z hz y hy⟩
   obtain ⟨R,r1,r2,r3⟩:=Zg9 hO P n (U1++x::U2) X2 Y a b (i+1) hX ha (by simp at hi ⊢;omega) (by simp at hb ⊢;omega) hs2
   refine ⟨R,?_,r2,Stb.trans ?_ r3⟩
   ·rw [<-r1]
    simp
   ·have:(U1++U2)++x::X2=U1++((U2++[x])++X2):=by simp
    rw [this]
    have:(U1++x::U2)++X2=U1++(([x]++U2)++X2):=by simp
    rw [this]
    exact (Stb.refl U1).append ((Stb.swap hO fun u hu v hv=>by simp at hv;subst hv;exact h3 u hu).append (Stb.refl X2))
theorem Ztc (hO:SWO lt) (P X Y:List α) (a b:Nat) (ha:a=P.length) (hb:b=P.length+X.length) :
 ∃R,insertionSort lt (P++(X++Y)).toArray a b=(P++(R++Y)).toArray/\Asc lt R/\Stb lt X R:=by
 unfold insertionSort
 cases X with
 | nil=>exact ⟨[],by rw [insOuter_stop lt a b _ _ (by simp at hb;omega)],List.Pairwise.nil,Stb.refl _⟩
 | cons x X=>
  obtain ⟨R,h1,h2,h3⟩:=Zg9 hO P X.length [x] X Y a b (a+1) rfl ha (by simp;omega) (by simp at hb ⊢;omega) (by unfold Asc;simp)
  exact ⟨R,by simpa using h1,h2,by simpa using h3⟩
theorem Zl6 (hO:SWO lt) {U1 U2 V1 V2 R1 R2:List α} (hU:Asc lt (U1++U2)) (hV:Asc lt (V1++V2)) (h1:∀u∈U1,∀v∈V2,lt v u=false) (h2:∀u∈U2,∀v∈V1,lt v u=true)
 (s1:Stb lt (U1++V1) R1) (s2:Stb lt (U2++V2) R2) (a1:Asc lt R1) (a2:Asc lt R2):Asc lt (R1++R2)/\Stb lt ((U1++U2)++(V1++V2)) (R1++R2):=by
 constructor
 ·refine Zax.2 ⟨a1,a2,fun x hx y hy => ?_⟩
  rcases List.mem_append.1 (s1.1.mem_iff.2 hx) with hx | hx<;>rcases List.mem_append.1 (s2.1.mem_iff.2 hy) with hy | hy
  ·exact (Zax.1 hU).2.2 x hx y hy
  ·exact h1 x hx y hy
  ·exact asymm hO (h2 y hy x hx)
  ·exact (Zax.1 hV).2.2 x hx y hy
 ·have e1:(U1++U2)++(V1++V2)=U1++((U2++V1)++V2):=by simp
  have e2:U1++((V1++U2)++V2)=(U1++V1)++(U2++V2):=by simp
  rw [e1]
  refine ((Stb.refl U1).append ((Stb.swap hO h2).append (Stb.refl V2))).trans ?_
  rw [e2]
  exact s1.append s2
theorem Z8v {A X B:List α} {x:α} (h:x∈X):∃c,A.length<=c/\c<A.length+X.length/\(A++(X++B)).toArray[c]! = x:=by
 obtain ⟨i,hi,rfl⟩:=List.mem_iff_getElem.1 h
 refine ⟨A.length+i,by omega,by omega,?_⟩
 rw [getElem!_pos _ _ (by simp;omega)]
 simp [List.getElem_append_right,List.getElem_append_left,hi]
theorem Ziw (hO:SWO lt) {A X B:List α} (h:Asc lt X) {i j:Nat} (h1:A.length<=i) (h2:i<=j) (h3:j<A.length+X.length):lt (A++(X++B)).toArray[j]! (A++(X++B)).toArray[i]! = false:=by
 have g:∀c,A.length<=c->(hc:c<A.length+X.length)->(A++(X++B)).toArray[c]! = X[c-A.length]:=by
  intro c hc1 hc2
  rw [getElem!_pos _ _ (by simp;omega)]
  simp only [List.getElem_toArray]
  rw [List.getElem_append_right hc1,List.getElem_append_left (by omega)]
 rw [g i h1 (by omega),g j (by omega) h3]
 by_cases e:i=j
 ·subst e
  exact hO.irrefl _
 ·exact List.pairwise_iff_getElem.1 h (i-A.length) (j-A.length) (by omega) (by omega) (by omega)
structure Bs (f:Nat->Bool) (lo hi i j:Nat):Prop where
 h1:lo<=i
 h2:i<=j
 h3:j<=hi
 low:∀c,lo<=c->c<i->f c=true
 high:∀c,j<=c->c<hi->f c=false
theorem Bs.start (f:Nat->Bool) {lo hi:Nat} (h:lo<=hi):Bs f lo hi lo hi:=⟨Nat.le_refl _,h,Nat.le_refl _,fun c h1 h2=>by omega,fun c h1 h2=>by omega⟩
theorem Bs.up {f:Nat->Bool} {lo hi i j h:Nat} (B:Bs f lo hi i j) (mono:∀c e,lo<=c->c<=e->e<hi->f e=true->f c=true) (g1:i<=h) (g2:h<j) (hf:f h=true):Bs f lo hi (h+1) j:=by
 have:=B.h1;have:=B.h3
 exact ⟨by omega,by omega,B.h3,fun c c1 c2=>mono c h c1 (by omega) (by omega) hf,B.high⟩
theorem Bs.down {f:Nat->Bool} {lo hi i j h:Nat} (B:Bs f lo hi i j) (mono:∀c e,lo<=c->c<=e->e<hi->f e=true->f c=true) (g1:i<=h) (g2:h<j) (hf:f h=false):Bs f lo hi i h:=by
 have:=B.h1;have:=B.h3
 refine ⟨B.h1,g1,by omega,B.low,fun c c1 c2 => ?_⟩
 cases hc:f c with
 | false=>rfl
 | true=>
  have:=mono h c (by omega) c1 c2 hc
  rw [hf] at this
  cases this
end
end
section
open Go.Sort M
instance:Inhabited Ky:=⟨⟨0,0,0⟩⟩
def Zba:List Rt->List Rt
 | []=>[]
 | [r]=>[r]
 | r::q::l=>if q.k=r.k then Zba (q::l) else r::Zba (q::l)
def lst (l:List Rt) (k:Ky):Option Rt:=(l.filter fun r=>decide (r.k=k)).getLast?
theorem Z2j (l:List Rt) (r:Rt) (k:Ky):lst (l++[r]) k=if r.k=k then some r else lst l k:=by
 unfold lst
 rw [List.filter_append]
 by_cases h:r.k=k
 ·simp [h]
 ·simp [h]
theorem Zcy {L:List Rt} {r q:Rt} (h:Sorted L):q∈Zao L r↔q=r\/(q∈L/\q.k≠r.k):=by
 rw [(Za7 r h).mem_iff,List.mem_cons,Zay]
theorem Ze9 (l:List Rt) (r:Rt):Zap (l++[r])=Zao (Zap l) r:=by
 unfold Zap
 rw [List.foldl_append]
 rfl
theorem Za9 (l:List Rt):Sorted (Zap l)/\∀q,q∈Zap l↔lst l q.k=some q:=by
 suffices H:∀(n:Nat) (l:List Rt),l.length=n->Sorted (Zap l)/\∀q,q∈Zap l↔lst l q.k=some q from H l.length l rfl
 intro n
 induction n with
 | zero=>
  intro l hl
  obtain rfl:=List.eq_nil_of_length_eq_zero hl
  exact ⟨List.Pairwise.nil,fun q=>by simp [Zap,lst]⟩
 | succ n ih=>
  intro l hl
  obtain ⟨l,r,rfl⟩:∃l' r,l=l'++[r]:=⟨l.dropLast,l.getLast (by intro e;simp [e] at hl),(List.dropLast_concat_getLast _).symm⟩
  obtain ⟨h1,h2⟩:=ih l (by simpa using hl)
  rw [Ze9]
  refine ⟨Zaq r h1,fun q => ?_⟩
  rw [Zcy h1,Z2j]
  by_cases h:r.k=q.k
  ·rw [if_pos h]
   constructor
   ·rintro (rfl | ⟨-,h3⟩)
    ·rfl
    ·exact absurd h.symm h3
   ·intro e
    exact .inl (Option.some.inj e).symm
  ·rw [if_neg h,<-h2 q]
   constructor
   ·rintro (rfl | ⟨h3,-⟩)
    ·exact absurd rfl h
    ·exact h3
   ·intro h3
    exact .inr ⟨h3,fun e=>h e.symm⟩
theorem Zmo (r:Rt) (l:List Rt) (k:Ky) (h:r.k≠k):lst (r::l) k=lst l k:=by
 unfold lst
 rw [List.filter_cons_of_neg (by simpa using h)]
theorem Z2k (r q:Rt) (l:List Rt) (k:Ky) (h:q.k=r.k):lst (r::q::l) k=lst (q::l) k:=by
 by_cases e:r.k=k
 ·unfold lst
  rw [List.filter_cons_of_pos (by simpa using e),List.filter_cons_of_pos (l:=l) (a:=q) (by simpa using h.trans e)]
  rw [List.getLast?_cons_cons]
 ·exact Zmo r _ k e
theorem Z2l {l:List Rt} {k:Ky} (h:∀z∈l,z.k≠k):lst l k=none:=by
 unfold lst
 rw [List.filter_eq_nil_iff.2 (fun z hz=>by simpa using h z hz)]
 rfl
theorem Z39 {r q:Rt} {l:List Rt} (h:Asc ltR (r::q::l)) (hk:q.k≠r.k):∀z∈q::l,Zau r.k z.k=true:=by
 obtain ⟨h1,h2⟩:=List.pairwise_cons.1 h
 have hq:Zau r.k q.k=true:=by
  have:=Zb3 (a:=q.k) (b:=r.k) hk
  rw [this]
  have:=h1 q (by simp)
  unfold ltR at this
  rw [this]
  rfl
 intro z hz
 rcases List.mem_cons.1 hz with rfl | hz
 ·exact hq
 ·have h3:=(List.pairwise_cons.1 h2).1 z hz
  cases e:Zau r.k z.k with
  | true=>rfl
  | false=>
   have:=Zq4.ntrans r z q e h3
   unfold ltR at this
   rw [hq] at this
   cases this
theorem Zoz:∀{M:List Rt},Asc ltR M->Sorted (Zba M)/\(∀q∈Zba M,q∈M)/\∀q,q∈Zba M↔lst M q.k=some q
 | [],_=>⟨List.Pairwise.nil,by simp [Zba],fun q=>by simp [Zba,lst]⟩
 | [r],_=>by
  refine ⟨by simp [Zba,Sorted],by simp [Zba],fun q => ?_⟩
  unfold Zba
  by_cases h:r.k=q.k
  ·have:lst [r] q.k=some r:=by simp [lst,h]
   rw [this]
   simp
   exact eq_comm
  ·rw [Zmo r [] q.k h]
   simp [lst]
   rintro rfl
   exact h rfl
 | r::q::l,h=>by
  obtain ⟨h1,h2⟩:=List.pairwise_cons.1 h
  obtain ⟨i1,i2,i3⟩:=Zoz h2
  unfold Zba
  by_cases hk:q.k=r.k
  ·rw [if_pos hk]
   exact ⟨i1,fun z hz=>List.mem_cons_of_mem _ (i2 z hz),fun z=>by rw [Z2k r q l _ hk];exact i3 z⟩
  ·rw [if_neg hk]
   have hl:=Z39 h hk
   refine ⟨List.pairwise_cons.2 ⟨fun z hz=>hl z (i2 z hz),i1⟩,fun z hz => ?_,fun z => ?_⟩
   ·rcases List.mem_cons.1 hz with rfl | hz
    ·simp
    ·exact List.mem_cons_of_mem _ (i2 z hz)
   ·have none:lst (q::l) r.k=none:=Z2l fun z hz e=>by
     have:=hl z hz
     rw [e,Za0] at this
     cases this
    rw [List.mem_cons,i3 z]
    by_cases e:r.k=z.k
    ·rw [<-e,none]
     have:lst (r::q::l) r.k=some r:=by
      unfold lst at none ⊢
      rw [List.filter_cons_of_pos (by simp),List.getLast?_eq_none_iff.1 none]
      rfl
     rw [this]
     constructor
     ·rintro (rfl | e)
      ·rfl
      ·cases e
     ·intro e
      exact .inl (Option.some.inj e).symm
    ·rw [Zmo r _ _ e]
     constructor
     ·rintro (rfl | h)
      ·exact absurd rfl e
      ·exact h
     ·exact .inr
theorem Z6l (x y:Rt):eqv ltR x y=decide (y.k=x.k):=by
 unfold eqv ltR
 by_cases h:y.k=x.k
 ·rw [h,Za0]
  simp
 ·rw [Zb3 h]
  simp [h]
theorem Z56 {l M:List Rt} (h:Stb ltR l M) (q:Rt):lst M q.k=lst l q.k:=by
 have:=h.2 q
 have e:(eqv ltR q)=fun r=>decide (r.k=q.k):=funext fun r=>Z6l q r
 rw [e] at this
 unfold lst
 rw [this]
theorem Zdk {L:List Rt} (h:Sorted L):L.Nodup:=List.Pairwise.imp (fun {a b} hab e=>by rw [e,Za0] at hab;cases hab) h
theorem Z2q {l M:List Rt} (h:Asc ltR M) (hs:Stb ltR l M):Zba M=Zap l:=by
 obtain ⟨a1,-,a3⟩:=Zoz h
 obtain ⟨b1,b2⟩:=Za9 l
 refine Zgv a1 b1 ((List.perm_ext_iff_of_nodup (Zdk a1) (Zdk b1)).2 fun q => ?_)
 rw [a3 q,b2 q,Z56 hs q]
theorem Zlf (M:List Rt) (i:Nat) (hi:i<M.length):Zba (M.drop i)=(if h:i+1<M.length then (if M[i+1].k=M[i].k then [] else [M[i]]) else [M[i]])++Zba (M.drop (i+1)):=by
 rw [List.drop_eq_getElem_cons hi]
 by_cases h:i+1<M.length
 ·rw [dif_pos h,List.drop_eq_getElem_cons h]
  have hs:∀(r q:Rt) (l:List Rt),Zba (r::q::l)=if q.k=r.k then Zba (q::l) else r::Zba (q::l):=fun _ _ _=>rfl
  rw [hs]
  by_cases e:M[i+1].k=M[i].k
  ·rw [if_pos e,if_pos e,List.nil_append]
  ·rw [if_neg e,if_neg e]
   rfl
 ·rw [dif_neg h,List.drop_eq_nil_of_le (by omega)]
  rfl
theorem Zj3:∀M:List Rt,(Zba M).length<=M.length
 | []=>by simp [Zba]
 | [r]=>by simp [Zba]
 | r::q::l=>by
  have:=Zj3 (q::l)
  unfold Zba
  split<;>simp at * <;> omega
end
section
open Go.Sort
set_option linter.unusedSectionVars false
section
variable {α:Type} [Inhabited α] {lt:α->α->Bool}
def f1 (lt:α->α->Bool) (L:List α) (a c:Nat):Bool:=lt L.toArray[c]! L.toArray[a]!
theorem Z6k (hO:SWO lt) {A U V B L:List α} (e:L=A++(U++(V++B))) (hV:Asc lt V) (a m b:Nat) (hm:m=A.length+U.length) (hb:b=m+V.length):∀c e,m<=c->c<=e->e<b->f1 lt L a e=true->f1 lt L a c=true:=by
 intro c e1 h1 h2 h3 hf
 unfold f1 at hf ⊢
 have e':L=(A++U)++(V++B):=by rw [e];simp
 have:=Ziw (A:=A++U) (B:=B) hO hV (i:=c) (j:=e1) (by simp;omega) h2 (by simp;omega)
 rw [<-e'] at this
 cases h:lt L.toArray[c]! L.toArray[a]! with
 | true=>rfl
 | false=>
  have:=hO.ntrans _ _ _ this h
  rw [hf] at this
  cases this
theorem take_at {A X B:List α} {k:Nat} {x:α} (h:x∈X.take k):∃c,A.length<=c/\c<A.length+k/\c<A.length+X.length/\(A++(X++B)).toArray[c]! = x:=by
 obtain ⟨c,h1,h2,h3⟩:=Z8v (A:=A) (B:=X.drop k++B) h
 rw [List.length_take] at h2
 refine ⟨c,h1,by omega,by omega,?_⟩
 rw [<-h3]
 congr 2
 rw [<-List.append_assoc (X.take k),List.take_append_drop]
theorem Zd3 {A X B:List α} {k:Nat} {x:α} (h:x∈X.drop k):∃c,A.length+k<=c/\c<A.length+X.length/\(A++(X++B)).toArray[c]! = x:=by
 have hk:k<=X.length:=by
  refine Nat.le_of_not_lt fun hk => ?_
  rw [List.drop_eq_nil_of_le (by omega)] at h
  cases h
 obtain ⟨c,h1,h2,h3⟩:=Z8v (A:=A++X.take k) (B:=B) h
 simp only [List.length_append,List.length_take,List.length_drop] at h1 h2
 refine ⟨c,by omega,by omega,?_⟩
 rw [<-h3]
 congr 2
 rw [List.append_assoc,<-List.append_assoc (X.take k),List.take_append_drop]
theorem Z15 (hO:SWO lt) {A V B L:List α} {u:α} (e:L=A++([u]++(V++B))) (a m b i:Nat) (ha:a=A.length) (hm:m=A.length+1) (hb:b=m+V.length) (S:Bs (f1 lt L a) m b i i) :
 (∀v∈V.take (i-m),lt v u=true)/\∀v∈V.drop (i-m),lt v u=false:=by
 have hu:L.toArray[a]! = u:=by rw [e];exact Zh8 A _ u a ha
 have e':L=(A++[u])++(V++B):=by rw [e];simp
 have:=S.h1
 constructor<;>intro v hv
 ·obtain ⟨c,h1,h2,-,h3⟩:=take_at (A:=A++[u]) (B:=B) hv
  rw [<-e'] at h3
  simp only [List.length_append,List.length_singleton] at h1 h2
  have:=S.low c (by omega) (by omega)
  unfold f1 at this
  rwa [h3,hu] at this
 ·obtain ⟨c,h1,h2,h3⟩:=Zd3 (A:=A++[u]) (B:=B) hv
  rw [<-e'] at h3
  simp only [List.length_append,List.length_singleton] at h1 h2
  have:=S.high c (by omega) (by omega)
  unfold f1 at this
  rwa [h3,hu] at this
def f2 (lt:α->α->Bool) (L:List α) (m c:Nat):Bool := !lt L.toArray[m]! L.toArray[c]!
theorem Z6j (hO:SWO lt) {A U B L:List α} (e:L=A++(U++B)) (hU:Asc lt U) (a m:Nat) (ha:a=A.length) (hm:m=A.length+U.length):∀c e,a<=c->c<=e->e<m->f2 lt L m e=true->f2 lt L m c=true:=by
 intro c e1 h1 h2 h3 hf
 unfold f2 at hf ⊢
 rw [Bool.not_eq_true'] at hf ⊢
 have:=Ziw (A:=A) (B:=B) hO hU (i:=c) (j:=e1) (by omega) h2 (by omega)
 rw [<-e] at this
 exact hO.ntrans _ _ _ hf this
theorem Z73 {A U B L:List α} {v:α} (e:L=A++(U++([v]++B))) (a m i:Nat) (ha:a=A.length) (hm:m=A.length+U.length) (S:Bs (f2 lt L m) a m i i) :
 (∀u∈U.take (i-a),lt v u=false)/\∀u∈U.drop (i-a),lt v u=true:=by
 have hv:L.toArray[m]! = v:=by
  have:=Zh8 (A++U) B v m (by simp;omega)
  rw [e];simpa using this
 have:=S.h1
 constructor<;>intro u hu
 ·obtain ⟨c,h1,h2,-,h3⟩:=take_at (A:=A) (B:=[v]++B) hu
  rw [<-e] at h3
  have:=S.low c (by omega) (by omega)
  unfold f2 at this
  rw [h3,hv,Bool.not_eq_true'] at this
  exact this
 ·obtain ⟨c,h1,h2,h3⟩:=Zd3 (A:=A) (B:=[v]++B) hu
  rw [<-e] at h3
  have:=S.high c (by omega) (by omega)
  unfold f2 at this
  rw [h3,hv,Bool.not_eq_false'] at this
  exact this
def f3 (lt:α->α->Bool) (L:List α) (p c:Nat):Bool := !lt L.toArray[p-c]! L.toArray[c]!
structure Sy (a m b mid lo r0:Nat):Prop where
 am:a<m
 mb:m<b
 half:mid=(a+b)/2
 way:(mid<m/\lo=mid+m-b/\r0=mid)\/(m<=mid/\lo=a/\r0=m)
theorem Sy.le {a m b mid lo r0:Nat} (Y:Sy a m b mid lo r0):a<=lo/\lo<=r0/\r0<=m/\r0<=mid:=by
 have:=Y.am;have:=Y.mb;have:=Y.half;have:=Y.way
 omega
theorem Sy.in1 {a m b mid lo r0 c:Nat} (Y:Sy a m b mid lo r0) (h1:lo<=c) (h2:c<r0):a<=c/\c<m/\m<=mid+m-1-c/\mid+m-1-c<b:=by
 have:=Y.am;have:=Y.mb;have:=Y.half;have:=Y.way
 omega
theorem Z6i (hO:SWO lt) {A U V B L:List α} (e:L=A++(U++(V++B))) (hU:Asc lt U) (hV:Asc lt V) {a m b mid lo r0:Nat} (Y:Sy a m b mid lo r0) (ha:a=A.length) (hm:m=A.length+U.length) (hb:b=m+V.length) :
 ∀c e,lo<=c->c<=e->e<r0->f3 lt L (mid+m-1) e=true->f3 lt L (mid+m-1) c=true:=by
 intro c e1 h1 h2 h3 hf
 unfold f3 at hf ⊢
 rw [Bool.not_eq_true'] at hf ⊢
 have i1:=Y.in1 h1 (by omega)
 have i2:=Y.in1 (c:=e1) (by omega) h3
 have u:=Ziw (A:=A) (B:=V++B) hO hU (i:=c) (j:=e1) (by omega) h2 (by omega)
 have v:=Ziw (A:=A++U) (B:=B) hO hV (i:=mid+m-1-e1) (j:=mid+m-1-c) (by simp;omega) (by omega) (by simp;omega)
 rw [<-e] at u
 have e':L=(A++U)++(V++B):=by rw [e];simp
 rw [<-e'] at v
 exact hO.ntrans _ _ _ (hO.ntrans _ _ _ v hf) u
theorem Zwx (hO:SWO lt) {A U V B L:List α} (e:L=A++(U++(V++B))) (hU:Asc lt U) (hV:Asc lt V) {a m b mid lo r0 s:Nat} (Y:Sy a m b mid lo r0) (ha:a=A.length) (hm:m=A.length+U.length) (hb:b=m+V.length) (S:Bs (f3 lt L (mid+m-1)) lo r0 s s) :
 (a<=s/\s<=m/\s<=mid/\m<=mid+m-s/\mid+m-s<=b)/\(∀u∈U.take (s-a),∀v∈V.drop (mid+m-s-m),lt v u=false)/\∀u∈U.drop (s-a),∀v∈V.take (mid+m-s-m),lt v u=true:=by
 have b1:=S.h1;have b2:=S.h3
 have y0:=Y.am;have y1:=Y.mb;have y2:=Y.half;have y3:=Y.way
 have e':L=(A++U)++(V++B):=by rw [e];simp
 refine ⟨by omega,fun u hu v hv => ?_,fun u hu v hv => ?_⟩
 ·obtain ⟨c,h1,h2,-,h3⟩:=take_at (A:=A) (B:=V++B) hu
  obtain ⟨d,g1,g2,g3⟩:=Zd3 (A:=A++U) (B:=B) hv
  rw [<-e] at h3
  rw [<-e'] at g3
  simp only [List.length_append] at g1 g2
  have q1:lo<=s-1:=by omega
  have hs:=S.low (s-1) q1 (by omega)
  have i1:=Y.in1 q1 (by omega)
  unfold f3 at hs
  rw [Bool.not_eq_true'] at hs
  have x:=Ziw (A:=A) (B:=V++B) hO hU (i:=c) (j:=s-1) (by omega) (by omega) (by omega)
  have y:=Ziw (A:=A++U) (B:=B) hO hV (i:=mid+m-1-(s-1)) (j:=d) (by simp;omega) (by omega) (by simp;omega)
  rw [<-e] at x
  rw [<-e'] at y
  rw [h3] at x
  rw [g3] at y
  exact hO.ntrans _ _ _ (hO.ntrans _ _ _ y hs) x
 ·obtain ⟨c,h1,h2,h3⟩:=Zd3 (A:=A) (B:=V++B) hu
  obtain ⟨d,g1,g2,-,g3⟩:=take_at (A:=A++U) (B:=B) hv
  rw [<-e] at h3
  rw [<-e'] at g3
  simp only [List.length_append] at g1 g2
  have q1:s<r0:=by omega
  have hs:=S.high s (by omega) q1
  have i1:=Y.in1 b1 q1
  unfold f3 at hs
  rw [Bool.not_eq_false'] at hs
  have x:=Ziw (A:=A) (B:=V++B) hO hU (i:=s) (j:=c) (by omega) (by omega) (by omega)
  have y:=Ziw (A:=A++U) (B:=B) hO hV (i:=d) (j:=mid+m-1-s) (by simp;omega) (by omega) (by simp;omega)
  rw [<-e] at x
  rw [<-e'] at y
  rw [h3] at x
  rw [g3] at y
  cases h:lt v u with
  | true=>rfl
  | false=>
   have:=hO.ntrans _ _ _ (hO.ntrans _ _ _ y h) x
   rw [hs] at this
   cases this
inductive Bl (lt:α->α->Bool) (b:Nat):List α->Prop
 | last {X:List α}:X.length<=b->Asc lt X->Bl lt b X
 | more {X R:List α}:X.length=b->Asc lt X->Bl lt b R->Bl lt b (X++R)
theorem Bl.asc {b:Nat} {X:List α} (h:Bl lt b X) (hl:X.length<=b):Asc lt X:=by
 induction h with
 | last _ h=>exact h
 | @more X R h1 h2 h3 ih=>
  have:R=[]:=List.eq_nil_of_length_eq_zero (by simp at hl;omega)
  subst this
  simpa using h2
theorem Bl.one {b:Nat} {X:List α} (h:Bl lt b X) (hl:b<=X.length):∃Y R,X=Y++R/\Y.length=b/\Asc lt Y/\Bl lt b R:=by
 cases h with
 | last h1 h2=>exact ⟨X,[],by simp,by omega,h2,.last (by simp) List.Pairwise.nil⟩
 | @more Y R h1 h2 h3=>exact ⟨Y,R,rfl,h1,h2,h3⟩
def Pre (lt:α->α->Bool) (b:Nat) (P:List α):Prop:=∀R,Bl lt b R->Bl lt b (P++R)
theorem Pre.nil (b:Nat):Pre lt b []:=fun R h=>by simpa using h
theorem Pre.next {b:Nat} {P X:List α} (h:Pre lt b P) (hl:X.length=b) (hs:Asc lt X):Pre lt b (P++X):=fun R hR=>by
 have:=h _ (Bl.more hl hs hR)
 simpa using this
theorem Zuz {P X Q Y S:List α} {x y:α} (p q:Nat) (hp:p=P.length) (hq:q=P.length+1+X.length+Q.length) :
 swp (P++(x::X++(Q++(y::Y++S)))).toArray p q=((P++[y])++(X++((Q++[x])++(Y++S)))).toArray:=by
 have e:P++(x::X++(Q++(y::Y++S)))=P++x::((X++Q)++y::(Y++S)):=by simp
 rw [e,Zjm P (X++Q) (Y++S) x y p q hp (by simp;omega)]
 simp
theorem Zx3 {P S:List α} {x y:α} (p q:Nat) (hp:p=P.length) (hq:q=P.length+1):swp (P++(x::y::S)).toArray p q=(P++(y::x::S)).toArray:=by
 have:=Zjm P [] S x y p q hp (by simp;omega)
 simpa using this
theorem Zu9 {P S:List α} {x y:α} (p q:Nat) (hp:p=P.length) (hq:q=P.length+1):swp (P++(x::y::S)).toArray q p=(P++(y::x::S)).toArray:=by
 have:=Zkz P [] S x y p q hp (by simp;omega)
 simpa using this
end
end
end Go.Proofs.YtgfjmgebecmbiaaGreat

import Derived.Test.YtgfjmgebecmbiaaGreatW11
import Derived.Test.YtgfjmgebecmbiaaGreatCT2
set_option linter.unusedSimpArgs false
set_option linter.unusedVariables false
set_option maxHeartbeats 1000000
namespace Go.Proofs.YtgfjmgebecmbiaaGreat
open Lib(hid)
section
open Go.RowKit Go.Sort M
set_option maxRecDepth 100000 in
theorem Ze1 (g o:Nat) (C:List Pl) (k:Ky) (w:World) (H:Bkt w g o C) :
 Calls Tryz.prog 92 #[.pointer (some ⟨g,o,none⟩),kyV k] w fun e w'=>e = .returned (.tuple #[.int .i64 ((getC C k).getD 0),.bool (getC C k).isSome])/\Below w.heap.size w w':=by
 have HF:=hid (fun w H=>Zmz g o C k w H)
 have HH:=hid H
 have h4:=H.four
 rcases Zbp (hasK k) C with ⟨i,hi,h1,h2,h3⟩ | ⟨h1,h2⟩
 ·rw [Zmy hi h1 h3]
  rw [h2] at HF
  clear h1 h2 h3 H
  have hi4:i<4:=by omega
  unfold kyV at *
  go_enter Tryz.func92,Tryz.ntmps92
  go_wp2_with fail
  refine (HF.out _ (HH.out.below (by go_grown))).mono ?_
  rintro e w1 ⟨rfl,hb1⟩
  have hw1:Below w.heap.size w w1:=Below.trans (by go_grown) (hb1.mono (by go_size))
  obtain ⟨c0,c1,c2,c3,c4⟩:=(HH.out.below hw1).at i hi
  have hz1:=hw1.size
  have hl:=HH.out.lt
  clear hb1
  go_wp2
  go_ret2
  exact ⟨rfl,by go_grown⟩
 ·rw [Zpb h1]
  rw [h2] at HF
  clear h1 h2 H
  unfold kyV at *
  go_enter Tryz.func92,Tryz.ntmps92
  go_wp2_with fail
  refine (HF.out _ (HH.out.below (by go_grown))).mono ?_
  rintro e w1 ⟨rfl,hb1⟩
  have hw1:Below w.heap.size w w1:=Below.trans (by go_grown) (hb1.mono (by go_size))
  clear hb1
  go_wp2
  go_ret2
  exact ⟨rfl,by go_grown⟩
set_option maxRecDepth 100000 in
theorem Zch (g o:Nat) (C:List Pl) (k:Ky) (w:World) (H:Bkt w g o C) :
 Calls Tryz.prog 127 #[.pointer (some ⟨g,o,none⟩),kyV k] w fun e w'=>e = .returned (.bool (takeC C k).isSome)/\Bkt w' g o ((takeC C k).getD C)/\Turn w w' g o 20:=by
 have HF:=hid (fun w H=>Zmz g o C k w H)
 have HH:=hid H
 have h4:=H.four
 rcases Zbp (hasK k) C with ⟨i,hi,h1,h2,h3⟩ | ⟨h1,h2⟩
 ·rw [show takeC C k=some (C.set i none) by unfold takeC;rw [h1]]
  rw [h2] at HF
  clear h1 h2 h3 H
  have hi4:i<4:=by omega
  unfold kyV at *
  go_enter Tryz.func127,Tryz.ntmps127
  go_wp2_with fail
  refine (HF.out _ (HH.out.below (by go_grown))).mono ?_
  rintro e w1 ⟨rfl,hb1⟩
  have hw1:Below w.heap.size w w1:=Below.trans (by go_grown) (hb1.mono (by go_size))
  have H1:=HH.out.below hw1
  obtain ⟨c0,c1,c2,c3,c4⟩:=H1.at i hi
  have f0:=H1.free (i*5) (by omega)
  have f1:=H1.free (i*5+1) (by omega)
  have f2:=H1.free (i*5+2) (by omega)
  have f3:=H1.free (i*5+3) (by omega)
  have f4:=H1.free (i*5+4) (by omega)
  have hz1:=hw1.size
  have hl:=HH.out.lt
  simp only [<-Nat.add_assoc] at f1 f2 f3 f4
  clear hb1 H1
  go_wp2
  go_ret
  have hP:=(HH.out.below hw1).put i hi none
  exact ⟨rfl,hP.1,(Turn.of_below hl hw1).trans hP.2⟩
 ·rw [show takeC C k=none by unfold takeC;rw [h1]]
  rw [h2] at HF
  clear h1 h2 H
  unfold kyV at *
  go_enter Tryz.func127,Tryz.ntmps127
  go_wp2_with fail
  refine (HF.out _ (HH.out.below (by go_grown))).mono ?_
  rintro e w1 ⟨rfl,hb1⟩
  have hw1:Below w.heap.size w w1:=Below.trans (by go_grown) (hb1.mono (by go_size))
  have hl:=HH.out.lt
  clear hb1
  go_wp2
  go_ret
  exact ⟨rfl,HH.out.below hw1,Turn.of_below hl hw1⟩
set_option maxRecDepth 100000 in
theorem Zby (g o:Nat) (C:List Pl) (k:Ky) (v:Int) (w:World) (H:Bkt w g o C) :
 Calls Tryz.prog 133 #[.pointer (some ⟨g,o,none⟩),kyV k,.int .i64 v] w fun e w'=>e = .returned (.bool (putC C k v).isSome)/\Bkt w' g o ((putC C k v).getD C)/\Turn w w' g o 20:=by
 have HF:=hid (fun w H=>Zmz g o C k w H)
 have HE:=hid (fun w H=>Zzu g o C w H)
 have HH:=hid H
 have h4:=H.four
 rcases Zbp (hasK k) C with ⟨i,hi,h1,h2,h3⟩ | ⟨h1,h2⟩
 ·rw [show putC C k v=some (C.set i (some ⟨k,v⟩)) by unfold putC;rw [h1]]
  rw [h2] at HF
  clear h1 h2 h3 H HE
  have hi4:i<4:=by omega
  unfold kyV at *
  go_enter Tryz.func133,Tryz.ntmps133
  go_wp2_with fail
  refine (HF.out _ (HH.out.below (by go_grown))).mono ?_
  rintro e w1 ⟨rfl,hb1⟩
  have hw1:Below w.heap.size w w1:=Below.trans (by go_grown) (hb1.mono (by go_size))
  have b0:w1.cell? ⟨w.heap.size,0,none⟩=some (.int .u64 (k.h:Int)):=by
   rw [hb1.cell (by simp<;>omega)]
   first|assumption|(simp [go_sem];done)|(simp [go_sem, *];done)
  have b1:w1.cell? ⟨w.heap.size,1,none⟩=some (.int .u64 (k.l:Int)):=by
   rw [hb1.cell (by simp<;>omega)]
   first|assumption|(simp [go_sem];done)|(simp [go_sem, *];done)
  have b2:w1.cell? ⟨w.heap.size,2,none⟩=some (.int .i64 k.n):=by
   rw [hb1.cell (by simp<;>omega)]
   first|assumption|(simp [go_sem];done)|(simp [go_sem, *];done)
  have H1:=HH.out.below hw1
  obtain ⟨c0,c1,c2,c3,c4⟩:=H1.at i hi
  have f0:=H1.free (i*5) (by omega)
  have f1:=H1.free (i*5+1) (by omega)
  have f2:=H1.free (i*5+2) (by omega)
  have f3:=H1.free (i*5+3) (by omega)
  have f4:=H1.free (i*5+4) (by omega)
  have hz1:=hw1.size
  have hl:=HH.out.lt
  simp only [<-Nat.add_assoc] at f1 f2 f3 f4
  clear hb1 H1
  go_wp2_with fail
  go_region
  go_wp2
  go_ret
  have hP:=HH.out.put_drew hw1 i hi (some ⟨k,v⟩)
  exact ⟨rfl,hP.1,hP.2⟩
 ·rcases Zbp Option.isNone C with ⟨i,hi,h5,h6,h7⟩ | ⟨h5,h6⟩
  ·rw [show putC C k v=some (C.set i (some ⟨k,v⟩)) by unfold putC;rw [h1];simp only;rw [h5]]
   rw [h2] at HF
   rw [h6] at HE
   clear h1 h2 h5 h6 h7 H
   have hi4:i<4:=by omega
   unfold kyV at *
   go_enter Tryz.func133,Tryz.ntmps133
   go_wp2_with fail
   refine (HF.out _ (HH.out.below (by go_grown))).mono ?_
   rintro e w2 ⟨rfl,hb2⟩
   have hw2:Below w.heap.size w w2:=Below.trans (by go_grown) (hb2.mono (by go_size))
   have d0:w2.cell? ⟨w.heap.size,0,none⟩=some (.int .u64 (k.h:Int)):=by
    rw [hb2.cell (by simp<;>omega)]
    first|assumption|(simp [go_sem];done)|(simp [go_sem, *];done)
   have d1:w2.cell? ⟨w.heap.size,1,none⟩=some (.int .u64 (k.l:Int)):=by
    rw [hb2.cell (by simp<;>omega)]
    first|assumption|(simp [go_sem];done)|(simp [go_sem, *];done)
   have d2:w2.cell? ⟨w.heap.size,2,none⟩=some (.int .i64 k.n):=by
    rw [hb2.cell (by simp<;>omega)]
    first|assumption|(simp [go_sem];done)|(simp [go_sem, *];done)
   have hz2:w.heap.size<w2.heap.size:=by
    have hs:=hb2.size
    try simp only [World.size_alloc,World.size_setCell] at hs
    omega
   clear hb2
   go_wp2_with fail
   refine (HE.out _ (HH.out.below hw2)).mono ?_
   rintro e w1 ⟨rfl,hb1⟩
   have hw1:=hw2.trans (hb1.mono hw2.size)
   have b0:=(hb1.cell (p:=⟨w.heap.size,0,none⟩) hz2).trans d0
   have b1:=(hb1.cell (p:=⟨w.heap.size,1,none⟩) hz2).trans d1
   have b2:=(hb1.cell (p:=⟨w.heap.size,2,none⟩) hz2).trans d2
   have hz3:=Nat.lt_of_lt_of_le hz2 hb1.size
   clear d0 d1 d2 hw2 hz2 hb1
   have H1:=HH.out.below hw1
   obtain ⟨c0,c1,c2,c3,c4⟩:=H1.at i hi
   have f0:=H1.free (i*5) (by omega)
   have f1:=H1.free (i*5+1) (by omega)
   have f2:=H1.free (i*5+2) (by omega)
   have f3:=H1.free (i*5+3) (by omega)
   have f4:=H1.free (i*5+4) (by omega)
   have hz1:=hw1.size
   have hl:=HH.out.lt
   simp only [<-Nat.add_assoc] at f1 f2 f3 f4
   clear H1
   go_wp2_with fail
   go_region
   go_wp2
   go_ret
   have hP:=HH.out.put_drew hw1 i hi (some ⟨k,v⟩)
   exact ⟨rfl,hP.1,hP.2⟩
  ·rw [show putC C k v=none by unfold putC;rw [h1];simp only;rw [h5]]
   rw [h2] at HF
   rw [h6] at HE
   clear h1 h2 h5 h6 H
   unfold kyV at *
   go_enter Tryz.func133,Tryz.ntmps133
   go_wp2_with fail
   refine (HF.out _ (HH.out.below (by go_grown))).mono ?_
   rintro e w2 ⟨rfl,hb2⟩
   have hw2:Below w.heap.size w w2:=Below.trans (by go_grown) (hb2.mono (by go_size))
   clear hb2
   go_wp2_with fail
   refine (HE.out _ (HH.out.below hw2)).mono ?_
   rintro e w1 ⟨rfl,hb1⟩
   have hw1:=hw2.trans (hb1.mono hw2.size)
   have hl:=HH.out.lt
   clear hb1
   go_wp2
   go_ret
   exact ⟨rfl,HH.out.below hw1,Turn.of_below hl hw1⟩
end
section
open Go Go.RowKit Go.Sort
section
variable {P:Program} {ops:Array Oper} {md:Region.Mode} {C:World->Prop} {Q:Exit->Act->World->Prop} {S:World->Prop} {pre:Nat->Bool}
def Zw5 (o:Oper):Bool:=
 Zsb o||match o.op with
 | .build _ _=>true
 | _=>false
theorem Znp {o:Oper} (hs:Zw5 o=true) {a:Act} {w:World} {v:Value} (h:Oper.quietUpon P C w v ((execOp a.eval o).run P w)):(execOp a.eval o).run P w = .ok (.value v) w:=by
 unfold Zw5 at hs
 rw [Bool.or_eq_true] at hs
 rcases hs with hs | hs
 ·exact Zjn hs h
 have key:∀n w',(execOp a.eval o).run P w = .ok n w'->∃u,n = .value u:=by
  intro n w' hr
  unfold execOp at hr
  split at hs
  ·rename_i he
   simp only [he] at hr
   exact Zhp _ w n w' hr
  ·cases hs
 generalize (execOp a.eval o).run P w=r at h key
 cases r with
 | ok n w'=>
  obtain ⟨u,rfl⟩:=key n w' rfl
  obtain ⟨rfl,rfl⟩:=h
  rfl
 | halt x w'=>exact h.elim
def takeD (md:Region.Mode) (ops:Array Oper) (ok:Nat->Bool) (F:Array Bool->Bool):List Nat->Array Bool->Bool
 | [],listed=>F listed
 | i::t,listed=>(Region.ready md ops listed).contains i&&Region.free md ops listed i&&ok i&&((ops[i]?).map Zw5).getD false&&takeD md ops ok F t (listed.setIfInBounds i true)
theorem Zbj {T:World->Prop} {F:Array Bool->Bool} {ok:Nat->Bool} {Lq:Act->Prop} {g:Nat} {w:World} (hsel:Region.noSelect ops=true) (hQ:∀c a w,Q (.panic c) a w->False) (hST:∀w,S w->T w) (hok:∀i,ok i=true->(Zit md ops pre i=true\/∀w,T w)) (hS:S w)
 (hL:∀listed a,F listed=true->HeadInv md ops ops.size listed->Lq a->anyP P md ops Q S pre g listed a w) :
 ∀(t:List Nat) (listed:Array Bool) (a:Act),takeD md ops ok F t listed=true->HeadInv md ops ops.size listed->wpQuiet P ops T Lq (Zah ops t) a->anyP P md ops Q S pre (t.length+g) listed a w
 | [],listed,a,hB,inv,h=>by rw [List.length_nil,Nat.zero_add];exact hL listed a hB inv h
 | i::t,listed,a,hB,inv,h=>by
  simp only [takeD,Bool.and_eq_true] at hB
  obtain ⟨⟨⟨⟨hr,hf⟩,ho⟩,hst⟩,hB'⟩:=hB
  have hr':i∈Region.ready md ops listed:=by simpa using hr
  obtain ⟨_,oi,hoi,_⟩:=mem_ready.1 hr'
  rw [hoi] at hst
  simp only [Option.map_some,Option.getD_some] at hst
  have hp:Zah ops (i::t)=oi::Zah ops t:=by unfold Zah;rw [List.filterMap_cons,hoi]
  rw [hp] at h
  have hq:qOp P ops T i (wpQuiet P ops T Lq (Zah ops t)) a:=by unfold qOp;simp only [hoi];exact h
  obtain ⟨v,hy,hK⟩:=yieldsIn_of_qOp hoi hq
  have hy':YieldsIf P ops T oi v a:=hy.imp (fun ⟨hw,hv⟩=>⟨hw,fun w hw2=>Znp hst (hv w hw2)⟩) id
  rw [List.length_cons,show t.length+1+g=(t.length+g)+1 by omega]
  exact Zlv hoi (Region.noSelect_spec hsel) hQ hST (fun j l1 inv1 hun hj hne=>(hok i ho).imp (fun hl=>Zle hl j l1 inv1 hun hj hne) id) _ listed a w inv (Region.free_spec hoi hf) hr' hy' (.inl hS)
   (Zbj hsel hQ hST hok hS hL t _ _ hB' (Zj5 inv hr') hK)
def oneB (ops:Array Oper) (tA tB tl:List Nat):Bool:=
 decide (ops.size=tA.length+(tB.length+tl.length)) &&
 takeD .any ops (fun _=>true) (fun l1=>takeD .any ops (fun i=>Zit .any ops (fun j => !tl.contains j) i) (fun l2=>Zkn .any ops tl l2) tB l1) tA (Array.replicate ops.size false)
theorem Zfc {id:Nat} {a:Act} {w:World} {l:List Oper} (tA tB tl:List Nat) (hm:P.follows .mixedOrders=true) (hQ:∀c a w,Q (.panic c) a w->False) (hsel:Region.noSelect l.toArray=true) (hB:oneB l.toArray tA tB tl=true)
 (h:wpQuiet P l.toArray (fun _=>True) (fun a1=>wpQuiet P l.toArray (fun w'=>∃p:Regrown,w'=grow (redrawn w p.d) p.os) (fun a2=>∀w',Below w.heap.size w w'->wpList P l.toArray Q (Zah l.toArray tl) a2 w') (Zah l.toArray tB) a1) (Zah l.toArray tA) a) :
 (Code.region id l.toArray true).wp P Q a w:=by
 generalize l.toArray=ops at *
 simp only [oneB,Bool.and_eq_true,decide_eq_true_eq] at hB
 obtain ⟨hsz,hB⟩:=hB
 refine wp_region_any hm ?_
 have inv0:HeadInv .any ops ops.size (Array.replicate ops.size false):=
  ⟨by simp,fun j oj _ hl=>(by rw [getD_replicate_false] at hl;cases hl),fun t h1 h2=>absurd h2 (by omega)⟩
 have hS0:Rg w { w with drawn:=w.drawn+1 }:=⟨⟨w.drawn+1,#[]⟩,by rw [grow_empty];rfl⟩
 have pre2:∀i∈tl,(!tl.contains i)=false:=fun i hi=>by simp [hi]
 refine Zbs (S:=Rg w) (pre:=fun j => !tl.contains j) _ _ _ _ ?_
 suffices hh:anyP P .any ops Q (Rg w) (fun j => !tl.contains j) (tA.length+(tB.length+tl.length)) (Array.replicate ops.size false) a { w with drawn:=w.drawn+1 } by
  rw [<-hsz] at hh
  exact hh
 refine Zbj (T:=fun _=>True) hsel hQ (fun _ _=>trivial) (fun _ _ => .inr (fun _=>trivial)) hS0 (fun l1 a1 hF1 inv1 h1 => ?_) tA _ a hB inv0 h
 refine Zbj (T:=fun w'=>∃p:Regrown,w'=grow (redrawn w p.d) p.os) hsel hQ (fun _ h=>h) (fun i hi => .inl hi) hS0 (fun l2 a2 hF2 inv2 h2 => ?_) tB l1 a1 hF1 inv1 h1
 have hb0:Below w.heap.size w { w with drawn:=w.drawn+1 }:=⟨rfl,rfl,rfl,Nat.le_refl _,fun _ _=>rfl⟩
 exact Zdz tl _ a2 _ pre2 hF2 (h2 _ hb0)
end
section
variable {P:Program} {ops:Array Oper} {md:Region.Mode} {C:World->Prop} {Q:Exit->Act->World->Prop} {S:World->Prop} {pre:Nat->Bool}
def Zfn (ops:Array Oper) (tl:List Nat):List Nat->Array Bool->Bool
 | [],listed=>Zkn .any ops tl listed
 | x::xs,listed=>decide (Region.ready .any ops listed=[x])&&(ops[x]?).isSome&&Zfn ops tl xs (listed.setIfInBounds x true)
def rowB (ops:Array Oper) (tA tB xs tl:List Nat):Bool:=
 decide (ops.size=tA.length+(tB.length+(xs.length+tl.length))) &&
 takeD .any ops (fun _=>true) (fun l1=>takeD .any ops (fun i=>Zit .any ops (fun j => !tl.contains j) i) (fun l2=>Zfn ops tl xs l2) tB l1) tA (Array.replicate ops.size false)
end
section
variable {P:Program} {ops:Array Oper} {Q:Exit->Act->World->Prop} {S:World->Prop} {pre:Nat->Bool}
def dstN (ops:Array Oper) (i:Nat):Option Tmp:=(ops[i]?).bind (·.dst)
def Zbo (ops:Array Oper) (vals:Nat->Value):List Nat->Act->Act
 | [],a=>a
 | j::L,a=>Zbo ops vals L (a.put (dstN ops j) (vals j))
theorem Zic (vals:Nat->Value) (i:Nat):∀(L:List Nat) (a:Act),Zbo ops vals (L++[i]) a=(Zbo ops vals L a).put (dstN ops i) (vals i)
 | [],_=>rfl
 | j::L,a=>by rw [List.cons_append,Zbo,Zic vals i L];rfl
theorem Zsl (a:Act) (d:Option Tmp) (v:Value):(a.put d v).tmps.size=a.tmps.size:=by
 cases d with
 | none=>rfl
 | some d=>simp [Act.put]
theorem Zid (vals:Nat->Value):∀(L:List Nat) (a:Act),(Zbo ops vals L a).tmps.size=a.tmps.size
 | [],_=>rfl
 | j::L,a=>by rw [Zbo,Zid vals L,Zsl]
theorem Zgl {u v:Nat->Value}:∀(L:List Nat) (a:Act),(∀j∈L,u j=v j)->Zbo ops u L a=Zbo ops v L a
 | [],_,_=>rfl
 | j::L,a,h=>by rw [Zbo,Zbo,h j List.mem_cons_self,Zgl L _ fun k hk=>h k (List.mem_cons_of_mem _ hk)]
theorem put_comm (a:Act) (d e:Tmp) (u v:Value) (h:d≠e):(a.put (some d) u).put (some e) v=(a.put (some e) v).put (some d) u:=by
 simp only [Act.put]
 rw [Array.setIfInBounds_comm _ _ h]
theorem Zly (vals:Nat->Value) (hd:∀i j d,dstN ops i=some d->dstN ops j=some d->i=j) {L M:List Nat} (h:L.Perm M):∀a:Act,Zbo ops vals L a=Zbo ops vals M a:=by
 induction h with
 | nil=>intro a;rfl
 | cons x _ ih=>intro a;exact ih _
 | swap x y l=>
  intro a
  show Zbo ops vals l ((a.put (dstN ops y) (vals y)).put (dstN ops x) (vals x))=Zbo ops vals l ((a.put (dstN ops x) (vals x)).put (dstN ops y) (vals y))
  by_cases hxy:x=y
  ·subst hxy;rfl
  ·congr 1
   cases hx:dstN ops x with
   | none=>rfl
   | some d=>
    cases hy:dstN ops y with
    | none=>rfl
    | some e=>exact put_comm a e d _ _ (fun h=>hxy (hd x y d hx (by rw [hy,h])))
 | trans _ _ ih1 ih2=>intro a;rw [ih1,ih2]
theorem eval_put_same (a:Act) (d:Tmp) (v:Value) (h:d<a.tmps.size):(a.put (some d) v).eval (.tmp d)=v:=by
 simp [Act.put,Act.eval,Array.getD_eq_getD_getElem?,h]
theorem Zd0 (vals:Nat->Value) (x:Operand):∀(L:List Nat) (a:Act),(∀j∈L,∀d,dstN ops j=some d->x ≠ .tmp d)->(Zbo ops vals L a).eval x=a.eval x
 | [],_,_=>rfl
 | j::L,a,h=>by
  rw [Zbo,Zd0 vals x L _ fun k hk=>h k (List.mem_cons_of_mem _ hk)]
  exact Act.eval_put fun d hd=>h j List.mem_cons_self d hd
theorem Zhl (vals:Nat->Value) (hd:∀i j d,dstN ops i=some d->dstN ops j=some d->i=j) (i:Nat) (d:Tmp) (hi:dstN ops i=some d):∀(L:List Nat) (a:Act),i∈L->d<a.tmps.size->(Zbo ops vals L a).eval (.tmp d)=vals i
 | j::L,a,h,hs=>by
  rw [Zbo]
  by_cases hL:i∈L
  ·exact Zhl vals hd i d hi L _ hL (by rw [Zsl];exact hs)
  ·have hj:i=j:=by
    rcases List.mem_cons.1 h with h | h
    ·exact h
    ·exact absurd h hL
   subst hj
   rw [Zd0 vals (.tmp d) L _ (fun k hk e he heq=>by
    injection heq with heq
    subst heq
    exact hL (by rw [hd i k d hi he];exact hk)),hi]
   exact eval_put_same a d _ hs
def Zgi (ops:Array Oper) (R:List Nat) (i:Nat):List Nat:=R.filter fun j=>match dstN ops j,ops[i]? with
 | some d,some o=>(o.looksAt ops).contains d
 | _,_=>false
theorem Zxs {a:Act} {d:Tmp} {u v:Value} (hd:d<a.tmps.size) (h:a.put (some d) u=a.put (some d) v):u=v:=by
 have:=eval_put_same a d u hd
 rw [h,eval_put_same a d v hd] at this
 exact this.symm
theorem Zih (a:Act) (g:Nat):yielded ops a.tmps g=match dstN ops g with
 | some t=>(match a.eval (.tmp t) with | .bool b=>some b | _=>none)
 | none=>none:=by
 unfold yielded dstN
 cases (ops[g]?).bind (·.dst) with
 | none=>rfl
 | some t=>
  show (match a.tmps[t]? with | some (.bool b)=>some b | _=>none)=match a.tmps.getD t undef with | .bool b=>some b | _=>none
  rw [Array.getD_eq_getD_getElem?]
  cases a.tmps[t]? with
  | none=>rfl
  | some v=>cases v<;>rfl
theorem Znf {o:Oper} {a b:Act} (h:∀d∈o.looksAt ops,a.eval (.tmp d)=b.eval (.tmp d)):Region.wanted o (yielded ops a.tmps)=Region.wanted o (yielded ops b.tmps):=by
 unfold Region.wanted
 cases hg:o.guard with
 | none=>rfl
 | some gw=>
  obtain ⟨g,want⟩:=gw
  have hy:yielded ops a.tmps g=yielded ops b.tmps g:=by
   rw [Zih,Zih]
   cases hd:dstN ops g with
   | none=>rfl
   | some t=>
    simp only
    rw [h t (by
     unfold Oper.looksAt
     rw [hg]
     refine List.mem_append_right _ ?_
     show t∈((ops[g]?).bind (·.dst)).toList
     unfold dstN at hd
     rw [hd]
     simp)]
  simp only [hy]
theorem Zk9 {i:Nat} {o:Oper} {d:Tmp} {a b:Act} {w:World} {G:Value->World->Prop} (ho:ops[i]? = some o) (hsel:∀cs b,o.op ≠ .select cs b) (hd:o.dst=some d) (hdb:d<b.tmps.size)
 (hl:∀d∈o.looksAt ops,a.eval (.tmp d)=b.eval (.tmp d)) (hQ:∀c a w,Q (.panic c) a w->False) (h:Zkr P ops Q i (fun a3 w3=>∃v,a3=b.put o.dst v/\G v w3) b w):Zkr P ops Q i (fun a3 w3=>∃v,a3=a.put o.dst v/\G v w3) a w:=by
 intro o' ho'
 obtain rfl:o=o':=by rw [ho] at ho';injection ho'
 have h:=h o ho
 have he:∀x∈o.op.operands,a.eval x=b.eval x:=fun x hx=>by
  cases x with
  | tmp t=>exact hl t (List.mem_append_left _ (List.mem_filterMap.2 ⟨.tmp t,by simpa using hx,rfl⟩))
  | _=>rfl
 rw [Znf hl]
 by_cases hw:Region.wanted o (yielded ops b.tmps)=true
 case neg=>
  rw [if_neg hw] at h ⊢
  obtain ⟨u,h1,h2⟩:=h
  rw [hd] at h1 ⊢
  exact ⟨undef,rfl,by rw [Zxs hdb h1];exact h2⟩
 rw [if_pos hw] at h ⊢
 unfold Oper.wp at *
 rw [execOp_congr o hsel he]
 rw [hd] at h ⊢
 have inj:∀{u v:Value},b.put (some d) u=b.put (some d) v->u=v:=fun h=>Zxs hdb h
 generalize (execOp b.eval o).run P w=r at h
 cases r with
 | ok n w'=>
  cases n with
  | value v=>
   rw [Oper.upon_value] at h ⊢
   obtain ⟨u,h1,h2⟩:=h
   rw [hd] at h1 ⊢
   exact ⟨v,rfl,by rw [inj h1];exact h2⟩
  | skip=>
   rw [Oper.upon_skip] at h ⊢
   obtain ⟨u,h1,h2⟩:=h
   rw [hd] at h1 ⊢
   exact ⟨undef,rfl,by rw [inj h1];exact h2⟩
  | defer x=>
   rw [Oper.upon_defer] at h
   obtain ⟨u,h1,-⟩:=h
   exfalso
   rw [hd] at h1
   have:=congrArg (fun a:Act=>a.defers.length) h1
   simp [Act.put] at this
  | enter f args=>
   rw [Oper.upon_enter] at h ⊢
   refine h.mono ?_
   intro e w'' he
   cases e with
   | returned v=>
    obtain ⟨u,h1,h2⟩:=he
    rw [hd] at h1 ⊢
    exact ⟨v,rfl,by rw [inj h1];exact h2⟩
   | panicked c=>exact (hQ _ _ _ he).elim
   | outgrown=>exact he
  | row row args=>
   rw [Oper.upon_row] at h ⊢
   refine h.mono ?_
   intro v w'' he
   obtain ⟨u,h1,h2⟩:=he
   rw [hd] at h1 ⊢
   exact ⟨v,rfl,by rw [inj h1];exact h2⟩
  | _=>exact h.elim
 | halt x w'=>
  cases x with
  | panic v=>exact (hQ _ _ _ h).elim
  | _=>exact h.elim
def dstB (ops:Array Oper):Bool:=(List.range ops.size).all fun i=>(List.range ops.size).all fun j=>decide (i=j)||(dstN ops i).isNone||decide (dstN ops i≠dstN ops j)
theorem Zpg (h:dstB ops=true):∀i j d,dstN ops i=some d->dstN ops j=some d->i=j:=by
 intro i j d hi hj
 have lt:∀k,dstN ops k=some d->k<ops.size:=fun k hk=>by
  unfold dstN at hk
  by_cases h:k<ops.size
  ·exact h
  ·rw [Array.getElem?_eq_none (by omega)] at hk;cases hk
 simp only [dstB,List.all_eq_true,List.mem_range,Bool.or_eq_true,decide_eq_true_eq,Option.isNone_iff_eq_none] at h
 rcases h i (lt i hi) j (lt j hj) with (h | h) | h
 ·exact h
 ·rw [hi] at h;cases h
 ·exact absurd (hi.trans hj.symm) h
def okR (ops:Array Oper) (R:List Nat):Bool:=decide R.Nodup&&R.all fun i=>match ops[i]? with
 | some o=>o.dst.isSome
 | none=>false
def Zzl (ops:Array Oper) (R tl:List Nat):Nat->Array Bool->Bool
 | 0,listed=>R.all (fun i=>listed.getD i false)&&Zkn .any ops tl listed
 | f+1,listed => !(Region.ready .any ops listed).isEmpty&&(Region.ready .any ops listed).all fun i=>R.contains i&&(Zgi ops R i).all (fun j=>listed.getD j false)&&Zzl ops R tl f (listed.setIfInBounds i true)
structure Z4d (P:Program) (ops:Array Oper) (Q:Exit->Act->World->Prop) (w:World) (R tl:List Nat) (D:Nat->Value->World->Prop) (a:Act):Prop where
 size:∀i∈R,∀d,dstN ops i=some d->d<a.tmps.size
 step:∀i∈R,∀(vals:Nat->Value) (W:World),Below w.heap.size w W->(∀j∈Zgi ops R i,D j (vals j) W)->∀K:Act->World->Prop,
  (∀v W',Below W.heap.size W W'->D i v W'->K ((Zbo ops vals (Zgi ops R i) a).put (dstN ops i) v) W')->Zkr P ops Q i K (Zbo ops vals (Zgi ops R i) a) W
 last:∀(vals:Nat->Value) (W:World),Below w.heap.size w W->(∀j∈R,D j (vals j) W)->wpList P ops Q (Zah ops tl) (Zbo ops vals R a) W
theorem Z0o {w:World} {R tl:List Nat} {D:Nat->Value->World->Prop} {a0:Act} (hsel:Region.noSelect ops=true) (hQ:∀c a w,Q (.panic c) a w->False) (hd:∀i j d,dstN ops i=some d->dstN ops j=some d->i=j)
 (hR:okR ops R=true) (pre2:∀i∈tl,pre i=false) (rgb:∀{w'},Below w.heap.size w w'->S w') (hst:∀i v W W',Below W.heap.size W W'->D i v W->D i v W') (hF:Z4d P ops Q w R tl D a0) :
 ∀(f:Nat) (done:List Nat) (vals:Nat->Value) (listed:Array Bool) (W:World),R.length=done.length+f->done.Nodup->(∀j∈done,j∈R)->HeadInv .any ops ops.size listed->(∀j∈R,listed.getD j false=true->j∈done)->(∀j∈done,listed.getD j false=true) ->
  Below w.heap.size w W->(∀j∈done,D j (vals j) W)->Zzl ops R tl f listed=true->anyP P .any ops Q S pre (f+tl.length) listed (Zbo ops vals done a0) W:=by
 have hRn:R.Nodup:=by
  simp only [okR,Bool.and_eq_true,decide_eq_true_eq] at hR
  exact hR.1
 have hRo:∀i∈R,∃o d,ops[i]? = some o/\o.dst=some d:=by
  intro i hi
  simp only [okR,Bool.and_eq_true,List.all_eq_true] at hR
  have:=hR.2 i hi
  cases ho:ops[i]? with
  | none=>rw [ho] at this;cases this
  | some o=>
   rw [ho] at this
   obtain ⟨d,hdd⟩:=Option.isSome_iff_exists.1 this
   exact ⟨o,d,rfl,hdd⟩
 intro f
 induction f with
 | zero=>
  intro done vals listed W hlen hnd hin inv hall hdl hb hD hB
  simp only [Zzl,Bool.and_eq_true,List.all_eq_true] at hB
  have hp:done.Perm R:=(List.perm_ext_iff_of_nodup hnd hRn).2 fun j=>⟨hin j,fun hj=>hall j hj (hB.1 j hj)⟩
  rw [Nat.zero_add,Zly vals hd hp a0]
  exact Zdz tl listed _ W pre2 hB.2 (hF.last vals W hb fun j hj=>hD j (hp.mem_iff.2 hj))
 | succ f ih=>
  intro done vals listed W hlen hnd hin inv hall hdl hb hD hB
  simp only [Zzl,Bool.and_eq_true,List.all_eq_true,Bool.not_eq_true',List.isEmpty_eq_false_iff] at hB
  rw [show f+1+tl.length=(f+tl.length)+1 by omega]
  refine ⟨fun h1=>absurd h1 hB.1,fun i hi => ?_⟩
  obtain ⟨⟨hiR,hdep⟩,hBn⟩:=hB.2 i hi
  have hiR:i∈R:=by simpa using hiR
  obtain ⟨o,d,ho,hdst⟩:=hRo i hiR
  have hdn:dstN ops i=some d:=by simp [dstN,ho,hdst]
  have hun:=(mem_ready.1 hi).1
  have hil:i<listed.size:=by rw [inv.size];exact (Array.getElem?_eq_some_iff.1 ho).1
  have hind:i∉done:=fun h=>by
   have h1:=hdl i h
   rw [getD_both hun] at h1
   cases h1
  have hset:∀j,(listed.setIfInBounds i true).getD j false=if j=i then true else listed.getD j false:=fun j=>by
   simp only [Array.getD_eq_getD_getElem?,Array.getElem?_setIfInBounds]
   by_cases h:i=j
   ·subst h;simp [hil]
   ·rw [if_neg h,if_neg (fun e=>h e.symm)]
  have hdd:∀j∈Zgi ops R i,j∈done:=fun j hj=>hall j (List.mem_filter.1 hj).1 (by simpa using hdep j hj)
  have hstep:=hF.step i hiR vals W hb (fun j hj=>hD j (hdd j hj)) (fun a3 w3=>∃v,a3=(Zbo ops vals (Zgi ops R i) a0).put o.dst v/\(Below W.heap.size W w3/\D i v w3)) (fun v W' h1 h2=>⟨v,by rw [hdn,hdst],h1,h2⟩)
  have he:∀x∈o.looksAt ops,(Zbo ops vals done a0).eval (.tmp x)=(Zbo ops vals (Zgi ops R i) a0).eval (.tmp x):=by
   intro x hx
   by_cases hex:∃j∈done,dstN ops j=some x
   ·obtain ⟨j,hj,hk⟩:=hex
    have hjR:=hin j hj
    have hsz:=hF.size j hjR x hk
    have hjd:j∈Zgi ops R i:=by
     refine List.mem_filter.2 ⟨hjR,?_⟩
     simp only [hk,ho]
     rw [List.contains_iff_mem]
     exact hx
    rw [Zhl vals hd j x hk done a0 hj hsz,Zhl vals hd j x hk _ a0 hjd hsz]
   ·rw [Zd0 vals (.tmp x) done a0 (fun j hj k hk e=>hex ⟨j,hj,by injection e with e;rw [e];exact hk⟩),Zd0 vals (.tmp x) _ a0 (fun j hj k hk e=>hex ⟨j,hdd j hj,by injection e with e;rw [e];exact hk⟩)]
  have hsw:=Zk9 (a:=Zbo ops vals done a0) ho (fun cs b=>Region.noSelect_spec hsel i o cs b ho) hdst (by rw [Zid];exact hF.size i hiR d hdn) he hQ hstep
  refine wpOp_mono ?_ (hsw.wpOp (by rw [ho];rfl))
  rintro a3 w3 ⟨v,rfl,hb1,hDv⟩
  have hb3:=hb.trans (hb1.mono hb.size)
  refine ⟨fun _ _=>rgb hb3,?_⟩
  have hact:(Zbo ops vals done a0).put o.dst v=Zbo ops (fun j=>if j=i then v else vals j) (done++[i]) a0:=by
   rw [Zic,if_pos rfl,hdn,hdst,Zgl (u:=fun j=>if j=i then v else vals j) (v:=vals) done a0 fun j hj=>by
    have hne:j≠i:=fun e=>hind (by rw [<-e];exact hj)
    exact if_neg hne]
  rw [hact]
  refine ih (done++[i]) _ _ w3 (by rw [List.length_append];simp;omega) ?_ ?_ (Zj5 inv hi) ?_ ?_ hb3 ?_ hBn
  ·rw [List.nodup_append]
   exact ⟨hnd,by simp,fun x hx y hy e=>hind (by simp at hy;rw [<-hy,<-e];exact hx)⟩
  ·intro j hj
   rcases List.mem_append.1 hj with h | h
   ·exact hin j h
   ·simp at h;rw [h];exact hiR
  ·intro j hj h
   rw [hset] at h
   by_cases e:j=i
   ·rw [e];simp
   ·rw [if_neg e] at h
    exact List.mem_append_left _ (hall j hj h)
  ·intro j hj
   rw [hset]
   rcases List.mem_append.1 hj with h | h
   ·by_cases e:j=i
    ·rw [if_pos e]
    ·rw [if_neg e];exact hdl j h
   ·simp at h;rw [if_pos h]
  ·intro j hj
   by_cases e:j=i
   ·subst e;simp only [if_pos];exact hDv
   ·simp only [if_neg e]
    rcases List.mem_append.1 hj with h | h
    ·exact hst _ _ _ _ hb1 (hD j h)
    ·simp at h;exact absurd h e
def allB (ops:Array Oper) (tA tB R tl:List Nat):Bool:=
 decide (ops.size=tA.length+(tB.length+(R.length+tl.length)))&&dstB ops&&okR ops R &&
 takeD .any ops (fun _=>true) (fun l1=>takeD .any ops (fun i=>Zit .any ops (fun j => !tl.contains j) i) (fun l2=>R.all (fun i => !l2.getD i false)&&Zzl ops R tl R.length l2) tB l1) tA (Array.replicate ops.size false)
theorem Zqq {id:Nat} {a:Act} {w:World} {l:List Oper} (tA tB R tl:List Nat) (D:Nat->Value->World->Prop) (hst:∀i v W W',Below W.heap.size W W'->D i v W->D i v W') (hm:P.follows .mixedOrders=true) (hQ:∀c a w,Q (.panic c) a w->False) (hsel:Region.noSelect l.toArray=true) (hB:allB l.toArray tA tB R tl=true)
 (h:wpQuiet P l.toArray (fun _=>True) (fun a1=>wpQuiet P l.toArray (fun w'=>∃p:Regrown,w'=grow (redrawn w p.d) p.os) (fun a2=>Z4d P l.toArray Q w R tl D a2) (Zah l.toArray tB) a1) (Zah l.toArray tA) a) :
 (Code.region id l.toArray true).wp P Q a w:=by
 generalize l.toArray=ops at *
 simp only [allB,Bool.and_eq_true,decide_eq_true_eq] at hB
 obtain ⟨⟨⟨hsz,hds⟩,hok⟩,hB⟩:=hB
 refine wp_region_any hm ?_
 have inv0:HeadInv .any ops ops.size (Array.replicate ops.size false):=
  ⟨by simp,fun j oj _ hl=>(by rw [getD_replicate_false] at hl;cases hl),fun t h1 h2=>absurd h2 (by omega)⟩
 have hS0:Rg w { w with drawn:=w.drawn+1 }:=⟨⟨w.drawn+1,#[]⟩,by rw [grow_empty];rfl⟩
 have pre2:∀i∈tl,(!tl.contains i)=false:=fun i hi=>by simp [hi]
 refine Zbs (S:=Rg w) (pre:=fun j => !tl.contains j) _ _ _ _ ?_
 suffices hh:anyP P .any ops Q (Rg w) (fun j => !tl.contains j) (tA.length+(tB.length+(R.length+tl.length))) (Array.replicate ops.size false) a { w with drawn:=w.drawn+1 } by
  rw [<-hsz] at hh
  exact hh
 refine Zbj (T:=fun _=>True) hsel hQ (fun _ _=>trivial) (fun _ _ => .inr (fun _=>trivial)) hS0 (fun l1 a1 hF1 inv1 h1 => ?_) tA _ a hB inv0 h
 refine Zbj (T:=fun w'=>∃p:Regrown,w'=grow (redrawn w p.d) p.os) hsel hQ (fun _ h=>h) (fun i hi => .inl hi) hS0 (fun l2 a2 hF2 inv2 h2 => ?_) tB l1 a1 hF1 inv1 h1
 have hb0:Below w.heap.size w { w with drawn:=w.drawn+1 }:=⟨rfl,rfl,rfl,Nat.le_refl _,fun _ _=>rfl⟩
 simp only [Bool.and_eq_true,List.all_eq_true,Bool.not_eq_true'] at hF2
 exact Z0o hsel hQ (Zpg hds) hok pre2 (fun h=>regrown_of_below h) hst h2 R.length [] (fun _=>undef) l2 _ (by simp) List.nodup_nil (fun j hj=>by cases hj) inv2 (fun j hj hl=>by rw [hF2.1 j hj] at hl;cases hl) (fun j hj=>by cases hj) hb0 (fun j hj=>by cases hj) hF2.2
def Zv6 (D:Nat->Value->World->Prop) (W:World):List (Nat×Tmp)->Act->(Act->Prop)->Prop
 | [],a,F=>F a
 | p::L,a,F=>∀v,D p.1 v W->Zv6 D W L (a.put (some p.2) v) F
abbrev Eff:=Nat×Tmp×List (Nat×Tmp)
def Zsc (P:Program) (ops:Array Oper) (Q:Exit->Act->World->Prop) (w:World) (D:Nat->Value->World->Prop) (a:Act):List Eff->Prop
 | []=>True
 | p::E=>(∀W,Below w.heap.size w W->Zv6 D W p.2.2 a fun b=>∀K:Act->World->Prop,(∀v W',Below W.heap.size W W'->D p.1 v W'->K (b.put (some p.2.1) v) W')->Zkr P ops Q p.1 K b W)/\Zsc P ops Q w D a E
def effB (ops:Array Oper) (E:List Eff):Bool:=E.all fun p=>decide (dstN ops p.1=some p.2.1)&&decide (Zgi ops (E.map (·.1)) p.1=p.2.2.map (·.1))&&p.2.2.all fun q=>decide (dstN ops q.1=some q.2)
theorem Ze2 {D:Nat->Value->World->Prop} {W:World} {F:Act->Prop} (vals:Nat->Value):∀(L:List (Nat×Tmp)) (a:Act),(∀q∈L,dstN ops q.1=some q.2)->Zv6 D W L a F->(∀j∈L.map (·.1),D j (vals j) W)->F (Zbo ops vals (L.map (·.1)) a)
 | [],_,_,h,_=>h
 | p::L,a,hL,h,hD=>by
  rw [List.map_cons,Zbo,hL p List.mem_cons_self]
  exact Ze2 vals L _ (fun q hq=>hL q (List.mem_cons_of_mem _ hq)) (h _ (hD p.1 (by simp))) (fun j hj=>hD j (by rw [List.map_cons];exact List.mem_cons_of_mem _ hj))
theorem Zht {w:World} {D:Nat->Value->World->Prop} {a:Act}:∀(E:List Eff),Zsc P ops Q w D a E->∀p∈E,∀W,Below w.heap.size w W->Zv6 D W p.2.2 a fun b=>∀K:Act->World->Prop,(∀v W',Below W.heap.size W W'->D p.1 v W'->K (b.put (some p.2.1) v) W')->Zkr P ops Q p.1 K b W
 | [],_,p,hp=>by cases hp
 | q::E,h,p,hp=>by
  rcases List.mem_cons.1 hp with e | hp
  ·subst e;exact h.1
  ·exact Zht E h.2 p hp
theorem Zhy {id:Nat} {a:Act} {w:World} {l:List Oper} (tA tB:List Nat) (E:List Eff) (tl:List Nat) (D:Nat->Value->World->Prop) (hst:∀i v W W',Below W.heap.size W W'->D i v W->D i v W') (hm:P.follows .mixedOrders=true) (hQ:∀c a w,Q (.panic c) a w->False) (hsel:Region.noSelect l.toArray=true)
 (hB:allB l.toArray tA tB (E.map (·.1)) tl=true) (hE:effB l.toArray E=true)
 (h:wpQuiet P l.toArray (fun _=>True) (fun a1=>wpQuiet P l.toArray (fun w'=>∃p:Regrown,w'=grow (redrawn w p.d) p.os) (fun a2=>(E.all fun p=>decide (p.2.1<a2.tmps.size))=true/\Zsc P l.toArray Q w D a2 E /\
  ∀W,Below w.heap.size w W->Zv6 D W (E.map fun p=>(p.1,p.2.1)) a2 fun b=>wpList P l.toArray Q (Zah l.toArray tl) b W) (Zah l.toArray tB) a1) (Zah l.toArray tA) a) :
 (Code.region id l.toArray true).wp P Q a w:=by
 refine Zqq tA tB (E.map (·.1)) tl D hst hm hQ hsel hB (Zb6 (fun a1 h1=>Zb6 (fun a2 h2 => ?_) _ _ h1) _ _ h)
 obtain ⟨hs,hsteps,hlast⟩:=h2
 simp only [effB,List.all_eq_true,Bool.and_eq_true,decide_eq_true_eq] at hE
 have hmap:(E.map fun p=>(p.1,p.2.1)).map (·.1)=E.map (·.1):=by rw [List.map_map];rfl
 refine ⟨fun i hi d hd => ?_,fun i hi vals W hW hD => ?_,fun vals W hW hD => ?_⟩
 ·obtain ⟨p,hp,rfl⟩:=List.mem_map.1 hi
  have h1:=(hE p hp).1.1
  rw [h1] at hd
  injection hd with hd
  subst hd
  simp only [List.all_eq_true,decide_eq_true_eq] at hs
  exact hs p hp
 ·obtain ⟨p,hp,rfl⟩:=List.mem_map.1 hi
  have he:=hE p hp
  rw [he.1.2] at hD ⊢
  rw [he.1.1]
  exact Ze2 vals p.2.2 a2 he.2 (Zht E hsteps p hp W hW) hD
 ·have:=Ze2 (ops:=l.toArray) vals (E.map fun p=>(p.1,p.2.1)) a2 (fun q hq=>by
   obtain ⟨p,hp,rfl⟩:=List.mem_map.1 hq
   exact (hE p hp).1.1) (hlast W hW) (by rw [hmap];exact hD)
  rwa [hmap] at this
end
end
end Go.Proofs.YtgfjmgebecmbiaaGreat

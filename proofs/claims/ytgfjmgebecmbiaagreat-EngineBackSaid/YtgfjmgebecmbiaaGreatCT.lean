/-
  A table of buckets in memory: its struct, its row of buckets, its stash; what is kept of it while others are written, and what it is where one of its buckets is written. No condition but those that stand in each.
-/
import Derived.Test.YtgfjmgebecmbiaaGreatM4
import Derived.Test.YtgfjmgebecmbiaaGreatM12
import Derived.Handy
import Derived.Deep.MidRow
import Derived.Test.YtgfjmgebecmbiaaGreatM12f
import Derived.Test.YtgfjmgebecmbiaaGreatM12d
set_option linter.unusedSimpArgs false
set_option linter.unusedVariables false
namespace Go.Proofs.YtgfjmgebecmbiaaGreat
open Go.RowKit Go.Sort M
def kyV (k:Ky):Value := .agg #[.int .u64 (k.h:Int),.int .u64 (k.l:Int),.int .i64 k.n]
def x5 (x:Pl):List Value:=[.int .u64 (xh x:Int),.int .u64 (xl x:Int),.int .i64 (xn x),.int .i64 (xv x),.bool x.isSome]
structure Bkt (w:World) (g o:Nat) (C:List Pl):Prop where
 four:C.length=4
 lt:g<w.heap.size
 cell:∀(i:Nat) (hi:i<C.length) (j:Nat) (u:Value),(x5 C[i])[j]? = some u->w.cell? ⟨g,o+i*5+j,none⟩=some u
 free:∀j,j<20->w.frozen? ⟨g,o+j,none⟩=false
structure Turn (w w':World) (g o n:Nat):Prop where
 grown:w.grownBy w' (some g)
 cell:∀x,x<o\/o+n<=x->w'.cell? ⟨g,x,none⟩=w.cell? ⟨g,x,none⟩
 frozen:∀x,w'.frozen? ⟨g,x,none⟩=w.frozen? ⟨g,x,none⟩
theorem Turn.of_below {w w':World} {g o n:Nat} (hg:g<w.heap.size) (hb:Below w.heap.size w w'):Turn w w' g o n:=
 ⟨⟨hb.os,hb.tape,hb.output,hb.size,fun k hk _=>hb.block k hk⟩,fun x _=>hb.cell (p:=⟨g,x,none⟩) hg,fun x=>hb.frozen (p:=⟨g,x,none⟩) hg⟩
theorem Turn.trans {a b c:World} {g o n:Nat} (h:Turn a b g o n) (k:Turn b c g o n):Turn a c g o n:=
 ⟨h.grown.trans k.grown,fun x hx=>(k.cell x hx).trans (h.cell x hx),fun x=>(k.frozen x).trans (h.frozen x)⟩
theorem Bkt.below {w w':World} {g o:Nat} {C:List Pl} (H:Bkt w g o C) (hb:Below w.heap.size w w'):Bkt w' g o C:=
 ⟨H.four,Nat.lt_of_lt_of_le H.lt hb.size,fun i hi j u hu=>(hb.cell (p:=⟨g,o+i*5+j,none⟩) H.lt).trans (H.cell i hi j u hu),fun j hj=>(hb.frozen (p:=⟨g,o+j,none⟩) H.lt).trans (H.free j hj)⟩
theorem Bkt.kept {w w':World} {g o g' o' n:Nat} {C:List Pl} (H:Bkt w g o C) (h:Turn w w' g' o' n) (hne:g≠g'\/o+20<=o'\/o'+n<=o):Bkt w' g o C:=by
 have hc:∀x,x<20->w'.cell? ⟨g,o+x,none⟩=w.cell? ⟨g,o+x,none⟩/\w'.frozen? ⟨g,o+x,none⟩=w.frozen? ⟨g,o+x,none⟩:=by
  intro x hx
  by_cases e:g=g'
  ·subst e
   exact ⟨h.cell _ (by omega),h.frozen _⟩
  ·have hb:=h.grown.block g H.lt (by simpa using e)
   exact ⟨World.cell?_of_block hb,by unfold World.frozen?;rw [hb]⟩
 have h4:=H.four
 refine ⟨H.four,Nat.lt_of_lt_of_le H.lt h.grown.size,fun i hi j u hu => ?_,fun j hj=>(hc j hj).2.trans (H.free j hj)⟩
 have hj:j<5:=(List.getElem?_eq_some_iff.1 hu).1
 rw [Nat.add_assoc,(hc (i*5+j) (by omega)).1,<-Nat.add_assoc]
 exact H.cell i hi j u hu
theorem Bkt.at {w:World} {g o:Nat} {C:List Pl} (H:Bkt w g o C) (i:Nat) (hi:i<C.length) :
 w.cell? ⟨g,o+i*5,none⟩=some (.int .u64 (xh C[i]:Int))/\w.cell? ⟨g,o+i*5+1,none⟩=some (.int .u64 (xl C[i]:Int))/\w.cell? ⟨g,o+i*5+2,none⟩=some (.int .i64 (xn C[i]))/\w.cell? ⟨g,o+i*5+3,none⟩=some (.int .i64 (xv C[i]))/\w.cell? ⟨g,o+i*5+4,none⟩=some (.bool C[i].isSome):=
 ⟨H.cell i hi 0 _ rfl,H.cell i hi 1 _ rfl,H.cell i hi 2 _ rfl,H.cell i hi 3 _ rfl,H.cell i hi 4 _ rfl⟩
theorem turn_one (w:World) (g o n x:Nat) (u:Value) (h1:o<=x) (h2:x<o+n):Turn w (w.setCell ⟨g,x,none⟩ u) g o n:=by
 refine ⟨⟨rfl,rfl,rfl,by rw [World.size_setCell];exact Nat.le_refl _,fun k hk hn=>Below.heap_setCell w ⟨g,x,none⟩ u k (by simpa using hn)⟩,fun y hy => ?_,fun y => ?_⟩
 ·rw [World.cell?_setCell_other]
  intro e
  injection e with e1 e2
  omega
 ·rw [World.frozen?_setCell]
theorem Turn.mono {w w':World} {g o n o' n':Nat} (h:Turn w w' g o n) (h1:o'<=o) (h2:o+n<=o'+n'):Turn w w' g o' n':=⟨h.grown,fun x hx=>h.cell x (by omega),h.frozen⟩
def put5 (w:World) (g p:Nat) (x:Pl):World:=
 ((((w.setCell ⟨g,p,none⟩ (.int .u64 (xh x:Int))).setCell ⟨g,p+1,none⟩ (.int .u64 (xl x:Int))).setCell ⟨g,p+2,none⟩ (.int .i64 (xn x))).setCell ⟨g,p+3,none⟩ (.int .i64 (xv x))).setCell ⟨g,p+4,none⟩ (.bool x.isSome)
theorem turn_put5 (w:World) (g p:Nat) (x:Pl):Turn w (put5 w g p x) g p 5:=
 ((((turn_one w g p 5 p _ (by omega) (by omega)).trans (turn_one _ g p 5 (p+1) _ (by omega) (by omega))).trans (turn_one _ g p 5 (p+2) _ (by omega) (by omega))).trans (turn_one _ g p 5 (p+3) _ (by omega) (by omega))).trans
   (turn_one _ g p 5 (p+4) _ (by omega) (by omega))
theorem put5_cell {w:World} {g p:Nat} (x:Pl) (hc:∀j,j<5->(w.cell? ⟨g,p+j,none⟩).isSome=true) (j:Nat) (u:Value) (hu:(x5 x)[j]? = some u):(put5 w g p x).cell? ⟨g,p+j,none⟩=some u:=by
 have h0:=hc 0 (by omega)
 have h1:=hc 1 (by omega)
 have h2:=hc 2 (by omega)
 have h3:=hc 3 (by omega)
 have h4:=hc 4 (by omega)
 rw [Nat.add_zero] at h0
 have hj:j<5:=(List.getElem?_eq_some_iff.1 hu).1
 unfold put5
 rcases (show j=0\/j=1\/j=2\/j=3\/j=4 by omega) with rfl | rfl | rfl | rfl | rfl<;>(simp only [x5,List.getElem?_cons_zero,List.getElem?_cons_succ,Option.some.injEq] at hu;subst hu;simp [go_sem,h0,h1,h2,h3,h4])
theorem Bkt.put {w:World} {g o:Nat} {C:List Pl} (H:Bkt w g o C) (i:Nat) (hi:i<C.length) (x:Pl):Bkt (put5 w g (o+i*5) x) g o (C.set i x)/\Turn w (put5 w g (o+i*5) x) g o 20:=by
 have h4:=H.four
 have ht:=turn_put5 w g (o+i*5) x
 refine ⟨⟨by simpa using h4,Nat.lt_of_lt_of_le H.lt ht.grown.size,fun k hk j u hu => ?_,fun j hj=>(ht.frozen _).trans (H.free j hj)⟩,ht.mono (by omega) (by omega)⟩
 rw [List.length_set] at hk
 have hj:j<5:=(List.getElem?_eq_some_iff.1 hu).1
 by_cases e:i=k
 ·subst e
  rw [List.getElem_set_self] at hu
  exact put5_cell x (fun j hj=>by rw [H.cell i hi j _ (List.getElem?_eq_getElem (by simpa [x5] using hj))];rfl) j u hu
 ·rw [List.getElem_set_ne e] at hu
  rw [ht.cell _ (by omega)]
  exact H.cell k hk j u hu
theorem Bkt.drew {w:World} {g o:Nat} {C:List Pl} (H:Bkt w g o C):Bkt w.drew g o C:=H.below (by go_grown)
theorem Turn.drew {w w':World} {g o n:Nat} (h:Turn w w' g o n) (hl:g<w.heap.size):Turn w w'.drew g o n:=h.trans (Turn.of_below (Nat.lt_of_lt_of_le hl h.grown.size) (by go_grown))
theorem Bkt.put_drew {w w1:World} {g o:Nat} {C:List Pl} (H:Bkt w g o C) (hb:Below w.heap.size w w1) (i:Nat) (hi:i<C.length) (x:Pl) :
 Bkt (put5 w1 g (o+i*5) x).drew g o (C.set i x)/\Turn w (put5 w1 g (o+i*5) x).drew g o 20:=by
 have hP:=(H.below hb).put i hi x
 exact ⟨hP.1.drew,((Turn.of_below H.lt hb).trans hP.2).drew H.lt⟩
theorem Turn.fresh {w w1:World} {g o n:Nat} (h:Turn w w1 g o n) (hl:g<w.heap.size) (b x:Nat) (u:Value) (hb:w.heap.size<=b):Turn w (w1.setCell ⟨b,x,none⟩ u) g o n:=by
 refine ⟨⟨h.grown.os,h.grown.tape,h.grown.output,by rw [World.size_setCell];exact h.grown.size,fun k hk hn=>(Below.heap_setCell w1 ⟨b,x,none⟩ u k (by simp;omega)).trans (h.grown.block k hk hn)⟩,fun y hy => ?_,fun y => ?_⟩
 ·rw [World.cell?_setCell_other]
  ·exact h.cell y hy
  ·intro e
   injection e with e1 e2
   omega
 ·rw [World.frozen?_setCell]
  exact h.frozen y
theorem Bkt.fresh {w1:World} {g o:Nat} {C:List Pl} (H:Bkt w1 g o C) (b x:Nat) (u:Value) (hb:g≠b):Bkt (w1.setCell ⟨b,x,none⟩ u) g o C:=H.kept (turn_one w1 b x 1 x u (Nat.le_refl _) (by omega)) (.inl hb)
theorem Turn.far {w w':World} {g o n b:Nat} (h:Turn w w' g o n) (hb:b<w.heap.size) (hne:b≠g) (x:Nat):w'.cell? ⟨b,x,none⟩=w.cell? ⟨b,x,none⟩/\w'.frozen? ⟨b,x,none⟩=w.frozen? ⟨b,x,none⟩:=by
 have hB:=h.grown.block b hb (by simpa using hne)
 exact ⟨World.cell?_of_block hB,by unfold World.frozen?;rw [hB]⟩
def bcs (C:List Pl):List Value:=C.flatMap x5
theorem bcs_at:∀(C:List Pl) (i:Nat) (hi:i<C.length) (j:Nat),j<5->(bcs C)[i*5+j]? = (x5 C[i])[j]?
 | x::C,0,_,j,hj=>by
  show (x5 x++bcs C)[0*5+j]? = _
  rw [List.getElem?_append_left (by simp [x5];omega)]
  simp
 | x::C,i+1,hi,j,hj=>by
  show (x5 x++bcs C)[(i+1)*5+j]? = _
  rw [List.getElem?_append_right (by simp [x5];omega),show (i+1)*5+j-(x5 x).length=i*5+j by simp [x5];omega,bcs_at C i (by simpa using hi) j hj]
  simp
theorem bcs_len (C:List Pl):(bcs C).length=C.length*5:=by
 unfold bcs
 induction C with
 | nil=>rfl
 | cons x C ih=>rw [List.flatMap_cons,List.length_append,ih];simp [x5];omega
theorem Bkt.range {w:World} {g o:Nat} {C:List Pl} (H:Bkt w g o C):w.rangeAt g o (bcs C):=by
 intro j v hv
 have hl:(bcs C).length=20:=by rw [bcs_len,H.four]
 have hj:j<20:=by
  have:=(List.getElem?_eq_some_iff.1 hv).1
  omega
 have h5:j/5<C.length:=by rw [H.four];omega
 have e:=bcs_at C (j/5) h5 (j%5) (by omega)
 rw [show j/5*5+j%5=j by omega] at e
 have:=H.cell (j/5) h5 (j%5) v (e▸hv)
 rwa [show o+j/5*5+j%5=o+j by omega] at this
theorem wpList_load_arr {ops:Array Oper} {rest:List Oper} {op:Oper} {a:Act} {w:World} {Q:Exit->Act->World->Prop} (x:Operand) (g o:Nat) (L:List Value) (hgd:op.guard=none) (ho:op.op = .load 152 x)
 (hx:a.eval x = .pointer (some ⟨g,o,none⟩)) (hc:w.rangeAt g o L) (hl:L.length=20) (h:wpList Tryz.prog ops Q rest (a.put op.dst (.agg L.toArray)) w):wpList Tryz.prog ops Q (op::rest) a w:=
 wpList_load_mid hgd 152 x ho g o hx L _ hc Tryz.underlying152 rfl (by rw [hl];kernel_rfl) h
theorem wpList_index_arr {ops:Array Oper} {rest:List Oper} {op:Oper} {a:Act} {w:World} {Q:Exit->Act->World->Prop} (x y:Operand) (X:Array Value) (i:Int) (v:Value) (hgd:op.guard=none) (ho:op.op = .index 152 x y)
 (hx:a.eval x = .agg X) (hy:a.eval y = .int .i64 i) (hr:∀w,(Instr.index 152 (.agg X) (.int .i64 i)).run Tryz.prog w = .ok v w) (h:wpList Tryz.prog ops Q rest (a.put op.dst v) w):wpList Tryz.prog ops Q (op::rest) a w:=
 wpList_plain hgd fun _ hK=>by
  unfold Oper.wp execOp
  simp only [ho,hx,hy,Sem.run_bind,hr,Result.andThen_ok,Sem.run_pure]
  exact hK _ _ h
set_option maxRecDepth 100000 in
theorem index_arr {C:List Pl} (h4:C.length=4) (i:Nat) (hi:i<C.length) (w:World) :
 (Instr.index 152 (.agg (bcs C).toArray) (.int .i64 (i:Int))).run Tryz.prog w = .ok (.agg #[.int .u64 (xh C[i]:Int),.int .u64 (xl C[i]:Int),.int .i64 (xn C[i]),.int .i64 (xv C[i]),.bool C[i].isSome]) w:=by
 obtain ⟨a,b,c,d,rfl⟩:∃a b c d,C=[a,b,c,d]:=by
  match C,h4 with
  | [a,b,c,d],_=>exact ⟨a,b,c,d,rfl⟩
 simp only [List.length_cons,List.length_nil] at hi
 rcases (show i=0\/i=1\/i=2\/i=3 by omega) with rfl | rfl | rfl | rfl<;>rfl
theorem eqlK (a b:Nat) (n:Int) (c d:Nat) (m:Int) (w:World):(binOp .eql 39 (.agg #[.int .u64 a,.int .u64 b,.int .i64 n]) (.agg #[.int .u64 c,.int .u64 d,.int .i64 m])).run Tryz.prog w =
 .ok (.bool (decide (a=c/\b=d/\n=m))) w:=by
 have e1:decide (a=c/\b=d/\n=m)=(decide ((a:Int)=c)&&(decide ((b:Int)=d)&&decide (n=m))):=by
  rw [<-Bool.decide_and,<-Bool.decide_and,decide_eq_decide];omega
 rw [e1]
 by_cases h1:(a:Int)=c<;>by_cases h2:(b:Int)=d<;>by_cases h3:n=m<;>simp [go_sem,h1,h2,h3]
set_option maxHeartbeats 1000000 in
theorem find_any (g o:Nat) (C:List Pl) (k:Ky) (w:World) (H:Bkt w g o C) :
 Calls Tryz.prog 118 #[.pointer (some ⟨g,o,none⟩),kyV k] w fun e w'=>e = .returned (.int .i64 (idxI (hasK k) C))/\Below w.heap.size w w':=by
 have hld:=(H.below (w':=w.alloc (.cells #[.int .u64 (k.h:Int),.int .u64 (k.l:Int),.int .i64 k.n] 39)) (by go_grown)).range
 have hll:(bcs C).length=20:=by rw [bcs_len,H.four]
 have HI:=Lib.hid (fun i hi=>index_arr H.four i hi)
 have h4:=H.four
 have hg:=H.lt
 generalize bcs C=X at hld hll HI
 clear H
 unfold kyV
 go_enter Tryz.func118,Tryz.ntmps118
 go_wp2_with (refine wpList_load_arr _ g o X rfl rfl rfl hld hll ?_)
 clear hld hll
 go_loopw [5,6,13] (fun s5 s6 i wr=>∃(j:Nat),j<=4/\i = .int .i64 (j:Int)/\(∀x (hx:x<C.length),x<j->hasK k C[x]=false)/\wr.cell? ⟨w.heap.size,0,none⟩=some (.int .u64 (k.h:Int))/\wr.cell? ⟨w.heap.size,1,none⟩=some (.int .u64 (k.l:Int))/\wr.cell? ⟨w.heap.size,2,none⟩=some (.int .i64 k.n)/\w.heap.size<wr.heap.size/\Below w.heap.size w wr) (fun _ _ i _=>4-(intOf i).toNat)
 case atStart=>exact ⟨0,by omega,rfl,fun x _ h=>absurd h (by omega),by simp [go_sem],by simp [go_sem],by simp [go_sem],by simp,by go_grown⟩
 case round=>
  obtain ⟨j,hj,rfl,hno,k0,k1,k2,hz,hb⟩:=hrel
  by_cases hlt:j<4
  ·have hi:=HI.out j (by omega)
   have hK:=Lib.hid (hasK_eq k (C[j]'(by omega)))
   have hno':=Lib.hid hno
   clear hno
   generalize hx:(C[j]'(by omega))=x at hi hK
   have HX:=Lib.hid hx
   clear hx
   have hE:=eqlK (xh x) (xl x) (xn x) k.h k.l k.n
   by_cases hs:x.isSome=true
   ·rw [hs] at hi
    by_cases he:xh x=k.h/\xl x=k.l/\xn x=k.n
    ·rw [decide_eq_true he] at hE
     have hm:Hid (hasK k x=true):=by show hasK k x=true;rw [hK.out,hs,decide_eq_true he];rfl
     clear hs hK he
     go_wp2_with (refine wpList_index_arr _ _ _ _ _ rfl rfl rfl rfl hi ?_)
     go_ret
     refine ⟨ret_num (idxI_hit (by omega) (by rw [HX.out];exact hm.out) hno'.out).symm,by go_grown⟩
    ·rw [decide_eq_false he] at hE
     have hm:Hid (hasK k x=false):=by show hasK k x=false;rw [hK.out,hs,decide_eq_false he];rfl
     clear hs hK he
     go_wp2_with (refine wpList_index_arr _ _ _ _ _ rfl rfl rfl rfl hi ?_)
     go_roundw
     case rel=>
      refine ⟨j+1,by omega,by go_num,fun y hy hlt2 => ?_,(World.cell?_alloc_lt wr _ ⟨w.heap.size,0,none⟩ hz).trans k0,(World.cell?_alloc_lt wr _ ⟨w.heap.size,1,none⟩ hz).trans k1,(World.cell?_alloc_lt wr _ ⟨w.heap.size,2,none⟩ hz).trans k2,by simp;omega,by go_grown⟩
      by_cases e:y=j
      ·subst e;rw [HX.out];exact hm.out
      ·exact hno'.out y hy (by omega)
     case measure=>simp [intOf];omega
   ·rw [Bool.not_eq_true] at hs
    rw [hs] at hi
    have hm:Hid (hasK k x=false):=by show hasK k x=false;rw [hK.out,hs];rfl
    clear hs hK hE
    go_wp2_with (refine wpList_index_arr _ _ _ _ _ rfl rfl rfl rfl hi ?_)
    go_roundw
    case rel=>
     refine ⟨j+1,by omega,by go_num,fun y hy hlt2 => ?_,(World.cell?_alloc_lt wr _ ⟨w.heap.size,0,none⟩ hz).trans k0,(World.cell?_alloc_lt wr _ ⟨w.heap.size,1,none⟩ hz).trans k1,(World.cell?_alloc_lt wr _ ⟨w.heap.size,2,none⟩ hz).trans k2,by simp;omega,by go_grown⟩
     by_cases e:y=j
     ·subst e;rw [HX.out];exact hm.out
     ·exact hno'.out y hy (by omega)
    case measure=>simp [intOf];omega
  ·go_wp2
   go_ret
   exact ⟨ret_num (idxI_miss (fun x hx=>hno x hx (by omega))).symm,hb⟩
set_option maxHeartbeats 1000000 in
theorem empty_any (g o:Nat) (C:List Pl) (w:World) (H:Bkt w g o C) :
 Calls Tryz.prog 170 #[.pointer (some ⟨g,o,none⟩)] w fun e w'=>e = .returned (.int .i64 (idxI Option.isNone C))/\Below w.heap.size w w':=by
 have hld:=H.range
 have hll:(bcs C).length=20:=by rw [bcs_len,H.four]
 have HI:=Lib.hid (fun i hi=>index_arr H.four i hi)
 have h4:=H.four
 have hg:=H.lt
 generalize bcs C=X at hld hll HI
 clear H
 go_enter Tryz.func170,Tryz.ntmps170
 go_wp2_with (refine wpList_load_arr _ g o X rfl rfl rfl hld hll ?_)
 clear hld hll
 go_loopw [3,4,11] (fun s3 s4 i wr=>∃(j:Nat),j<=4/\i = .int .i64 (j:Int)/\(∀x (hx:x<C.length),x<j->Option.isNone C[x]=false)/\w.heap.size<=wr.heap.size/\Below w.heap.size w wr) (fun _ _ i _=>4-(intOf i).toNat)
 case atStart=>exact ⟨0,by omega,rfl,fun x _ h=>absurd h (by omega),Nat.le_refl _,by go_grown⟩
 case round=>
  obtain ⟨j,hj,rfl,hno,hz,hb⟩:=hrel
  by_cases hlt:j<4
  ·have hi:=HI.out j (by omega)
   have hno':=Lib.hid hno
   clear hno
   generalize hx:(C[j]'(by omega))=x at hi
   have HX:=Lib.hid hx
   clear hx
   by_cases hs:x.isSome=true
   ·rw [hs] at hi
    have hm:Hid (Option.isNone x=false):=by show Option.isNone x=false;cases x<;>simp_all
    clear hs
    go_wp2_with (refine wpList_index_arr _ _ _ _ _ rfl rfl rfl rfl hi ?_)
    go_roundw
    case rel=>
     refine ⟨j+1,by omega,by go_num,fun y hy hlt2 => ?_,by simp;omega,by go_grown⟩
     by_cases e:y=j
     ·subst e;rw [HX.out];exact hm.out
     ·exact hno'.out y hy (by omega)
    case measure=>simp [intOf];omega
   ·rw [Bool.not_eq_true] at hs
    rw [hs] at hi
    have hm:Hid (Option.isNone x=true):=by show Option.isNone x=true;cases x<;>simp_all
    clear hs
    go_wp2_with (refine wpList_index_arr _ _ _ _ _ rfl rfl rfl rfl hi ?_)
    go_ret
    refine ⟨ret_num (idxI_hit (by omega) (by rw [HX.out];exact hm.out) hno'.out).symm,by go_grown⟩
  ·go_wp2
   go_ret
   exact ⟨ret_num (idxI_miss (fun x hx=>hno x hx (by omega))).symm,hb⟩
set_option maxHeartbeats 1000000 in
set_option maxRecDepth 100000 in
theorem all11_any (g o:Nat) (C:List Pl) (w:World) (H:Bkt w g o C) :
 Calls Tryz.prog 120 #[.pointer (some ⟨g,o,none⟩)] w fun e w'=>NewRts w w' e (allC C):=by
 have hld:=H.range
 have hll:(bcs C).length=20:=by rw [bcs_len,H.four]
 have HI:=Lib.hid (fun i hi=>index_arr H.four i hi)
 have h4:=H.four
 have hg:=H.lt
 have HS:=Lib.hid (fun i h=>allC_snoc C i h)
 have HA:=Lib.hid (allC_len C)
 obtain ⟨i0,hi0,iz0,iz1,iz2⟩:=info_parts infoR
 generalize bcs C=X at hld hll HI
 clear H
 go_enter Tryz.func120,Tryz.ntmps120
 go_wp2_with (refine wpList_load_arr _ g o X rfl rfl rfl hld hll ?_)
 clear hld hll
 go_loopw [3,5,12] (fun s3 s5 i wr=>∃(j:Nat) (p:Option Addr) (c:Nat) (L:List Rt),j<=4/\i = .int .i64 (j:Int)/\s3 = .slice p L.length c/\L.length<=4/\Hid (L=allC (C.take j))/\wr.ownsRow w.heap.size 41 4 (.slice p L.length c) L.length (rcs L)/\Below w.heap.size w wr) (fun _ _ i _=>4-(intOf i).toNat)
 case atStart=>exact ⟨0,none,0,[],by omega,rfl,rfl,by simp,Lib.hid rfl,World.ownsRow_nil _ _ _ _,by go_grown⟩
 case round=>
  obtain ⟨j,p,c,L,hj,rfl,rfl,hL,hLe,hown,hb⟩:=hrel
  have hz:=hb.size
  by_cases hlt:j<4
  ·have hi:=HI.out j (by omega)
   have hs:=HS.out j (by omega)
   rw [<-hLe.out] at hs
   have hle:=allC_len (C.take (j+1))
   rw [hs] at hle
   have hle2:(C.take (j+1)).length<=4:=by simp;omega
   have HLE:Hid ((L++(C[j]'(by omega)).toList).length<=4):=by show _<=4;omega
   clear hle hle2
   have HN:=Lib.hid hs
   clear hs hLe
   generalize hx:(C[j]'(by omega))=x at hi HN HLE
   clear hx
   cases x with
   | none=>
    simp only [xh,xl,xn,xv,Option.isSome_none] at hi
    have HN':Hid (L=allC (C.take (j+1))):=by show L=_;rw [HN.out];simp
    clear HN
    go_wp2_with (refine wpList_index_arr _ _ _ _ _ rfl rfl rfl rfl hi ?_)
    go_roundw
    case rel=>exact ⟨j+1,p,c,L,by omega,by go_num,rfl,hL,HN',hown.alloc _,by go_grown⟩
    case measure=>simp [intOf];omega
   | some r=>
    simp only [xh,xl,xn,xv,Option.isSome_some] at hi
    have HN':Hid (L++[r]=allC (C.take (j+1))):=by show L++[r]=_;rw [HN.out];simp
    have HL':Hid ((L++[r]).length<=4):=by show _<=4;exact HLE.out
    have hLl:L.length<=3:=by have:=HL'.out;simp at this;omega
    clear HN HLE
    go_wp2_with (first
     | (refine wpList_index_arr _ _ _ _ _ rfl rfl rfl rfl hi ?_)
     | (at_builtin;go_loud (refine wpList_append_own _ rfl (.tmp 17) (.tmp 23) 35 rfl w.heap.size 41 i0 _ 4 32 Tryz.underlying35 hi0 iz0 iz1 iz2 rfl (by decide) _ _ _ rfl ((hown.alloc _).alloc _) ⟨wr.heap.size+1,0,none⟩ 1 1 (rcell r) rfl rfl (four_new (by simp [go_sem]) (by simp [go_sem]) (by simp [go_sem]) (by simp [go_sem])) (by simp [rcell,Value.oneCell']) (by unfold maxLen;omega) (by omega) (by simp;omega) ?_)))
    intro v3 w3 hown3 hg3 _
    have hown4:=own_rsnoc hown3 rfl
    have hw3:Below w.heap.size w w3:=((hb.alloc hz _).alloc (by simp;omega) _).grown hg3 (by simp;omega) (fun j hj=>(hown.lt j hj).1)
    obtain ⟨p3,c3,rfl⟩:=own_slice hown4
    clear hown3 hg3 hown hb
    go_wp2
    go_roundw
    case rel=>exact ⟨j+1,p3,c3,L++[r],by omega,by go_num,rfl,HL'.out,HN',hown4,hw3⟩
    case measure=>simp [intOf];omega
  ·go_wp2
   go_ret
   have he:L=allC C:=by have:=hLe.out;rwa [List.take_of_length_le (by omega)] at this
   subst he
   exact ⟨p,c,rfl,hown,hb⟩
structure RBk (w:World) (g o:Nat) (C:List Pl):Prop where
 four:C.length=4
 lt:g<w.heap.size
 rt:∀(i:Nat) (hi:i<C.length),w.cell? ⟨g,o+i*4,none⟩=some (.int .u64 (xh C[i]:Int))/\w.cell? ⟨g,o+i*4+1,none⟩=some (.int .u64 (xl C[i]:Int))/\w.cell? ⟨g,o+i*4+2,none⟩=some (.int .i64 (xn C[i]))/\w.cell? ⟨g,o+i*4+3,none⟩=some (.int .i64 (xv C[i]))
 on:∀(i:Nat) (hi:i<C.length),w.cell? ⟨g,o+16+i,none⟩=some (.bool C[i].isSome)
 free:∀j,j<20->w.frozen? ⟨g,o+j,none⟩=false
theorem RBk.kept {w w':World} {g o:Nat} {C:List Pl} (H:RBk w g o C) (hs:w.heap.size<=w'.heap.size) (h:∀x,x<20->w'.cell? ⟨g,o+x,none⟩=w.cell? ⟨g,o+x,none⟩/\w'.frozen? ⟨g,o+x,none⟩=w.frozen? ⟨g,o+x,none⟩):RBk w' g o C:=by
 have h4:=H.four
 refine ⟨H.four,Nat.lt_of_lt_of_le H.lt hs,fun i hi => ?_,fun i hi => ?_,fun j hj=>(h j hj).2.trans (H.free j hj)⟩
 ·obtain ⟨a,b,c,d⟩:=H.rt i hi
  simp only [Nat.add_assoc] at *
  exact ⟨(h _ (by omega)).1.trans a,(h _ (by omega)).1.trans b,(h _ (by omega)).1.trans c,(h _ (by omega)).1.trans d⟩
 ·have:=H.on i hi
  rw [Nat.add_assoc] at *
  exact (h _ (by omega)).1.trans this
theorem RBk.below {w w':World} {g o:Nat} {C:List Pl} (H:RBk w g o C) (hb:Below w.heap.size w w'):RBk w' g o C:=
 H.kept hb.size fun x _=>⟨hb.cell (p:=⟨g,o+x,none⟩) H.lt,hb.frozen (p:=⟨g,o+x,none⟩) H.lt⟩
theorem RBk.apart {w w':World} {g o g' o' n:Nat} {C:List Pl} (H:RBk w g o C) (h:Turn w w' g' o' n) (hne:g≠g'\/o+20<=o'\/o'+n<=o):RBk w' g o C:=by
 refine H.kept h.grown.size fun x hx => ?_
 by_cases e:g=g'
 ·subst e
  exact ⟨h.cell _ (by omega),h.frozen _⟩
 ·have hb:=h.grown.block g H.lt (by simpa using e)
  exact ⟨World.cell?_of_block hb,by unfold World.frozen?;rw [hb]⟩
structure BK (K:World->Nat->Nat->List Pl->Prop):Prop where
 lt:∀{w g o C},K w g o C->g<w.heap.size
 turn:∀{w w' g o o' n C},K w g o C->Turn w w' g o' n->(o+20<=o'\/o'+n<=o)->K w' g o C
 block:∀{w w' g o C},K w g o C->w.heap.size<=w'.heap.size->w'.heap[g]? = w.heap[g]? -> K w' g o C
theorem bk_bkt:BK Bkt where
 lt:=Bkt.lt
 turn:=fun H h hne=>H.kept h (.inr hne)
 block:=fun {w w' g o C} H hs hb=>by
  have hc:∀x,w'.cell? ⟨g,x,none⟩=w.cell? ⟨g,x,none⟩/\w'.frozen? ⟨g,x,none⟩=w.frozen? ⟨g,x,none⟩:=fun x=>⟨World.cell?_of_block (a:=⟨g,x,none⟩) hb,World.frozen?_of_block (a:=⟨g,x,none⟩) hb⟩
  exact ⟨H.four,Nat.lt_of_lt_of_le H.lt hs,fun i hi j u hu=>(hc _).1.trans (H.cell i hi j u hu),fun j hj=>(hc _).2.trans (H.free j hj)⟩
theorem bk_rbk:BK RBk where
 lt:=RBk.lt
 turn:=fun H h hne=>H.apart h (.inr hne)
 block:=fun {w w' g o C} H hs hb=>H.kept hs fun x _=>⟨World.cell?_of_block (a:=⟨g,o+x,none⟩) hb,World.frozen?_of_block (a:=⟨g,o+x,none⟩) hb⟩
def Blk (t g:Nat) (v:Value) (k:Nat):Prop:=k=t\/k=g\/v.ownBlock=some k
structure Tb (K:World->Nat->Nat->List Pl->Prop) (w:World) (t g:Nat) (v:Value) (T:Tab):Prop where
 bk:∀i,i<T.B.length->K w g (i*20) (T.bk i)
 blt:g<w.heap.size
 tlt:t<w.heap.size
 c0:w.cell? ⟨t,0,none⟩=some (.int .u64 (T.s:Int))
 c1:w.cell? ⟨t,1,none⟩=some (.slice (some ⟨g,0,none⟩) T.B.length T.B.length)
 c2:w.cell? ⟨t,2,none⟩=some v
 f:∀j,w.frozen? ⟨t,j,none⟩=false
 own:w.ownsRow 0 41 4 v T.st.length (rcs T.st)
 tg:t≠g
 tv:v.ownBlock≠some t
 gv:v.ownBlock≠some g
section
variable {K:World->Nat->Nat->List Pl->Prop} {w w':World} {t g:Nat} {v:Value} {T:Tab}
theorem Tb.blk (H:Tb K w t g v T):∀k,Blk t g v k->k<w.heap.size:=by
 intro k h
 rcases h with rfl | rfl | h
 ·exact H.tlt
 ·exact H.blt
 ·exact (H.own.lt k h).2
theorem own_block {w w':World} {B n k:Nat} {e:TypeId} {v:Value} {xs:List Value} (h:w.ownsRow B e k v n xs) (hb:∀j,v.ownBlock=some j->w'.heap[j]? = w.heap[j]?):w'.ownsRow B e k v n xs:=by
 refine ⟨h.1,?_⟩
 rcases h.2 with hx | ⟨g,cap,cur,rfl,hb2,hgg,rest⟩
 ·exact .inl hx
 ·exact .inr ⟨g,cap,cur,rfl,hb2,(hb g rfl).trans hgg,rest⟩
theorem Tb.blocks (hK:BK K) (H:Tb K w t g v T) (hs:w.heap.size<=w'.heap.size) (hb:∀k,Blk t g v k->w'.heap[k]? = w.heap[k]?):Tb K w' t g v T:=by
 have ht:=hb t (.inl rfl)
 have hg:=hb g (.inr (.inl rfl))
 exact ⟨fun i hi=>hK.block (H.bk i hi) hs hg,Nat.lt_of_lt_of_le H.blt hs,Nat.lt_of_lt_of_le H.tlt hs,(World.cell?_of_block (a:=⟨t,0,none⟩) ht).trans H.c0,(World.cell?_of_block (a:=⟨t,1,none⟩) ht).trans H.c1,
  (World.cell?_of_block (a:=⟨t,2,none⟩) ht).trans H.c2,fun j=>(World.frozen?_of_block (a:=⟨t,j,none⟩) ht).trans (H.f j),own_block H.own (fun j e=>hb j (.inr (.inr e))),H.tg,H.tv,H.gv⟩
theorem Tb.below (hK:BK K) (H:Tb K w t g v T) (hb:Below w.heap.size w w'):Tb K w' t g v T:=H.blocks hK hb.size fun k hk=>hb.block k (H.blk k hk)
theorem Tb.touched (hK:BK K) (H:Tb K w t g v T) {S:Nat->Prop} (ht:Touch S w w') (hn:∀k,Blk t g v k->¬S k):Tb K w' t g v T:=H.blocks hK ht.size fun k hk=>ht.block k (H.blk k hk) (hn k hk)
theorem Turn.touch {o n:Nat} {S:Nat->Prop} (h:Turn w w' g o n) (hS:S g):Touch S w w':=Touch.of_grown h.grown fun k e=>by injection e with e;exact e▸hS
theorem Tb.turn (hK:BK K) (H:Tb K w t g v T) {i:Nat} (hi:i<T.B.length) {C:List Pl} (h:Turn w w' g (i*20) 20) (hC:K w' g (i*20) C):Tb K w' t g v (T.set i C)/\Touch (Blk t g v) w w':=by
 have ht:w'.heap[t]? = w.heap[t]? := h.grown.block t H.tlt (by intro e;injection e with e;exact H.tg e)
 refine ⟨⟨fun k hk => ?_,Nat.lt_of_lt_of_le H.blt h.grown.size,Nat.lt_of_lt_of_le H.tlt h.grown.size,(World.cell?_of_block (a:=⟨t,0,none⟩) ht).trans H.c0,?_,(World.cell?_of_block (a:=⟨t,2,none⟩) ht).trans H.c2,
  fun j=>(World.frozen?_of_block (a:=⟨t,j,none⟩) ht).trans (H.f j),own_block H.own (fun j e=>h.grown.block j (H.own.lt j e).2 (fun e2=>H.gv (e.trans e2))),H.tg,H.tv,H.gv⟩,h.touch (.inr (.inl rfl))⟩
 ·rw [set_len] at hk
  rw [bk_set T i hi]
  split
  ·rename_i e;subst e;exact hC
  ·rename_i e
   exact hK.turn (H.bk k hk) h (by omega)
 ·rw [set_len]
  exact (World.cell?_of_block (a:=⟨t,1,none⟩) ht).trans H.c1
end
structure CT (w:World) (t g:Nat) (v:Value) (T:Tab) (m:Int):Prop where
 tb:Tb Bkt w t g v T
 c3:w.cell? ⟨t,3,none⟩=some (.int .i64 m)
section
variable {w w':World} {t g:Nat} {v:Value} {T:Tab} {m:Int}
theorem CT.blocks (H:CT w t g v T m) (hs:w.heap.size<=w'.heap.size) (hb:∀k,Blk t g v k->w'.heap[k]? = w.heap[k]?):CT w' t g v T m:=
 ⟨H.tb.blocks bk_bkt hs hb,(World.cell?_of_block (a:=⟨t,3,none⟩) (hb t (.inl rfl))).trans H.c3⟩
theorem CT.below (H:CT w t g v T m) (hb:Below w.heap.size w w'):CT w' t g v T m:=H.blocks hb.size fun k hk=>hb.block k (H.tb.blk k hk)
theorem CT.touched (H:CT w t g v T m) {S:Nat->Prop} (ht:Touch S w w') (hn:∀k,Blk t g v k->¬S k):CT w' t g v T m:=H.blocks ht.size fun k hk=>ht.block k (H.tb.blk k hk) (hn k hk)
theorem CT.turn (H:CT w t g v T m) {i:Nat} (hi:i<T.B.length) {C:List Pl} (h:Turn w w' g (i*20) 20) (hC:Bkt w' g (i*20) C):CT w' t g v (T.set i C) m/\Touch (Blk t g v) w w':=by
 have ht:w'.heap[t]? = w.heap[t]? := h.grown.block t H.tb.tlt (by intro e;injection e with e;exact H.tb.tg e)
 have:=H.tb.turn bk_bkt hi h hC
 exact ⟨⟨this.1,(World.cell?_of_block (a:=⟨t,3,none⟩) ht).trans H.c3⟩,this.2⟩
end
def CStep (w w':World) (t g:Nat) (v:Value) (T':Tab) (m':Int):Prop:=∃g' v',CT w' t g' v' T' m'/\Touch (Blk t g v) w w'/\∀k,Blk t g' v' k->k<w.heap.size->Blk t g v k
def RStep (w w':World) (t g:Nat) (v:Value) (T':Tab):Prop:=∃g' v',Tb RBk w' t g' v' T'/\Touch (Blk t g v) w w'/\∀k,Blk t g' v' k->k<w.heap.size->Blk t g v k
theorem Touch.then {a b c:World} {t g g':Nat} {v v':Value} (h:Touch (Blk t g v) a b) (hs:∀k,Blk t g' v' k->k<a.heap.size->Blk t g v k) (k:Touch (Blk t g' v') b c):Touch (Blk t g v) a c:=
 ⟨k.os.trans h.os,k.tape.trans h.tape,k.output.trans h.output,Nat.le_trans h.size k.size,fun i hi hn=>(k.block i (Nat.lt_of_lt_of_le hi h.size) (fun x=>hn (hs i x hi))).trans (h.block i hi hn)⟩
theorem CStep.trans {a b c:World} {t g g':Nat} {v v':Value} {T':Tab} {m':Int} (h:Touch (Blk t g v) a b) (hs:∀k,Blk t g' v' k->k<a.heap.size->Blk t g v k) (k:CStep b c t g' v' T' m'):CStep a c t g v T' m':=by
 obtain ⟨g2,v2,h1,h2,h3⟩:=k
 exact ⟨g2,v2,h1,h.then hs h2,fun k hk hl=>hs k (h3 k hk (Nat.lt_of_lt_of_le hl h.size)) hl⟩
theorem RStep.trans {a b c:World} {t g g':Nat} {v v':Value} {T':Tab} (h:Touch (Blk t g v) a b) (hs:∀k,Blk t g' v' k->k<a.heap.size->Blk t g v k) (k:RStep b c t g' v' T'):RStep a c t g v T':=by
 obtain ⟨g2,v2,h1,h2,h3⟩:=k
 exact ⟨g2,v2,h1,h.then hs h2,fun k hk hl=>hs k (h3 k hk (Nat.lt_of_lt_of_le hl h.size)) hl⟩
theorem CStep.quiet {a b:World} {t g:Nat} {v:Value} {T:Tab} {m:Int} (H:CT a t g v T m) (h:Below a.heap.size a b):CStep a b t g v T m:=⟨g,v,H.below h,Touch.quiet h,fun _ h _=>h⟩
theorem RStep.quiet {a b:World} {t g:Nat} {v:Value} {T:Tab} (H:Tb RBk a t g v T) (h:Below a.heap.size a b):RStep a b t g v T:=⟨g,v,H.below bk_rbk h,Touch.quiet h,fun _ h _=>h⟩
theorem CStep.same {a b:World} {t g:Nat} {v:Value} {T:Tab} {m:Int} (H:CT b t g v T m) (h:Touch (Blk t g v) a b):CStep a b t g v T m:=⟨g,v,H,h,fun _ h _=>h⟩
theorem RStep.same {a b:World} {t g:Nat} {v:Value} {T:Tab} (H:Tb RBk b t g v T) (h:Touch (Blk t g v) a b):RStep a b t g v T:=⟨g,v,H,h,fun _ h _=>h⟩
end Go.Proofs.YtgfjmgebecmbiaaGreat

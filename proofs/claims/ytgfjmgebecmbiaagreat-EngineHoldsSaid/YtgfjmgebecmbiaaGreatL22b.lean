import Derived.Test.YtgfjmgebecmbiaaGreatInto12
import Derived.Test.YtgfjmgebecmbiaaGreatFil2
import Derived.Test.YtgfjmgebecmbiaaGreatW12l
import Derived.Test.YtgfjmgebecmbiaaGreatW12f
import Derived.Test.YtgfjmgebecmbiaaGreatW12g
import Derived.Test.YtgfjmgebecmbiaaGreatRT3
import Derived.Test.YtgfjmgebecmbiaaGreatM19b
import Derived.Test.YtgfjmgebecmbiaaGreatSort2
set_option linter.unusedSimpArgs false
set_option linter.unusedVariables false
set_option maxHeartbeats 4000000
namespace Go.Proofs.YtgfjmgebecmbiaaGreat
open Lib(hid)
section
open Go.RowKit Go.Sort M
theorem Zft {o:Oper} {a:Act} {w:World} {K:Act->World->Prop} {Q:Exit->Act->World->Prop} (s x:Operand)
 (ho:o.op = .call { callee := .builtin .append,args := #[s,x],argTypes := #[35,35] }) (hs:a.eval s = .slice none 0 0) (hx:a.eval x = .slice none 0 0) (h:K (a.put o.dst (.slice none 0 0)) w):o.wp Tryz.prog a w K Q:=by
 obtain ⟨i0,hi0,iz0,iz1,iz2⟩:=info_parts Zd1
 have hrun:=run_append_owned_none (P:=Tryz.prog) (w:=w) 0 35 o.type 41 i0 4 Tryz.underlying35 hi0 (.slice none 0 0) 0 [] (World.ownsRow_nil _ _ _ _)
 unfold Oper.wp
 simp [execOp,ho,resolve,invoke,builtin,hs,hx,hrun,Result.andThen]
 exact h
set_option maxRecDepth 100000 in
theorem Z2w (r:Rt) (w:World):Calls Tryz.prog 14 #[.slice none 0 0,rtA r] w fun e w'=>Zcf w w' e [r]:=by
 unfold rtA
 go_enter Tryz.func14,Tryz.ntmps14
 go_wp2
 go_loopw [5] (fun i wr=>i = .int .i64 0/\wr.cell? ⟨w.heap.size,0,none⟩=some (.int .u64 (r.k.h:Int))/\wr.cell? ⟨w.heap.size,1,none⟩=some (.int .u64 (r.k.l:Int))/\wr.cell? ⟨w.heap.size,2,none⟩=some (.int .i64 r.k.n)/\wr.cell? ⟨w.heap.size,3,none⟩=some (.int .i64 r.v)/\w.heap.size<wr.heap.size/\Below w.heap.size w wr) (fun i _=>0-(intOf i).toNat)
 case atStart=>exact ⟨rfl,by simp [go_sem],by simp [go_sem],by simp [go_sem],by simp [go_sem],by simp,by go_grown⟩
 case round=>
  obtain ⟨rfl,d0,d1,d2,d3,hz,hb⟩:=hrel
  have hz0':=hb.size
  go_wp2_with fail
  have kg:=Zaa
  refine Zab (by kernel_rfl) (by kernel_rfl) ?_
  repeat (any_goals (first|go_big_quiet_step (fail)|quiet_step (fail)))
  refine wpQuiet_nil ?_
  clear kg
  intro w2 hb2
  obtain ⟨hc2,hf2⟩:=Zaf hb2
  have hw2:Below w.heap.size w w2:=by
   refine Below.trans ?_ (hb2.mono ?_)
   ·go_grown
   ·first|omega|go_size
  have hw2:=hb.trans (hb2.mono hb.size)
  have d0:=(hc2 _ _ hz).trans d0
  have d1:=(hc2 _ _ hz).trans d1
  have d2:=(hc2 _ _ hz).trans d2
  have d3:=(hc2 _ _ hz).trans d3
  have hz2:=Nat.lt_of_lt_of_le hz hb2.size
  have hz0:=hw2.size
  clear hc2 hf2 hb2
  go_wp2_with fail
  have kg:=Zaa
  refine Zab (by kernel_rfl) (by kernel_rfl) ?_
  repeat (any_goals (first|go_big_quiet_step (fail)|quiet_step (fail)))
  refine wpQuiet_nil ?_
  clear kg
  intro w4 hb4
  obtain ⟨hc4,hf4⟩:=Zaf hb4
  have hw4:Below w.heap.size w w4:=by
   refine Below.trans ?_ (hb4.mono ?_)
   ·go_grown
   ·first|omega|go_size
  have hw4:=hw2.trans (hb4.mono hw2.size)
  have d0:=(hc4 _ _ hz2).trans d0
  have d1:=(hc4 _ _ hz2).trans d1
  have d2:=(hc4 _ _ hz2).trans d2
  have d3:=(hc4 _ _ hz2).trans d3
  have hz4:=Nat.lt_of_lt_of_le hz2 hb4.size
  clear hc4 hf4 hb4
  go_wp2_with fail
  have kg:=Zaa
  refine wp_region_noPanic ?_
  generalize hNQ:NoPanic _=NQ
  refine Zb2 [0,1,2,7,8,9] [4] 3 5 [6,10,11] (by kernel_rfl) (by rw [<-hNQ];exact fun _ _ _ h=>h) (by kernel_rfl) (by kernel_rfl) ?_
  simp only [Zah,List.filterMap_cons,List.filterMap_nil,List.getElem?_toArray,List.getElem?_cons_succ,List.getElem?_cons_zero]
  repeat (any_goals (quiet_step (fail)))
  refine wpQuiet_nil ?_
  clear kg
  intro w5 hb5
  have hw5:=hw4.trans (hb5.mono hw4.size)
  refine ⟨?_,?_⟩
  ·intro K hK o ho
   injection ho with ho
   subst ho
   refine Zft (.const (.slice none 0 0)) (.tmp 46) rfl rfl rfl ?_
   refine hK _ _ hb5 ?_
   clear hK K
   intro K hK o ho
   injection ho with ho
   subst ho
   go_simp
   refine hK _ _ (hb5.alloc hb5.size _) ?_
   clear hK K
   simp only [Zah,List.filterMap_cons,List.filterMap_nil,List.getElem?_toArray,List.getElem?_cons_succ,List.getElem?_cons_zero]
   have hb7:=hb5.alloc hb5.size (.cells (Zac r).toArray 41)
   have hX:=Zbw (heap_alloc_new w5 (.cells (Zac r).toArray 41)) 0 (Zac r) (by simp [Zac])
   change wpList _ _ _ _ _ (w5.alloc (.cells (Zac r).toArray 41))
   generalize World.alloc w5 _=w7 at *
   have hw7:=hw4.trans (hb7.mono hw4.size)
   have HX7:=hid hX
   have HW7:=hid hw7
   have hz7:w.heap.size+1<=w7.heap.size:=by have:=hb7.size;omega
   obtain ⟨i0,hi0,iz0,iz1,iz2⟩:=info_parts Zd1
   refine wpList_append_own_at _ rfl (.tmp 47) (.tmp 49) 35 rfl (w.heap.size+1) 41 i0 _ 4 32 Tryz.underlying35 hi0 iz0 iz1 iz2 rfl (by decide) (.slice none 0 0) 0 [] rfl (World.ownsRow_nil _ _ _ _) ⟨w5.heap.size,0,none⟩ 1 1 (Zac r) rfl rfl HX7.out (by simp [Zac,Value.oneCell']) (by decide) (by decide) hz7 ?_
   intro v8 w8 hown8 hg8 _ hat8
   have hw8:Below w.heap.size w w8:=HW7.out.grown hg8 HW7.out.size (fun k e=>by simp [Value.ownBlock] at e)
   refine wpList_append_own_none rfl (.tmp 50) (.tmp 53) 35 rfl (w.heap.size+1) 41 i0 4 Tryz.underlying35 hi0 v8 _ _ rfl hown8 rfl ?_
   have hown9:w8.ownsRow (w.heap.size+1) 41 4 v8 1 (rcs [r]):=by rw [Zgc];exact hown8
   obtain ⟨p9,c9,rfl⟩:=Zag hown9
   have HO9:=hid hown9
   have HW9:=hid hw8
   clear hown8 hown9 hg8 hat8 hw8
   go_wp2_with fail
   rw [<-hNQ]
   refine NoPanic.normal ?_
   clear hNQ
   go_wp2
   go_ret
   exact ⟨p9,c9,rfl,Za4 HO9.out (by omega),HW9.out⟩
  ·intro K hK o ho
   injection ho with ho
   subst ho
   go_simp
   refine hK _ _ (hb5.alloc hb5.size _) ?_
   clear hK K
   intro K hK o ho
   injection ho with ho
   subst ho
   refine Zft (.const (.slice none 0 0)) (.tmp 46) rfl rfl rfl ?_
   refine hK _ _ (hb5.alloc hb5.size _) ?_
   clear hK K
   simp only [Zah,List.filterMap_cons,List.filterMap_nil,List.getElem?_toArray,List.getElem?_cons_succ,List.getElem?_cons_zero]
   have hb7:=hb5.alloc hb5.size (.cells (Zac r).toArray 41)
   have hX:=Zbw (heap_alloc_new w5 (.cells (Zac r).toArray 41)) 0 (Zac r) (by simp [Zac])
   change wpList _ _ _ _ _ (w5.alloc (.cells (Zac r).toArray 41))
   generalize World.alloc w5 _=w7 at *
   have hw7:=hw4.trans (hb7.mono hw4.size)
   have HX7:=hid hX
   have HW7:=hid hw7
   have hz7:w.heap.size+1<=w7.heap.size:=by have:=hb7.size;omega
   obtain ⟨i0,hi0,iz0,iz1,iz2⟩:=info_parts Zd1
   refine wpList_append_own_at _ rfl (.tmp 47) (.tmp 49) 35 rfl (w.heap.size+1) 41 i0 _ 4 32 Tryz.underlying35 hi0 iz0 iz1 iz2 rfl (by decide) (.slice none 0 0) 0 [] rfl (World.ownsRow_nil _ _ _ _) ⟨w5.heap.size,0,none⟩ 1 1 (Zac r) rfl rfl HX7.out (by simp [Zac,Value.oneCell']) (by decide) (by decide) hz7 ?_
   intro v8 w8 hown8 hg8 _ hat8
   have hw8:Below w.heap.size w w8:=HW7.out.grown hg8 HW7.out.size (fun k e=>by simp [Value.ownBlock] at e)
   refine wpList_append_own_none rfl (.tmp 50) (.tmp 53) 35 rfl (w.heap.size+1) 41 i0 4 Tryz.underlying35 hi0 v8 _ _ rfl hown8 rfl ?_
   have hown9:w8.ownsRow (w.heap.size+1) 41 4 v8 1 (rcs [r]):=by rw [Zgc];exact hown8
   obtain ⟨p9,c9,rfl⟩:=Zag hown9
   have HO9:=hid hown9
   have HW9:=hid hw8
   clear hown8 hown9 hg8 hat8 hw8
   go_wp2_with fail
   rw [<-hNQ]
   refine NoPanic.normal ?_
   clear hNQ
   go_wp2
   go_ret
   exact ⟨p9,c9,rfl,Za4 HO9.out (by omega),HW9.out⟩
theorem Zwg (B:Nat) (p:Option Addr) (c:Nat) (L:List Rt) (r:Rt) (w:World) (hR:w.ownsRow B 41 4 (.slice p L.length c) L.length (rcs L)) (hl:L.length<1048576) :
 Calls Tryz.prog 14 #[.slice p L.length c,rtA r] w fun e w'=>Zcf w w' e (Zao L r):=by
 obtain ⟨J,h1,h2,h3,h4⟩:=Zli L r
 rcases hR.2 with ⟨e,h0⟩ | ⟨g,cap,cur,e,hB,hg,hn,hm,hs,ht⟩
 ·have hL:=List.length_eq_zero_iff.1 h0
  subst hL
  rw [e]
  exact Z2w r w
 ·injection e with e1 e2 e3
  subst e1 e3
  rcases h4 with ⟨hJ,hk,hi⟩ | ⟨hk,hi⟩
  ·rw [hi]
   exact Z58 B _ c L r J w hR hl hJ h2 (h3 hJ) hk
  ·rw [hi]
   by_cases hJ:J<L.length
   ·exact Z2x B g c L r J w hR hl hJ h2 (h3 hJ) (hk hJ)
   ·exact Zy7 B g c L r J w hR hl (Array.getElem?_eq_some_iff.1 hg).1 hn (by omega) h2
theorem Tb.low {K:World->Nat->Nat->List Pl->Prop} (hK:BK K) {a b:World} {t g lim:Nat} {v:Value} {T:Tab} (H:Tb K a t g v T) (hl:∀k,Blk t g v k->k<lim) (hb:Below lim a b):Tb K b t g v T:=H.blocks hK hb.size fun k hk=>hb.block k (hl k hk)
end
section
open Go Go.RowKit Go.Sort M
section
variable {P:Program} {ops:Array Oper} {md:Region.Mode} {C:World->Prop} {Q:Exit->Act->World->Prop} {S:World->Prop} {pre:Nat->Bool}
end
end
section
open Go.ChangeShapes Go.WideShapes Go.ChangeAt Go.RowKit Go.Joins Go.Deep M
section
variable {H:Type} {enc:TypeId×Value->H} {w:World} {base:Nat} {spare:Nat->Bool} {held:Bool} {r:Reach} {b0:Nat}
end
def cfgL (c:Cf):List Value:=[.int .i64 c.wd,.int .i64 c.di,.int .i64 c.lv,.int .i64 c.st,.int .i64 c.hs,.int .i64 c.bt,.int .i64 c.le,.int .i64 c.bk,.int .i64 c.rt,.int .i64 c.hp]
def cfgA (c:Cf):Value := .agg #[.int .i64 c.wd,.int .i64 c.di,.int .i64 c.lv,.int .i64 c.st,.int .i64 c.hs,.int .i64 c.bt,.int .i64 c.le,.int .i64 c.bk,.int .i64 c.rt,.int .i64 c.hp]
section
variable {H:Type} {enc:TypeId×Value->H} {w:World} {base:Nat} {spare:Nat->Bool} {held:Bool} {r:Reach} {b0:Nat}
set_option maxRecDepth 100000 in
theorem Zkq {n:Nat} {cs:List Value} {x:DataW H×List MemPlace} (h:DataW.trod enc Tryz.prog w base spare held n 23 cs=some x):∃c:Cf,cs=cfgL c:=by
 obtain ⟨xs,m,-,-,hl,hxl,hf⟩:=DataW.trod_struct Tryz.underlying23 h
 rw [show Tryz.prog.cellsOf 23=10 by kernel_rfl] at hl
 have h0:DataW.trod enc Tryz.prog w base spare held m 3 ((cs.drop 0).take (Tryz.prog.cellsOf 3))=xs[0]? := hf 0 _ rfl
 have h1:DataW.trod enc Tryz.prog w base spare held m 3 ((cs.drop 1).take (Tryz.prog.cellsOf 3))=xs[1]? := hf 1 _ rfl
 have h2:DataW.trod enc Tryz.prog w base spare held m 3 ((cs.drop 2).take (Tryz.prog.cellsOf 3))=xs[2]? := hf 2 _ rfl
 have h3:DataW.trod enc Tryz.prog w base spare held m 3 ((cs.drop 3).take (Tryz.prog.cellsOf 3))=xs[3]? := hf 3 _ rfl
 have h4:DataW.trod enc Tryz.prog w base spare held m 3 ((cs.drop 4).take (Tryz.prog.cellsOf 3))=xs[4]? := hf 4 _ rfl
 have h5:DataW.trod enc Tryz.prog w base spare held m 3 ((cs.drop 5).take (Tryz.prog.cellsOf 3))=xs[5]? := hf 5 _ rfl
 have h6:DataW.trod enc Tryz.prog w base spare held m 3 ((cs.drop 6).take (Tryz.prog.cellsOf 3))=xs[6]? := hf 6 _ rfl
 have h7:DataW.trod enc Tryz.prog w base spare held m 3 ((cs.drop 7).take (Tryz.prog.cellsOf 3))=xs[7]? := hf 7 _ rfl
 have h8:DataW.trod enc Tryz.prog w base spare held m 3 ((cs.drop 8).take (Tryz.prog.cellsOf 3))=xs[8]? := hf 8 _ rfl
 have h9:DataW.trod enc Tryz.prog w base spare held m 3 ((cs.drop 9).take (Tryz.prog.cellsOf 3))=xs[9]? := hf 9 _ rfl
 rw [show Tryz.prog.cellsOf 3=1 by kernel_rfl] at h0 h1 h2 h3 h4 h5 h6 h7 h8 h9
 obtain ⟨c0,c1,c2,c3,c4,c5,c6,c7,c8,c9,rfl⟩:∃c0 c1 c2 c3 c4 c5 c6 c7 c8 c9,cs=[c0,c1,c2,c3,c4,c5,c6,c7,c8,c9]:=by
  rcases cs with _ | ⟨c0,_ | ⟨c1,_ | ⟨c2,_ | ⟨c3,_ | ⟨c4,_ | ⟨c5,_ | ⟨c6,_ | ⟨c7,_ | ⟨c8,_ | ⟨c9,_ | ⟨c10,cs⟩⟩⟩⟩⟩⟩⟩⟩⟩⟩⟩<;>simp at hl
  exact ⟨c0,c1,c2,c3,c4,c5,c6,c7,c8,c9,rfl⟩
 simp only [List.drop_zero,List.take_succ_cons,List.take_zero,List.drop_succ_cons] at h0 h1 h2 h3 h4 h5 h6 h7 h8 h9
 rw [List.getElem?_eq_getElem (by rw [hxl];decide)] at h0 h1 h2 h3 h4 h5 h6 h7 h8 h9
 obtain ⟨y0,e0,-,-⟩:=DataW.trod_int Tryz.underlying3 h0
 obtain ⟨y1,e1,-,-⟩:=DataW.trod_int Tryz.underlying3 h1
 obtain ⟨y2,e2,-,-⟩:=DataW.trod_int Tryz.underlying3 h2
 obtain ⟨y3,e3,-,-⟩:=DataW.trod_int Tryz.underlying3 h3
 obtain ⟨y4,e4,-,-⟩:=DataW.trod_int Tryz.underlying3 h4
 obtain ⟨y5,e5,-,-⟩:=DataW.trod_int Tryz.underlying3 h5
 obtain ⟨y6,e6,-,-⟩:=DataW.trod_int Tryz.underlying3 h6
 obtain ⟨y7,e7,-,-⟩:=DataW.trod_int Tryz.underlying3 h7
 obtain ⟨y8,e8,-,-⟩:=DataW.trod_int Tryz.underlying3 h8
 obtain ⟨y9,e9,-,-⟩:=DataW.trod_int Tryz.underlying3 h9
 simp only [List.cons.injEq,and_true] at e0 e1 e2 e3 e4 e5 e6 e7 e8 e9
 exact ⟨⟨y0,y1,y2,y3,y4,y5,y6,y7,y8,y9⟩,by rw [e0,e1,e2,e3,e4,e5,e6,e7,e8,e9];rfl⟩
set_option maxRecDepth 100000 in
theorem Z12 {v:Value} {d:DataW H} {p:List MemPlace} (hv:Value.okWide Tryz.prog w r b0 23 v) (h:DataW.Trod enc Tryz.prog w base spare held 23 v d p):∃c:Cf,v=cfgA c:=by
 obtain ⟨cs,rfl,hsz⟩:=okWide_struct Tryz.underlying23 hv
 obtain ⟨m,hm⟩:=h
 obtain ⟨c,e⟩:=Zkq hm
 refine ⟨c,?_⟩
 obtain ⟨l⟩:=cs
 have e':l=_:=e
 rw [e']
 rfl
set_option maxRecDepth 100000 in
theorem Z8k (n:Nat) (cs:List Value) (x:DataW H×List MemPlace) (h:DataW.trod enc Tryz.prog w base spare held n 43 cs=some x):∃a:Bool×Rt,cs=act14 a/\a.2.k.good:=by
 obtain ⟨xs,m,-,-,hl,hxl,hf⟩:=DataW.trod_struct Tryz.underlying43 h
 rw [show Tryz.prog.cellsOf 43=5 by kernel_rfl] at hl
 have h0:DataW.trod enc Tryz.prog w base spare held m 4 ((cs.drop 0).take (Tryz.prog.cellsOf 4))=xs[0]? := hf 0 _ rfl
 have h1:DataW.trod enc Tryz.prog w base spare held m 41 ((cs.drop 1).take (Tryz.prog.cellsOf 41))=xs[1]? := hf 1 _ rfl
 rw [show Tryz.prog.cellsOf 4=1 by kernel_rfl] at h0
 rw [show Tryz.prog.cellsOf 41=4 by kernel_rfl] at h1
 obtain ⟨c0,c1,c2,c3,c4,rfl⟩:∃c0 c1 c2 c3 c4,cs=[c0,c1,c2,c3,c4]:=by
  rcases cs with _ | ⟨c0,_ | ⟨c1,_ | ⟨c2,_ | ⟨c3,_ | ⟨c4,_ | ⟨c5,cs⟩⟩⟩⟩⟩⟩<;>simp at hl
  exact ⟨c0,c1,c2,c3,c4,rfl⟩
 simp only [List.drop_zero,List.take_succ_cons,List.take_zero,List.drop_succ_cons] at h0 h1
 rw [List.getElem?_eq_getElem (by rw [hxl];decide)] at h0 h1
 obtain ⟨a,e0,-⟩:=DataW.trod_bool Tryz.underlying4 h0
 obtain ⟨r,e1,hg⟩:=Z8j _ _ _ h1
 simp only [List.cons.injEq,and_true] at e0
 exact ⟨(a,r),by rw [e0,e1];rfl,hg⟩
set_option maxRecDepth 100000 in
theorem Zq0 {v:Value} {d:DataW H} {p:List MemPlace} (hv:Value.okWide Tryz.prog w r b0 26 v) (h:DataW.Trod enc Tryz.prog w base spare held 26 v d p) :
 ∃(q:Option Addr) (c:Nat) (L:List (Bool×Rt)),v = .slice q L.length c/\RowA 5 act14 w q L/\(∀a∈L,a.2.k.good)/\L.length<=maxLen:=
 haveI:Inhabited (Bool×Rt):=⟨(false,⟨⟨0,0,0⟩,0⟩)⟩
 Zjg Tryz.underlying26 (show Tryz.prog.cellsOf 43=5 by kernel_rfl) (by decide) (fun _ _=>by simp [act14]) Z8k hv h
end
end
section
open Go Go.RowKit Go.Sort M
def atE (E:Eg) (i:Nat):Int:=if i=0 then E.di else (E.L.map Lv.n).getD (i-1) 0
def okE (c:Cf) (levels:List Int):Bool:=okCf c&&Zc7 c.wd c.di c.lv c.st levels
structure EngC (P:World->(Nat->Prop)->Nat->Eg->Prop):Prop where
 bad:∀(c:Cf) (s:Nat) (levels C:List Int) (p q:Option Addr) (k l:Nat) (w:World),W64 s->IRow w p levels->IRow w q C->levels.length<=1000->C.length<=1000->levels.length<=k->C.length<=l->(∀x∈levels,x<=9223372036854775807)->okE c levels=false ->
  Calls Tryz.prog 8 #[cfgA c,.int .u64 (s:Int),.slice p levels.length k,.slice q C.length l] w fun e w'=>e = .returned (.tuple #[.pointer none,.int .i64 1])/\Below w.heap.size w w'
 new:∀(c:Cf) (s:Nat) (levels C:List Int) (p q:Option Addr) (k l:Nat) (w:World),W64 s->IRow w p levels->IRow w q C->levels.length<=1000->C.length<=1000->levels.length<=k->C.length<=l->okE c levels=true ->
  Calls Tryz.prog 8 #[cfgA c,.int .u64 (s:Int),.slice p levels.length k,.slice q C.length l] w fun e w'=>
   ∃t,e = .returned (.tuple #[.pointer (some ⟨t,0,none⟩),.int .i64 0])/\P w' (In w.heap.size w'.heap.size) t (newE c s levels C)/\Below w.heap.size w w'
 put:∀(w:World) (K:Nat->Prop) (t:Nat) (E:Eg) (r:Rt),P w K t E->E.ok->r.k.good->E.R.length<=300 ->
  Calls Tryz.prog 12 #[.pointer (some ⟨t,0,none⟩),rtA r] w fun e w'=>e = .returned (.tuple #[])/\∃K',P w' K' t (E.put r)/\Touch K w w'/\∀g,K' g->K g\/In w.heap.size w'.heap.size g
 del:∀(w:World) (K:Nat->Prop) (t:Nat) (E:Eg) (k:Ky),P w K t E->E.ok->k.good->E.R.length<=300 ->
  Calls Tryz.prog 10 #[.pointer (some ⟨t,0,none⟩),kyV k] w fun e w'=>e = .returned (.bool (decide (k∈Zad E.R)))/\∃K',P w' K' t (E.del k)/\Touch K w w'/\∀g,K' g->K g\/In w.heap.size w'.heap.size g
 look:∀(w:World) (K:Nat->Prop) (t:Nat) (E:Eg) (ah al:Nat),P w K t E->E.ok->E.R.length<=301->W64 ah->W64 al ->
  Calls Tryz.prog 15 #[.pointer (some ⟨t,0,none⟩),.agg #[.int .u64 (ah:Int),.int .u64 (al:Int)]] w fun e w'=>∃p c,e = .returned (.tuple #[.int .i64 (E.hop ah al),.slice p (E.probes ah al).length c])/\IRow w' p (E.probes ah al)/\Below w.heap.size w w'
 routes:∀(w:World) (K:Nat->Prop) (t:Nat) (E:Eg),P w K t E->E.ok->E.R.length<=301 ->
  Calls Tryz.prog 17 #[.pointer (some ⟨t,0,none⟩)] w fun e w'=>Zcf w w' e E.R
 level:∀(w:World) (K:Nat->Prop) (t:Nat) (E:Eg) (i:Nat) (V:Lv),P w K t E->E.ok->E.R.length<=301->E.L[i]? = some V ->
  Calls Tryz.prog 18 #[.pointer (some ⟨t,0,none⟩),.int .i64 (i:Int)] w fun e w'=>∃p c,e = .returned (.tuple #[.slice p (setS E.R (atE E i) V.n).length c,.int .i64 (V.C.length:Int)])/\Row w' p (rcs (setS E.R (atE E i) V.n))/\Below w.heap.size w w'
 right:∀(c:Cf) (w:World),Calls Tryz.prog 22 #[cfgA c] w fun e w'=>e = .returned (.bool (okCf c))/\Below w.heap.size w w'
 touched:∀(w w':World) (K S:Nat->Prop) (t:Nat) (E:Eg),P w K t E->Touch S w w'->(∀g,K g->¬S g)->P w' K t E
theorem EngC.below {P:World->(Nat->Prop)->Nat->Eg->Prop} (D:EngC P) {w w':World} {K:Nat->Prop} {t:Nat} {E:Eg} (h:P w K t E) (hb:Below w.heap.size w w'):P w' K t E:=
 D.touched w w' K (fun _=>False) t E h (Touch.quiet hb) (fun _ _ x=>x)
theorem Zg3 (n:Int):Zak Tryz.prog 9 #[.int .i64 n] (.int .i64 n):=by
 intro w
 go_enter Tryz.func9,Tryz.ntmps9
 go_wp2
 go_ret
 exact ⟨rfl,by go_grown⟩
def Zxb (c:Cf):Bool:=decide ((c.wd<=24\/128<c.wd)/\(c.bt<=4000\/1073741824<c.bt)/\(c.le<=500\/65536<c.le)/\(c.bk<=20\/1000<c.bk))
set_option maxRecDepth 100000 in
theorem Zxa (c:Cf):Zak Tryz.prog 7 #[cfgA c] (.bool (Zxb c)):=by
 intro w
 obtain ⟨wd,di,lv,st,hs,bt,le,bk,rt,hp⟩:=c
 unfold cfgA
 simp only
 go_enter Tryz.func7,Tryz.ntmps7
 go_wp2
 all_goals
  go_ret
  refine ⟨Zai ?_,by go_grown⟩
  unfold Zxb
  rw [Bool.eq_iff_iff]
  simp only [Bool.and_eq_true,Bool.or_eq_true,decide_eq_true_eq,Bool.false_eq_true,Bool.true_eq_false,true_iff,false_iff,iff_true,iff_false,true_and,and_true,true_or,or_true,false_or,or_false]
  omega
structure Zif (w:World) (K:Nat->Prop) (t:Nat) (V:Lv) (lo hi f g u b:Nat) (v:Value):Prop where
 lt:t<w.heap.size
 c0:w.cell? ⟨t,0,none⟩=some (.int .i64 V.n)
 c1:w.cell? ⟨t,1,none⟩=some (.pointer (some ⟨f,0,none⟩))
 c2:w.cell? ⟨t,2,none⟩=some (.pointer (some ⟨u,0,none⟩))
 fil:RFil w lo hi f g V.s V.k V.C
 tab:Tb RBk w u b v V.T
 kt:K t
 kf:∀j,In lo hi j->K j
 kb:∀j,Blk u b v j->K j
 tf:¬In lo hi t
 tb:¬Blk u b v t
 fb:∀j,Blk u b v j->¬In lo hi j
def RLev (w:World) (K:Nat->Prop) (t:Nat) (V:Lv):Prop:=∃lo hi f g u b v,Zif w K t V lo hi f g u b v
theorem RLev.touched {w w':World} {K S:Nat->Prop} {t:Nat} {V:Lv} (H:RLev w K t V) (ht:Touch S w w') (hn:∀j,K j->¬S j):RLev w' K t V:=by
 obtain ⟨lo,hi,f,g,u,b,v,H⟩:=H
 exact ⟨lo,hi,f,g,u,b,v,Nat.lt_of_lt_of_le H.lt ht.size,ht.cell H.c0 (hn _ H.kt),ht.cell H.c1 (hn _ H.kt),ht.cell H.c2 (hn _ H.kt),H.fil.touched ht (fun j h1 h2=>hn _ (H.kf j ⟨h1,h2⟩)),H.tab.touched Zt3 ht (fun j hj=>hn _ (H.kb j hj)),H.kt,H.kf,H.kb,H.tf,H.tb,H.fb⟩
theorem RLev.below {w w':World} {K:Nat->Prop} {t:Nat} {V:Lv} (H:RLev w K t V) (hb:Below w.heap.size w w'):RLev w' K t V:=H.touched (S:=fun _=>False) (Touch.quiet hb) (fun _ _ x=>x)
def Z2m (V:Lv) (ah al:Nat):Value := .tuple #[.int .i64 ((V.hit ah al).getD 0),.bool (V.hit ah al).isSome,.bool (V.may ah al)]
def lkD (kh kl:Nat) (n:Int) (S:Nat) (i:Nat) (v:Value) (W:World):Prop:=
 match i with
 | 5=>v = .agg #[.int .u64 (kh:Int),.int .u64 (kl:Int)]
 | 10=>v = .agg #[.int .u64 (kh:Int),.int .u64 (kl:Int),.int .i64 n]
 | 11=>∃b,v = .pointer (some ⟨b,0,none⟩)/\S<=b/\b<W.heap.size/\W.cell? ⟨b,0,none⟩=some (.int .u64 0)/\W.cell? ⟨b,1,none⟩=some (.int .u64 0)/\W.cell? ⟨b,2,none⟩=some (.int .i64 0)/\∀j,W.frozen? ⟨b,j,none⟩=false
 | _=>True
theorem Zvo (kh kl:Nat) (n:Int) (S:Nat):∀i v W W',Below W.heap.size W W'->lkD kh kl n S i v W->lkD kh kl n S i v W':=by
 intro i v W W' hb h
 unfold lkD at h ⊢
 split at h
 ·exact h
 ·exact h
 ·obtain ⟨b,e,h1,h2,h3,h4,h5,h6⟩:=h
  exact ⟨b,e,h1,Nat.lt_of_lt_of_le h2 hb.size,(hb.cell (p:=⟨b,0,none⟩) h2).trans h3,(hb.cell (p:=⟨b,1,none⟩) h2).trans h4,(hb.cell (p:=⟨b,2,none⟩) h2).trans h5,fun j=>(hb.frozen (p:=⟨b,j,none⟩) h2).trans (h6 j)⟩
 ·trivial
def lgD (hv:Int) (hs:Bool) (n:Nat) (i:Nat) (v:Value) (_:World):Prop:=
 match i with
 | 5=>∃p c,v = .tuple #[.int .i64 hv,.bool hs,.slice p n c]
 | 6=>∃p c,v = .tuple #[.int .i64 hv,.bool hs,.slice p n c]
 | 7=>v = .int .i64 hv
 | 8=>v = .bool hs
 | 10=>v = .int .i64 hv
 | 11=>v = .bool hs
 | _=>True
structure LevC (P:World->(Nat->Prop)->Nat->Lv->Prop):Prop where
 bad:∀(n k m b:Int) (s:Nat) (w:World),W64 s->badV n k m b ->
  Calls Tryz.prog 26 #[.int .i64 n,.int .u64 (s:Int),.int .i64 k,.int .i64 m,.int .i64 b] w fun e w'=>e = .returned (.tuple #[.pointer none,.int .i64 1])/\Below w.heap.size w w'
 new:∀(n k:Int) (s m b:Nat) (w:World),W64 s->¬badV n k m b ->
  Calls Tryz.prog 26 #[.int .i64 n,.int .u64 (s:Int),.int .i64 k,.int .i64 (m:Int),.int .i64 (b:Int)] w fun e w'=>
   ∃t,e = .returned (.tuple #[.pointer (some ⟨t,0,none⟩),.int .i64 0])/\P w' (In w.heap.size w'.heap.size) t (newV n s k m b)/\Below w.heap.size w w'
 turn:∀(w:World) (K:Nat->Prop) (t:Nat) (V:Lv) (N:List Rt) (p:Option Addr) (c:Nat) (L:List Ch),P w K t V->LvOk V N->(∀x∈L,x.k.good)->N.length+L.length<=100000->L.length<=c->Row w p (ccs L)->(∀a,p=some a->¬K a.block) ->
  Calls Tryz.prog 57 #[.pointer (some ⟨t,0,none⟩),.slice p L.length c] w fun e w'=>e = .returned (.tuple #[])/\∃K',P w' K' t (V.turns L)/\Touch K w w'/\∀g,K' g->K g\/In w.heap.size w'.heap.size g
 look:∀(w:World) (K:Nat->Prop) (t:Nat) (V:Lv) (N:List Rt) (ah al:Nat),P w K t V->LvOk V N->N.length<=100000->0<=V.n->W64 ah->W64 al ->
  Calls Tryz.prog 38 #[.pointer (some ⟨t,0,none⟩),.agg #[.int .u64 (ah:Int),.int .u64 (al:Int)]] w fun e w'=>e = .returned (Z2m V ah al)/\Below w.heap.size w w'
 keys:∀(w:World) (K:Nat->Prop) (t:Nat) (V:Lv) (N:List Rt),P w K t V->LvOk V N->N.length<=100000 ->
  Calls Tryz.prog 43 #[.pointer (some ⟨t,0,none⟩)] w fun e w'=>∃p c,e = .returned (.slice p N.length c)/\Row w' p (rcs N)/\Below w.heap.size w w'
 bits:∀(w:World) (K:Nat->Prop) (t:Nat) (V:Lv),P w K t V ->
  Calls Tryz.prog 39 #[.pointer (some ⟨t,0,none⟩)] w fun e w'=>e = .returned (.int .i64 V.n)/\Below w.heap.size w w'
 touched:∀(w w':World) (K S:Nat->Prop) (t:Nat) (V:Lv),P w K t V->Touch S w w'->(∀g,K g->¬S g)->P w' K t V
section
variable {P:World->(Nat->Prop)->Nat->Lv->Prop}
theorem LevC.below (D:LevC P) {w w':World} {K:Nat->Prop} {t:Nat} {V:Lv} (h:P w K t V) (hb:Below w.heap.size w w'):P w' K t V:=
 D.touched w w' K (fun _=>False) t V h (Touch.quiet hb) (fun _ _ x=>x)
end
section
variable {P:World->(Nat->Prop)->Nat->Lv->Prop}
end
structure Z67 (P:World->(Nat->Prop)->Nat->Lv->Prop) (w0 wr:World) (t:Nat) (V:Lv) (N:List Rt) (q:Option Addr) (c:Nat) (K:Nat->Prop):Prop where
 lev:P wr K t V
 ok:LvOk V N
 top:∀g,K g->w0.heap.size<=g/\g<wr.heap.size
 own:wr.ownsRow w0.heap.size 41 4 (.slice q N.length c) N.length (rcs N)
 far:∀j,(Value.slice q N.length c).ownBlock=some j->¬K j
 below:Below w0.heap.size w0 wr
section
variable {P:World->(Nat->Prop)->Nat->Lv->Prop}
theorem Z67.grow (D:LevC P) {w0 wr w':World} {t:Nat} {V:Lv} {N:List Rt} {q:Option Addr} {c:Nat} {K:Nat->Prop} (h:Z67 P w0 wr t V N q c K) (hb:Below wr.heap.size wr w'):Z67 P w0 w' t V N q c K:=
 ⟨D.below h.lev hb,h.ok,fun g hg=>⟨(h.top g hg).1,Nat.lt_of_lt_of_le (h.top g hg).2 hb.size⟩,own_below h.own hb,h.far,h.below.trans (hb.mono h.below.size)⟩
theorem LvOk.good {V:Lv} {N:List Rt} (H:LvOk V N):∀r∈N,r.k.good:=fun r hr=>H.kept.inv.good r (H.kept.all.mem_iff.2 hr)
end
theorem Zov (ah al:Nat):∀(M:List Lv),(Zam ah al M).1.isSome=true->0<(Zam ah al M).2.length
 | [],h=>by cases h
 | V::M,h=>by
  have e:Zam ah al (V::M)=if V.may ah al then (match V.hit ah al with
   | some v=>(some v,[V.n])
   | none=>((Zam ah al M).1,V.n::(Zam ah al M).2)) else Zam ah al M:=rfl
  rw [e] at h ⊢
  by_cases hm:V.may ah al=true
  ·rw [if_pos hm]
   cases V.hit ah al with
   | some v=>exact Nat.zero_lt_one
   | none=>exact Nat.succ_pos _
  ·rw [if_neg hm] at h ⊢
   exact Zov ah al M h
def c22:Cf:=⟨8,2,2,4,2,64,8,2,9,4⟩
def r22:Rt:=⟨⟨0,0,5⟩,3⟩
def e22:Eg:=newE c22 1 [6,8] []
theorem Z9a:okE c22 [6,8]=true:=by decide
theorem Zln:e22.ok:=Zye (by decide) (by decide)
theorem Zi3:r22.k.good:=⟨W64.mk (by decide),W64.mk (by decide)⟩
theorem z64:W64 0:=W64.mk (by decide)
theorem Zzw:e22.hop 0 0 = -1:=by
 rw [Zln.longest z64 z64]
 have:Zbi (depV e22.R (e22.cutA 0 0).h (e22.cutA 0 0).l) (-1) e22.wd 129=none:=Zdy.2 fun m _ h=>by
  have h2:=h.2.2
  have e:depV e22.R (e22.cutA 0 0).h (e22.cutA 0 0).l m=none:=rfl
  rw [e] at h2
  cases h2
 rw [this]
 rfl
theorem Z6n:(e22.put r22).R=[r22]:=by
 rw [Z7w]
 rfl
theorem Zv3:(e22.put r22).hop 0 0=3:=by
 rw [(Zln.put r22 Zi3).longest z64 z64,Z6n]
 have h1:(e22.put r22).wd=8:=Z0x _ _
 have h2:(e22.put r22).cutA 0 0=cutK 0 0 8:=by unfold Eg.cutA;rw [h1];rfl
 rw [h1,h2]
 rfl
theorem Zv4:1<=((e22.put r22).probes 0 0).length:=by
 have hok:=Zln.put r22 Zi3
 have h1:(e22.put r22).wd=8:=Z0x _ _
 have h2:(e22.put r22).cutA 0 0=cutK 0 0 8:=by unfold Eg.cutA;rw [h1];rfl
 have h3:(e22.put r22).di=2:=Z7b _ _
 have h:=Zjz hok.rts (ah:=(cutK 0 0 8).h) (al:=(cutK 0 0 8).l) (W64.cut _ z64) (W64.cut _ z64) _ _ hok.lev
 rw [hok.top,Z6n,h1,h3] at h
 unfold Eg.probes
 rw [h2]
 refine Zov _ _ _ ?_
 rw [h]
 rfl
section
variable {P:World->(Nat->Prop)->Nat->Eg->Prop}
set_option maxRecDepth 100000 in
theorem Zr1 (D:EngC P) (w:World):Calls Tryz.prog 6 #[] w fun e w'=>e = .returned (.bool true)/\Below w.heap.size w w':=by
 have h1:Hid (∀W p,IRow W p [6,8]->Calls Tryz.prog 8 #[.agg #[.int .i64 8,.int .i64 2,.int .i64 2,.int .i64 4,.int .i64 2,.int .i64 64,.int .i64 8,.int .i64 2,.int .i64 9,.int .i64 4],.int .u64 1,.slice p 2 2,.slice none 0 0] W fun e w'=>
  ∃t,e = .returned (.tuple #[.pointer (some ⟨t,0,none⟩),.int .i64 0])/\P w' (In W.heap.size w'.heap.size) t e22/\Below W.heap.size W w'):=
  hid fun W p h=>D.new c22 1 [6,8] [] p none 2 0 W (W64.mk (by decide)) h (.inl rfl) (by decide) (by decide) (by decide) (by decide) Z9a
 have h2:Hid (∀W K t,P W K t e22->Calls Tryz.prog 15 #[.pointer (some ⟨t,0,none⟩),.agg #[.int .u64 0,.int .u64 0]] W fun e w'=>∃p n c,e = .returned (.tuple #[.int .i64 (-1),.slice p n c])/\Below W.heap.size W w'):=
  hid fun W K t h=>by
   have:=D.look W K t e22 0 0 h Zln (by decide) z64 z64
   rw [Zzw] at this
   exact this.mono fun e w' ⟨p,c,h1,_,h3⟩=>⟨p,_,c,h1,h3⟩
 have h3:Hid (∀W K t,P W K t e22->Calls Tryz.prog 12 #[.pointer (some ⟨t,0,none⟩),.agg #[.int .u64 0,.int .u64 0,.int .i64 5,.int .i64 3]] W fun e w'=>e = .returned (.tuple #[])/\∃K',P w' K' t (e22.put r22)/\Touch K W w'/\∀g,K' g->K g\/In W.heap.size w'.heap.size g):=
  hid fun W K t h=>D.put W K t e22 r22 h Zln Zi3 (by decide)
 have h4:Hid (∀W K t,P W K t (e22.put r22)->Calls Tryz.prog 15 #[.pointer (some ⟨t,0,none⟩),.agg #[.int .u64 0,.int .u64 0]] W fun e w'=>∃p n c,e = .returned (.tuple #[.int .i64 3,.slice p n c])/\1<=n/\Below W.heap.size W w'):=
  hid fun W K t h=>by
   have:=D.look W K t (e22.put r22) 0 0 h (Zln.put r22 Zi3) (by rw [Z6n];decide) z64 z64
   rw [Zv3] at this
   exact this.mono fun e w' ⟨p,c,h1,_,h3⟩=>⟨p,_,c,h1,Zv4,h3⟩
 have h5:Hid (∀W,Calls Tryz.prog 22 #[.agg #[.int .i64 8,.int .i64 2,.int .i64 2,.int .i64 4,.int .i64 2,.int .i64 64,.int .i64 8,.int .i64 2,.int .i64 9,.int .i64 4]] W fun e w'=>e = .returned (.bool true)/\Below W.heap.size W w'):=
  hid fun W=>by
   have:=D.right c22 W
   rw [show okCf c22=true by decide] at this
   exact this
 have HD:=hid D
 go_enter Tryz.func6,Tryz.ntmps6
 go_wp2_with fail
 generalize hwA:World.alloc (World.alloc w _) _=wA
 have hA:Below w.heap.size w wA:=by rw [<-hwA];go_grown
 have hz:w.heap.size<wA.heap.size:=by rw [<-hwA];simp;omega
 have hrow:IRow wA (some ⟨w.heap.size+1,0,none⟩) [6,8]:=by
  rw [<-hwA]
  refine .inr ⟨w.heap.size+1,0,by simp,by simp,fun j u hu => ?_⟩
  match j,hu with
  | 0,hu=>simp [ics] at hu;subst hu;simp [go_sem]
  | 1,hu=>simp [ics] at hu;subst hu;simp [go_sem]
 have hcell:Hid (∀wx,Below wA.heap.size wA wx->(wx.cell? ⟨w.heap.size,0,none⟩=some (.int .i64 8)/\wx.cell? ⟨w.heap.size,1,none⟩=some (.int .i64 2)/\wx.cell? ⟨w.heap.size,2,none⟩=some (.int .i64 2)/\wx.cell? ⟨w.heap.size,3,none⟩=some (.int .i64 4)/\wx.cell? ⟨w.heap.size,4,none⟩=some (.int .i64 2)) /\
  (wx.cell? ⟨w.heap.size,5,none⟩=some (.int .i64 64)/\wx.cell? ⟨w.heap.size,6,none⟩=some (.int .i64 8)/\wx.cell? ⟨w.heap.size,7,none⟩=some (.int .i64 2)/\wx.cell? ⟨w.heap.size,8,none⟩=some (.int .i64 9)/\wx.cell? ⟨w.heap.size,9,none⟩=some (.int .i64 4))/\w.heap.size<wx.heap.size):=by
  refine hid fun wx h=>⟨⟨(h.cell (p:=⟨w.heap.size,0,none⟩) hz).trans ?_,(h.cell (p:=⟨w.heap.size,1,none⟩) hz).trans ?_,(h.cell (p:=⟨w.heap.size,2,none⟩) hz).trans ?_,(h.cell (p:=⟨w.heap.size,3,none⟩) hz).trans ?_,(h.cell (p:=⟨w.heap.size,4,none⟩) hz).trans ?_⟩,⟨(h.cell (p:=⟨w.heap.size,5,none⟩) hz).trans ?_,(h.cell (p:=⟨w.heap.size,6,none⟩) hz).trans ?_,(h.cell (p:=⟨w.heap.size,7,none⟩) hz).trans ?_,(h.cell (p:=⟨w.heap.size,8,none⟩) hz).trans ?_,(h.cell (p:=⟨w.heap.size,9,none⟩) hz).trans ?_⟩,Nat.lt_of_lt_of_le hz h.size⟩<;>rw [<-hwA]<;>simp [go_sem]
 have hrw:=hid hrow
 clear hwA hrow
 refine (h1.out _ _ hrw.out).mono ?_
 rintro e w1 ⟨t,rfl,hP,hb1⟩
 have HP:=hid hP
 clear hP h1 hrw
 go_wp2_with fail
 refine (Zg3 0 _).mono ?_
 rintro e w2 ⟨rfl,hb2⟩
 have HP2:=hid (HD.out.below HP.out hb2)
 have hw2:=hb1.trans (hb2.mono hb1.size)
 have hz1:=hb1.size
 have hz2:=hb2.size
 clear HP hb2 hb1
 go_wp2_with fail
 refine (h2.out _ _ _ HP2.out).mono ?_
 rintro e w3 ⟨p3,n3,c3,rfl,hb3⟩
 have HP3:=hid (HD.out.below HP2.out hb3)
 have hw3:=hw2.trans (hb3.mono hw2.size)
 have hz3:=hb3.size
 clear HP2 hb3 hw2
 go_wp2_with fail
 refine (h3.out _ _ _ HP3.out).mono ?_
 rintro e w4 ⟨rfl,K',hP4,hT4,-⟩
 have HP4:=hid hP4
 have hw4:Below wA.heap.size wA w4:=hw3.trans (hT4.below (by omega) (fun j hj=>hj.1))
 clear HP3 hP4 hT4 hw3
 go_wp2_with fail
 refine (h4.out _ _ _ HP4.out).mono ?_
 rintro e w5 ⟨p5,n5,c5,rfl,hn5,hb5⟩
 have hw5:=hw4.trans (hb5.mono hw4.size)
 obtain ⟨⟨k0,k1,k2,k3,k4⟩,⟨k5,k6,k7,k8,k9⟩,kl⟩:=hcell.out w5 hw5
 have n1:(1:Int)<=(n5:Int):=by omega
 clear HP4 hb5 hw4
 go_wp2_with fail
 refine (h5.out _).mono ?_
 rintro e w6 ⟨rfl,hb6⟩
 have hw6:=hA.trans ((hw5.trans (hb6.mono hw5.size)).mono hA.size)
 clear k0 k1 k2 k3 k4 k5 k6 k7 k8 k9 hb6
 go_wp2
 go_ret
 exact ⟨rfl,hw6⟩
end
end
end Go.Proofs.YtgfjmgebecmbiaaGreat

/-
  flocculuslaw16's alive and HistoMore as walks: they hand back true, for every input. No condition but that a row's length is at most its capacity.
-/
import Derived.Test.YtgfjmgebecmbiaaGreatReg2
import Derived.Deep.RegionLaw
import Derived.Lib.SliceRun
import Derived.Laws.CopyRow
import Derived.Test.YtgfjmgebecmbiaaGreatCT
import Derived.Test.YtgfjmgebecmbiaaGreatReg6
import Derived.Lib.Overlaps
import Derived.Laws.Externs
import Derived.Laws.NewBlocks
import Derived.Test.YtgfjmgebecmbiaaGreatW16
import Derived.Test.YtgfjmgebecmbiaaGreatM12
import Derived.Deep.LoopGhost
import Derived.Deep.DeepCutAuto
import Derived.Test.YtgfjmgebecmbiaaGreatM10
import Derived.Maps.AppendAt
set_option linter.unusedSimpArgs false
set_option linter.unusedVariables false
namespace Go.Proofs.YtgfjmgebecmbiaaGreat
open Go.RowKit Go.Sort M
section
variable {P:Program}
theorem setCells_row {w:World} {g o:Nat} {cur:Array Value} {t:TypeId} {vs:List Value} (hg:w.heap[g]? = some (.cells cur t (0,0))) (hfit:o+vs.length<=cur.size) (h1:∀v∈vs,v.oneCell'=true) :
 w.setCells g o vs=w.setRow g (splice cur.toList o vs).toArray:=by
 have hst:=run_storeCells_at Tryz.prog g o t vs 0 cur w hg (by simpa using hfit) h1
 have hc:∀j,j<vs.length->(w.cell? ⟨g,o+0+j,none⟩).isSome=true:=by
  intro j hj
  rw [cell_of_row w g _ cur t (0,0) hg,Array.getElem?_eq_getElem (by omega)]
  rfl
 have hf:∀j,j<vs.length->w.frozen? ⟨g,o+0+j,none⟩=false:=fun j _=>frozen_of_row w g _ cur t hg
 have hst2:=run_storeCells_cells (P:=Tryz.prog) g o vs 0 w hc hf h1
 rw [hst2] at hst
 injection hst with _ hst
 simp only [Nat.add_zero] at hst
 rw [hst]
 simp [splice]
theorem step_append_rt {ops:Array Oper} {o:Oper} {a:Act} {w:World} {K:Act->World->Prop} {Q:Exit->Act->World->Prop} {E:Prop}
 (hg:o.guard=none) (s x:Operand) (t:TypeId) (hop:o.op=Op.call { callee:=Callee.builtin Builtin.append,args := #[s,x],argTypes := #[t,t] })
 (e:TypeId) (i:TypeInfo) (size:Nat) (h1:P.underlying t=some (.slice e)) (h2:P.info? e=some i) (h4:i.size=size)
 (b off n cap:Nat) (hs:a.eval s = .slice (some ⟨b,off,none⟩) n cap) (nm:Nat) (off2:Nat) (ho2:off+n*size=off2)
 (ad:Addr) (m c:Nat) (news:List Value) (hx:a.eval x = .slice (some ad) m c) (hnm:n+m=nm) (hn:news.length=m*size) (hc:∀j u,news[j]? = some u->w.cell? (ad.add j)=some u) (h1c:∀u∈news,u.oneCell'=true)
 (hroom:nm<=cap) (cur:Array Value) (ty:TypeId) (hb:w.heap[b]? = some (.cells cur ty (0,0))) (hfit:off2+news.length<=cur.size)
 (hK:∀w',Hid (w'.heap[b]? = some (.cells (splice cur.toList off2 news).toArray ty (0,0)))->w.grownBy w' (some b)->K (a.put o.dst (.slice (some ⟨b,off,none⟩) nm cap)) w') :
 if Region.wanted o (yielded ops a.tmps)=true then Oper.wp P o a w K Q else E:=by
 subst hnm ho2
 refine step_append_room hg s x t hop e i size h1 h2 h4 b off n cap hs ad m c news hx hn hc h1c hroom (fun j hj => ?_) ?_
 ·constructor
  ·rw [cell_of_row w b _ cur ty (0,0) hb,Array.getElem?_eq_getElem (by omega)]
   rfl
  ·exact frozen_of_row w b _ cur ty hb
 ·rw [setCells_row hb hfit h1c]
  exact hK _ (show _=_ from setRow_heap w b cur _ ty _ hb) (grown_setRow w b _)
theorem run_clear_one (w:World) (t e ty:TypeId) (z:Value) (zs:List Value) (ht:P.underlying t=some (.slice e)) (hv:∀w,(zeroValue e).run P w = .ok z w) (hz:(Builtin.zeroCells z.cells 1).toList=zs) (h1:∀v∈zs,v.oneCell'=true)
 (g o c:Nat) (cur:Array Value) (tg:TypeId) (hg:w.heap[g]? = some (.cells cur tg (0,0))) (hfit:o+zs.length<=cur.size) :
 (Builtin.clear_ #[t] ty #[.slice (some ⟨g,o,none⟩) 1 c]).run P w = .ok (.tuple #[]) (w.setRow g (splice cur.toList o zs).toArray):=by
 have hst:=run_storeCells_at P g o tg zs 0 cur w hg (by simpa using hfit) h1
 simp [Builtin.clear_,run_underlying ht,hv,hz,hst,splice]
end
theorem splice_mid {α:Type} (L:List α) (o:Nat) (cs:List α) (ho:o<=L.length):(splice L o cs).take (o+cs.length)=L.take o++cs:=by
 unfold splice
 rw [<-List.append_assoc]
 exact List.take_left' (by rw [List.length_append,List.length_take,Nat.min_eq_left ho])
def rt4:List Value:=[.int .u64 0,.int .u64 0,.int .i64 0,.int .i64 0]
theorem zero_rt (w:World):(zeroValue 41).run Tryz.prog w = .ok (.agg #[.int .u64 0,.int .u64 0,.int .i64 0,.int .i64 0]) w:=by
 obtain ⟨i0,hi0,iz0,-,-⟩:=info_parts infoR
 simp [zeroValue,typeInfo,hi0,iz0]
theorem zero_rt4:(Builtin.zeroCells (Value.agg #[.int .u64 0,.int .u64 0,.int .i64 0,.int .i64 0]).cells 1).toList=rt4:=by kernel_rfl
set_option maxRecDepth 100000 in
set_option maxHeartbeats 4000000 in
theorem delete_at (g c m i:Nat) (cur:Array Value) (L:List Rt) (w:World) (hn:L.length=m+1) (hg:w.heap[g]? = some (.cells cur 41 (0,0))) (hc:m+1<=c) (hcm:c<=maxLen) (hcs:cur.size=c*4) (htk:cur.toList.take ((m+1)*4)=rcs L)
 (hi:i<m+1) (hL:m<1048576) :
 Calls Tryz.prog 31 #[.slice (some ⟨g,0,none⟩) (m+1) c,.int .i64 (i:Int),.int .i64 ((i:Int)+1)] w fun e w'=>e = .returned (.slice (some ⟨g,0,none⟩) m c)/\w'.ownsRow 0 41 4 (.slice (some ⟨g,0,none⟩) m c) m (rcs (L.take i++L.drop (i+1)))/\w.grownBy w' (some g):=by
 obtain ⟨i0,hi0,iz0,iz1,iz2⟩:=info_parts infoR
 have hdl:(L.drop (i+1)).length=m+1-(i+1):=by rw [List.length_drop,hn]
 have hd4:(rcs (L.drop (i+1))).length=(m-i)*4:=by rw [rcs_len,hdl];omega
 have hX:=cells_at hg ((i+1)*4) (rcs (L.drop (i+1))) (by
  rw [hd4,<-rcs_drop,<-htk,List.drop_take]
  congr 1
  omega)
 have hone:∀u∈rcs (L.drop (i+1)),u.oneCell'=true:=rcs_one' _
 have b0:¬((i:Int)=(i:Int)+1):=by omega
 have b1:(0:Int)<=(i:Int)+1:=by omega
 have b2:(i:Int)+1<=(m:Int)+1:=by omega
 have b3:(i:Int)<=(i:Int)+1:=by omega
 have b4:((i:Int)+1).toNat=i+1:=by omega
 have b5:(i:Int)<=(c:Int):=by omega
 have b6:(m:Int)+1<=(c:Int):=by omega
 generalize hX2:rcs (L.drop (i+1))=X2 at *
 by_cases hci:c=i+1
 ·have hx0:X2=[]:=List.length_eq_zero_iff.1 (by rw [hd4];omega)
  have hX:∀j u,X2[j]? = some u->w.cell? ((⟨g,0,none⟩:Addr).add j)=some u:=fun j u h=>by rw [hx0] at h;simp at h
  obtain rfl:i=m:=by omega
  subst hci
  clear hx0
  go_enter Tryz.func31,Tryz.ntmps31
  go_wp2
  go_region_law (refine step_append_rt rfl (.tmp 22) (.tmp 25) 35 rfl 41 i0 4 Tryz.underlying35 hi0 iz1 g 0 i (i+1) (by simp [Act.eval,Act.put]) (i) (i*4) (by omega) ⟨g,0,none⟩ (0) (0) X2 (by simp [Act.eval,Act.put]) (by omega) (by first|exact hd4|(rw [hd4];omega)) (fun j u h=>hX j u h) hone (by omega) cur 41 hg (by omega) ?_;intro w4 hg4 hb4)
  have hsl:(splice cur.toList (i*4) X2).length=(i+1)*4:=by rw [length_splice _ _ _ (by rw [hd4,Array.length_toList,hcs];omega),Array.length_toList,hcs]
  obtain ⟨cur4,hcur4⟩:∃x,x=splice cur.toList (i*4) X2:=⟨_,rfl⟩
  have hg4:Hid (w4.heap[g]? = some (.cells cur4.toArray 41 (0,0))):=by show _=_;rw [hcur4];exact hg4.out
  rw [<-hcur4] at hsl
  have hgw4:Hid (w.grownBy w4 (some g)):=(⟨hb4.os,hb4.tape,hb4.output,hb4.size,hb4.block⟩:w.grownBy w4 (some g))
  have HC4:=Lib.hid hcur4.symm
  have HX2:=Lib.hid hX2
  have HTK:=Lib.hid htk
  have HD4:=Lib.hid hd4
  have HG4:=Lib.hid hg4
  have hcl:∀ty,(Builtin.clear_ #[35] ty #[.slice (some ⟨g,(i)*4,none⟩) 1 (1)]).run Tryz.prog w4 = .ok (.tuple #[]) (w4.setRow g (splice cur4.toArray.toList ((i)*4) rt4).toArray):=fun ty=>run_clear_one w4 _ _ ty _ rt4 Tryz.underlying35 zero_rt zero_rt4 (by simp [rt4,Value.oneCell']) g ((i)*4) _ _ _ hg4.out (by simp [rt4,hsl];omega)
  clear hcur4 hX hg htk hX2 hone hb4 hd4 hdl
  have hw5:=setRow_heap w4 g cur4.toArray (splice cur4 ((i)*4) rt4).toArray 41 (0,0) hg4.out
  have hgw5:=World.grownBy.trans hgw4.out (grown_setRow w4 g (splice cur4 ((i)*4) rt4).toArray)
  have HW5:=Lib.hid hw5
  have HGW5:=Lib.hid hgw5
  have HSL:=Lib.hid hsl
  clear hw5 hgw5 hg4
  go_wp2
  go_ret
  refine ⟨rfl,own_made (Nat.zero_le _) HW5.out (by omega) hcm (by rw [List.size_toArray,length_splice _ _ _ (by simp [rt4,HSL.out];omega),HSL.out]) ?_,HGW5.out⟩
  have h1:=splice_mid cur.toList (i*4) X2 (by rw [Array.length_toList,hcs];omega)
  rw [HD4.out,show i*4+((i)-i)*4=(i)*4 by omega,HC4.out] at h1
  have h2:=splice_take cur4 ((i)*4) ((i)*4) rt4 (Nat.le_refl _) (by rw [HSL.out];omega)
  rw [List.toList_toArray,h2,h1,rcs_append,HX2.out]
  congr 1
  have h3:=congrArg (List.take (i*4)) HTK.out
  rw [List.take_take,Nat.min_eq_left (by omega),rcs_take] at h3
  exact h3
 ·skip
  go_enter Tryz.func31,Tryz.ntmps31
  go_wp2
  go_region_law (refine step_append_rt rfl (.tmp 22) (.tmp 25) 35 rfl 41 i0 4 Tryz.underlying35 hi0 iz1 g 0 i (c) (by simp [Act.eval,Act.put]) (m) (i*4) (by omega) ⟨g,(i+1)*4,none⟩ (m-i) (c-(i+1)) X2 (by simp [Act.eval,Act.put]) (by omega) (by first|exact hd4|(rw [hd4];omega)) (fun j u h=>hX j u h) hone (by omega) cur 41 hg (by omega) ?_;intro w4 hg4 hb4)
  have hsl:(splice cur.toList (i*4) X2).length=(c)*4:=by rw [length_splice _ _ _ (by rw [hd4,Array.length_toList,hcs];omega),Array.length_toList,hcs]
  obtain ⟨cur4,hcur4⟩:∃x,x=splice cur.toList (i*4) X2:=⟨_,rfl⟩
  have hg4:Hid (w4.heap[g]? = some (.cells cur4.toArray 41 (0,0))):=by show _=_;rw [hcur4];exact hg4.out
  rw [<-hcur4] at hsl
  have hgw4:Hid (w.grownBy w4 (some g)):=(⟨hb4.os,hb4.tape,hb4.output,hb4.size,hb4.block⟩:w.grownBy w4 (some g))
  have HC4:=Lib.hid hcur4.symm
  have HX2:=Lib.hid hX2
  have HTK:=Lib.hid htk
  have HD4:=Lib.hid hd4
  have HG4:=Lib.hid hg4
  have hcl:∀ty,(Builtin.clear_ #[35] ty #[.slice (some ⟨g,(m)*4,none⟩) 1 (c-m)]).run Tryz.prog w4 = .ok (.tuple #[]) (w4.setRow g (splice cur4.toArray.toList ((m)*4) rt4).toArray):=fun ty=>run_clear_one w4 _ _ ty _ rt4 Tryz.underlying35 zero_rt zero_rt4 (by simp [rt4,Value.oneCell']) g ((m)*4) _ _ _ hg4.out (by simp [rt4,hsl];omega)
  clear hcur4 hX hg htk hX2 hone hb4 hd4 hdl
  have hw5:=setRow_heap w4 g cur4.toArray (splice cur4 ((m)*4) rt4).toArray 41 (0,0) hg4.out
  have hgw5:=World.grownBy.trans hgw4.out (grown_setRow w4 g (splice cur4 ((m)*4) rt4).toArray)
  have HW5:=Lib.hid hw5
  have HGW5:=Lib.hid hgw5
  have HSL:=Lib.hid hsl
  clear hw5 hgw5 hg4
  go_wp2
  go_ret
  refine ⟨rfl,own_made (Nat.zero_le _) HW5.out (by omega) hcm (by rw [List.size_toArray,length_splice _ _ _ (by simp [rt4,HSL.out];omega),HSL.out]) ?_,HGW5.out⟩
  have h1:=splice_mid cur.toList (i*4) X2 (by rw [Array.length_toList,hcs];omega)
  rw [HD4.out,show i*4+((m)-i)*4=(m)*4 by omega,HC4.out] at h1
  have h2:=splice_take cur4 ((m)*4) ((m)*4) rt4 (Nat.le_refl _) (by rw [HSL.out];omega)
  rw [List.toList_toArray,h2,h1,rcs_append,HX2.out]
  congr 1
  have h3:=congrArg (List.take (i*4)) HTK.out
  rw [List.take_take,Nat.min_eq_left (by omega),rcs_take] at h3
  exact h3
theorem swapC_cases {C:List Pl} (h4:C.length=4) (i:Int) (k:Ky) (v:Int) :
 (∃j:Nat,∃hj:j<C.length,∃r,i=(j:Int)/\C[j]=some r/\swapC C i k v=some (r,C.set j (some ⟨k,v⟩)))\/(∃j:Nat,∃hj:j<C.length,i=(j:Int)/\C[j]=none/\swapC C i k v=none)\/(¬(0<=i/\i<4)/\swapC C i k v=none):=by
 by_cases h:0<=i/\i<4
 ·obtain ⟨j,rfl⟩:=Int.eq_ofNat_of_zero_le h.1
  have hj:j<C.length:=by omega
  have e:swapC C (j:Int) k v=match C[j] with | some r=>some (r,C.set j (some ⟨k,v⟩)) | none=>none:=by
   unfold swapC
   rw [if_pos h.1,Int.toNat_natCast,List.getD_eq_getElem?_getD,List.getElem?_eq_getElem hj]
   rfl
  rw [e]
  cases hc:C[j] with
  | none=>exact .inr (.inl ⟨j,hj,rfl,hc,rfl⟩)
  | some r=>exact .inl ⟨j,hj,r,rfl,hc,rfl⟩
 ·refine .inr (.inr ⟨h,?_⟩)
  unfold swapC
  split
  ·rw [List.getD_eq_getElem?_getD,List.getElem?_eq_none (by omega)]
   rfl
  ·rfl
def outV (o:Option (Rt×List Pl)):Value := .tuple #[kyV ((o.map Prod.fst).getD ⟨⟨0,0,0⟩,0⟩).k,.int .i64 ((o.map Prod.fst).getD ⟨⟨0,0,0⟩,0⟩).v,.bool o.isSome]
theorem outV_none:outV none = .tuple #[.agg #[.int .u64 0,.int .u64 0,.int .i64 0],.int .i64 0,.bool false]:=rfl
theorem outV_some (r:Rt) (C:List Pl):outV (some (r,C)) = .tuple #[.agg #[.int .u64 (r.k.h:Int),.int .u64 (r.k.l:Int),.int .i64 r.k.n],.int .i64 r.v,.bool true]:=rfl
structure Three (w w3:World) (k:Ky) (q:List Value):Prop where
 below:Below w.heap.size w w3
 size:w3.heap.size=w.heap.size+3
 b0:w3.cell? ⟨w.heap.size,0,none⟩=some (.int .u64 (k.h:Int))
 b1:w3.cell? ⟨w.heap.size,1,none⟩=some (.int .u64 (k.l:Int))
 b2:w3.cell? ⟨w.heap.size,2,none⟩=some (.int .i64 k.n)
 o0:w3.cell? ⟨w.heap.size+1,0,none⟩=some (.int .u64 0)
 o1:w3.cell? ⟨w.heap.size+1,1,none⟩=some (.int .u64 0)
 o2:w3.cell? ⟨w.heap.size+1,2,none⟩=some (.int .i64 0)
 p0:w3.frozen? ⟨w.heap.size+1,0,none⟩=false
 p1:w3.frozen? ⟨w.heap.size+1,1,none⟩=false
 p2:w3.frozen? ⟨w.heap.size+1,2,none⟩=false
 q:∀j u,q[j]? = some u->w3.cell? ⟨w.heap.size+1+1,j,none⟩=some u
theorem three_new (w:World) (k:Ky) (q:List Value) (t1 t2 t3:TypeId):Three w (((w.alloc (.cells #[.int .u64 (k.h:Int),.int .u64 (k.l:Int),.int .i64 k.n] t1)).alloc (.cells #[.int .u64 0,.int .u64 0,.int .i64 0] t2)).alloc (.cells q.toArray t3)) k q:=by
 refine ⟨by go_grown,by simp,by simp [go_sem],by simp [go_sem],by simp [go_sem],by simp [go_sem],by simp [go_sem],by simp [go_sem],by simp [go_sem],by simp [go_sem],by simp [go_sem],fun j u hu => ?_⟩
 have:=new_cells ((w.alloc (.cells #[.int .u64 (k.h:Int),.int .u64 (k.l:Int),.int .i64 k.n] t1)).alloc (.cells #[.int .u64 0,.int .u64 0,.int .i64 0] t2)) q.toArray t3 j u hu
 simp only [World.size_alloc] at this
 rwa [show (⟨w.heap.size+1+1,0,none⟩:Addr).add j=⟨w.heap.size+1+1,j,none⟩ by unfold Addr.add;split<;>simp_all] at this
def give3 (w:World) (b:Nat) (k:Ky):World:=((w.setCell ⟨b,0,none⟩ (.int .u64 (k.h:Int))).setCell ⟨b,1,none⟩ (.int .u64 (k.l:Int))).setCell ⟨b,2,none⟩ (.int .i64 k.n)
theorem give3_cells {w:World} {b:Nat} {k:Ky} {u0 u1 u2:Value} (hb:b<w.heap.size) (h0:w.cell? ⟨b,0,none⟩=some u0) (h1:w.cell? ⟨b,1,none⟩=some u1) (h2:w.cell? ⟨b,2,none⟩=some u2) :
 (give3 w b k).drew.cell? ⟨b,0,none⟩=some (.int .u64 (k.h:Int))/\(give3 w b k).drew.cell? ⟨b,1,none⟩=some (.int .u64 (k.l:Int))/\(give3 w b k).drew.cell? ⟨b,2,none⟩=some (.int .i64 k.n):=by
 unfold give3
 refine ⟨?_,?_,?_⟩<;>simp [go_sem,h0,h1,h2]
theorem give3_turn {w w1:World} {g o n:Nat} (h:Turn w w1 g o n) (hl:g<w.heap.size) {b:Nat} (k:Ky) (hb:w.heap.size<=b):Turn w (give3 w1 b k).drew g o n:=
 (((h.fresh hl b 0 _ hb).fresh hl b 1 _ hb).fresh hl b 2 _ hb).drew hl
theorem RBk.drew {w:World} {g o:Nat} {C:List Pl} (H:RBk w g o C):RBk w.drew g o C:=H.below (by go_grown)
theorem give3_bkt {w:World} {g o:Nat} {C:List Pl} (H:Bkt w g o C) {b:Nat} (k:Ky) (hne:g≠b):Bkt (give3 w b k).drew g o C:=
 (((H.fresh b 0 _ hne).fresh b 1 _ hne).fresh b 2 _ hne).drew
set_option maxHeartbeats 1000000 in
set_option maxRecDepth 100000 in
theorem swap11_any (g o:Nat) (C:List Pl) (i:Int) (k:Ky) (v:Int) (w:World) (H:Bkt w g o C) :
 Calls Tryz.prog 171 #[.pointer (some ⟨g,o,none⟩),.int .i64 i,kyV k,.int .i64 v] w fun e w'=>e = .returned (outV (swapC C i k v))/\Bkt w' g o (((swapC C i k v).map Prod.snd).getD C)/\Turn w w' g o 20:=by
 have HH:=Lib.hid H
 have h4:=H.four
 have hg:=H.lt
 rcases swapC_cases h4 i k v with ⟨j,hj,r,rfl,hr,hs⟩ | ⟨j,hj,rfl,hr,hs⟩ | ⟨hn,hs⟩
 ·rw [hs,outV_some]
  obtain ⟨r0,r1,r2,r3,r4⟩:=H.at j hj
  rw [hr] at r0 r1 r2 r3 r4
  simp only [xh,xl,xn,xv,Option.isSome_some] at r0 r1 r2 r3 r4
  have f0:=H.free (j*5) (by omega)
  have f1:=H.free (j*5+1) (by omega)
  have f2:=H.free (j*5+2) (by omega)
  have f3:=H.free (j*5+3) (by omega)
  have f4:=H.free (j*5+4) (by omega)
  simp only [<-Nat.add_assoc] at f1 f2 f3 f4
  have hj4:j<4:=by omega
  clear hs hr H
  unfold kyV at *
  go_enter Tryz.func171,Tryz.ntmps171
  go_wp2
  have hT:=three_new w k [.int .u64 (r.k.h:Int),.int .u64 (r.k.l:Int),.int .i64 r.k.n,.int .i64 r.v,.bool true] 39 39 151
  simp only [List.toArray] at hT
  generalize ((w.alloc (.cells #[.int .u64 (k.h:Int),.int .u64 (k.l:Int),.int .i64 k.n] 39)).alloc (.cells #[.int .u64 0,.int .u64 0,.int .i64 0] 39)).alloc (.cells #[.int .u64 (r.k.h:Int),.int .u64 (r.k.l:Int),.int .i64 r.k.n,.int .i64 r.v,.bool true] 151)=w3 at hT ⊢
  have hz3:=hT.size
  have hl3:g<w3.heap.size:=by omega
  have hP:=HH.out.put_drew hT.below j hj (some ⟨k,v⟩)
  have ht:=(turn_put5 w3 g (o+j*5) (some ⟨k,v⟩)).drew hl3
  have hq0:=(ht.far (b:=w.heap.size+1+1) (by omega) (by omega) 0).1.trans (hT.q 0 _ rfl)
  have hq1:=(ht.far (b:=w.heap.size+1+1) (by omega) (by omega) 1).1.trans (hT.q 1 _ rfl)
  have hq2:=(ht.far (b:=w.heap.size+1+1) (by omega) (by omega) 2).1.trans (hT.q 2 _ rfl)
  have hq3:=(ht.far (b:=w.heap.size+1+1) (by omega) (by omega) 3).1.trans (hT.q 3 _ rfl)
  have ho0:=(ht.far (b:=w.heap.size+1) (by omega) (by omega) 0).1.trans hT.o0
  have ho1:=(ht.far (b:=w.heap.size+1) (by omega) (by omega) 1).1.trans hT.o1
  have ho2:=(ht.far (b:=w.heap.size+1) (by omega) (by omega) 2).1.trans hT.o2
  have hp0:=(ht.far (b:=w.heap.size+1) (by omega) (by omega) 0).2.trans hT.p0
  have hp1:=(ht.far (b:=w.heap.size+1) (by omega) (by omega) 1).2.trans hT.p1
  have hp2:=(ht.far (b:=w.heap.size+1) (by omega) (by omega) 2).2.trans hT.p2
  have hz5:=ht.grown.size
  have H3:=HH.out.below hT.below
  obtain ⟨c0,c1,c2,c3,c4⟩:=H3.at j hj
  have b0:=hT.b0
  have b1:=hT.b1
  have b2:=hT.b2
  have f0:=H3.free (j*5) (by omega)
  have f1:=H3.free (j*5+1) (by omega)
  have f2:=H3.free (j*5+2) (by omega)
  have f3:=H3.free (j*5+3) (by omega)
  have f4:=H3.free (j*5+4) (by omega)
  simp only [<-Nat.add_assoc] at f1 f2 f3 f4
  have HP:=Lib.hid (And.intro hP (And.intro hq0 (And.intro hq1 (And.intro hq2 (And.intro hq3 (And.intro ho0 (And.intro ho1 (And.intro ho2 (And.intro hp0 (And.intro hp1 (And.intro hp2 hz5)))))))))))
  clear hP hq0 hq1 hq2 hq3 ho0 ho1 ho2 hp0 hp1 hp2 hz5 ht hT H3 r0 r1 r2 r3 r4
  go_region
  go_wp2_with fail
  show Code.wp _ _ _ _ (put5 w3 g (o+j*5) (some ⟨k,v⟩)).drew
  obtain ⟨hP,hq0,hq1,hq2,hq3,ho0,ho1,ho2,hp0,hp1,hp2,hz5⟩:=HP.out
  clear HP c0 c1 c2 c3 c4 b0 b1 b2 f0 f1 f2 f3 f4
  generalize (put5 w3 g (o+j*5) (some ⟨k,v⟩)).drew=w5 at *
  go_region
  show Exit.then _ _ _ _ (give3 w5 (w.heap.size+1) r.k).drew
  obtain ⟨e0,e1,e2⟩:=give3_cells (k:=r.k) (by omega) ho0 ho1 ho2
  have hT7:=give3_turn hP.2 hg r.k (b:=w.heap.size+1) (by omega)
  have hR7:=give3_bkt hP.1 r.k (b:=w.heap.size+1) (by omega)
  have HP:=Lib.hid (And.intro hR7 hT7)
  clear hP hq0 hq1 hq2 hq3 ho0 ho1 ho2 hp0 hp1 hp2 hR7 hT7
  generalize (give3 w5 (w.heap.size+1) r.k).drew=w7 at *
  go_wp2
  refine bodyPost_ret (by simp [results,Tryz.results171,go_sem,e0,e1,e2];try rfl) rfl ?_
  exact ⟨rfl,HP.out.1,HP.out.2⟩
 ·rw [hs,outV_none]
  obtain ⟨r0,r1,r2,r3,hon⟩:=H.at j hj
  rw [hr] at hon
  simp only [Option.isSome_none] at hon
  have hj4:j<4:=by omega
  clear hs hr H r0 r1 r2 r3
  unfold kyV at *
  go_enter Tryz.func171,Tryz.ntmps171
  go_wp2
  refine bodyPost_ret (by simp [results,Tryz.results171,go_sem];try rfl) rfl ?_
  exact ⟨rfl,HH.out.below (by go_grown),Turn.of_below hg (by go_grown)⟩
 ·rw [hs,outV_none]
  by_cases h0:i<0
  ·clear hs hn H
   unfold kyV at *
   go_enter Tryz.func171,Tryz.ntmps171
   go_wp2
   refine bodyPost_ret (by simp [results,Tryz.results171,go_sem];try rfl) rfl ?_
   exact ⟨rfl,HH.out.below (by go_grown),Turn.of_below hg (by go_grown)⟩
  ·have h3:4<=i:=by omega
   clear hs hn H
   unfold kyV at *
   go_enter Tryz.func171,Tryz.ntmps171
   go_wp2
   refine bodyPost_ret (by simp [results,Tryz.results171,go_sem];try rfl) rfl ?_
   exact ⟨rfl,HH.out.below (by go_grown),Turn.of_below hg (by go_grown)⟩
def Inserted (w w':World) (e:Ending) (v:Value) (L:List Rt):Prop:=∃v',e = .returned v'/\w'.ownsRow 0 41 4 v' L.length (rcs L)/\w.grownBy w' v.ownBlock/\(v'.ownBlock=v.ownBlock\/∃k,v'.ownBlock=some k/\w.heap.size<=k)
theorem oneR (L:List Rt) (u:Value) (h:u∈rcs L):u.oneCell'=true:=rcs_one' L u h
set_option maxRecDepth 100000 in
set_option maxHeartbeats 4000000 in
theorem insert_end (v:Value) (L:List Rt) (r:Rt) (vb:Nat) (w:World) (hown:w.ownsRow 0 41 4 v L.length (rcs L)) (hL:L.length<1048576) (hvb:w.heap[vb]? = some (.cells (rcell r).toArray 41 (0,0))) :
 Calls Tryz.prog 34 #[v,.int .i64 (L.length:Int),.slice (some ⟨vb,0,none⟩) 1 1] w fun e w'=>Inserted w w' e v (L++[r]):=by
 obtain ⟨i0,hi0,iz0,iz1,iz2⟩:=info_parts infoR
 have hnews:=cells_at hvb 0 (rcell r) (by simp [rcell])
 obtain ⟨p,c,rfl⟩:=own_slice hown
 have hlc:L.length<=c:=by
  rcases hown.2 with ⟨e,h0⟩ | ⟨g,cap,cur,e,-,-,h1,-⟩
  ·omega
  ·injection e with _ _ e3;omega
 generalize hn:L.length=n at *
 by_cases hcn:c=n
 ·subst hcn
  go_enter Tryz.func34,Tryz.ntmps34
  go_wp2_with (at_builtin;go_loud (refine wpList_append_own_at _ rfl (.tmp 23) (.tmp 24) 35 rfl 0 41 i0 _ 4 32 Tryz.underlying35 hi0 iz0 iz1 iz2 rfl (by decide) _ _ _ rfl hown ⟨vb,0,none⟩ 1 1 (rcell r) rfl rfl hnews (by simp [rcell,Value.oneCell']) (by unfold maxLen;omega) (by omega) (by omega) ?_))
  intro v3 w3 hown3 hg3 _ hat
  go_wp2
  go_ret
  exact ⟨v3,rfl,own_rsnoc hown3 hn.symm,hg3,hat.imp id (fun e=>⟨_,e,Nat.le_refl _⟩)⟩
 ·go_enter Tryz.func34,Tryz.ntmps34
  go_wp2_with (at_builtin;go_loud (refine wpList_append_own_at _ rfl (.tmp 23) (.tmp 24) 35 rfl 0 41 i0 _ 4 32 Tryz.underlying35 hi0 iz0 iz1 iz2 rfl (by decide) _ _ _ rfl hown ⟨vb,0,none⟩ 1 1 (rcell r) rfl rfl hnews (by simp [rcell,Value.oneCell']) (by unfold maxLen;omega) (by omega) (by omega) ?_))
  intro v3 w3 hown3 hg3 _ hat
  go_wp2
  go_ret
  exact ⟨v3,rfl,own_rsnoc hown3 hn.symm,hg3,hat.imp id (fun e=>⟨_,e,Nat.le_refl _⟩)⟩
theorem wpList_append_zeros {P:Program} {ops:Array Oper} {rest:List Oper} {o:Oper} {a:Act} {w:World} {Q:Exit->Act->World->Prop} (hgd:o.guard=none) (s x:Operand) (t tn:TypeId)
 (ho:o.op = .call { callee := .builtin .append,args := #[s,x],argTypes := #[t,tn] }) (e:TypeId) (i:TypeInfo) (z:Value) (size bytes:Nat) (kn:IntKind) (ht:P.underlying t=some (.slice e)) (htn:P.underlying tn=some (.int kn)) (hi:P.info? e=some i) (hz:i.zero=some z)
 (hsz:i.size=size) (hby:i.bytes=bytes) (hzs:z.cells.size=size) (h0s:0<size) (g:Nat) (off sLen sCap:Nat) (hs:a.eval s = .slice (some ⟨g,off,none⟩) sLen sCap) (k:Nat) (hx:a.eval x = .int .i64 (k:Int))
 (olds:List Value) (hlo:olds.length=sLen*size) (holds:∀j v,olds[j]? = some v->w.cell? ((⟨g,off,none⟩:Addr).add j)=some v) (h0:0<k) (hg:sCap<sLen+k) (h63:sLen+k<=maxLen) (hbytes:(sLen+k)*bytes<=140737488355328)
 (h:∀(cap:Nat) (Z:List Value) w',sLen+k<=cap->cap<=maxLen->Z.length=(cap-sLen)*size->Hid (w'.heap[w.heap.size]? = some (.cells (olds++Z).toArray e (0,0)))->w.grownBy w' none->wpList P ops Q rest (a.put o.dst (.slice (some ⟨w.heap.size,0,none⟩) (sLen+k) cap)) w'):wpList P ops Q (o::rest) a w:=by
 subst hsz hby
 have hold:(Builtin.firstCells i.size sLen (.slice (some ⟨g,off,none⟩) sLen sCap)).run P w.drew = .ok olds.toArray w.drew:=run_firstCells_some w.drew i.size sLen ⟨g,off,none⟩ sLen sCap olds hlo (fun j v hj=>holds j v hj)
 have h63':sLen+k<=9223372036854775807:=by simp only [maxLen] at h63;omega
 have hkb:k*i.bytes<=281474976710656:=Nat.le_trans (Nat.mul_le_mul_right _ (Nat.le_add_left k sLen)) (by omega)
 have hr:=Lib.run_append_grow_zeros (P:=P) w t tn o.type e i z .i64 kn ht htn hi hz (some ⟨g,off,none⟩) sLen sCap olds hold k h0 h0s hg (by omega) hkb (growslice_fits hg hbytes)
 refine Lib.wpList_append_run w hgd s x t tn ho _ _ hs hx _ _ hr ?_
 have hge:=grownCap_ge w (sLen+k) sCap e
 refine h _ ((Builtin.zeroCells z.cells k).toList++(Builtin.zeroCells z.cells (grownCap w (sLen+k) sCap e-(sLen+k))).toList) _ hge (grownCap_le_maxLen w _ _ _ h63) ?_ ?_ ?_
 ·rw [List.length_append,Array.length_toList,Array.length_toList,size_zeroCells,size_zeroCells,hzs,<-Nat.add_mul]
  congr 1
  omega
 ·show _=_
  refine (heap_alloc_new w.drew _).trans ?_
  simp [Array.append_assoc]
 ·exact ⟨rfl,rfl,rfl,by simp,fun j hj _=>(heap_alloc_old w.drew _ hj).trans rfl⟩
set_option maxRecDepth 100000 in
set_option maxHeartbeats 4000000 in
theorem insert_room (g c n i:Nat) (cur:Array Value) (L:List Rt) (r:Rt) (vb:Nat) (w:World) (hn:L.length=n) (hg:w.heap[g]? = some (.cells cur 41 (0,0))) (hc:n+1<=c) (hcm:c<=maxLen) (hcs:cur.size=c*4) (htk:cur.toList.take (n*4)=rcs L)
 (hi:i<n) (hL:n<1048576) (hvb:w.heap[vb]? = some (.cells (rcell r).toArray 41 (0,0))) (hne:vb≠g) :
 Calls Tryz.prog 34 #[.slice (some ⟨g,0,none⟩) n c,.int .i64 (i:Int),.slice (some ⟨vb,0,none⟩) 1 1] w fun e w'=>Inserted w w' e (.slice (some ⟨g,0,none⟩) n c) (L.take i++r::L.drop i):=by
 obtain ⟨i0,hi0,iz0,iz1,iz2⟩:=info_parts infoR
 have hin:¬((i:Int)=(n:Int)):=by omega
 have hw1:IntKind.i64.wrap ((i:Int)+1)=(i:Int)+1:=by rw [IntKind.wrap_i64];omega
 have hb1:(0:Int)<=(i:Int)+1:=by omega
 have hb2:¬(c=i+1):=by omega
 have hb3:(i:Int)<=(n:Int)+1:=by omega
 have hb4:¬(c=i):=by omega
 have hb5:(i:Int)<=(n:Int):=by omega
 have htn:((i:Int)+1).toNat=i+1:=by omega
 have hov:∀lb cb,(callFunc 61 #[.slice (some ⟨vb,0,none⟩) 1 1,.slice (some ⟨g,(i+1)*4,none⟩) lb cb]).run Tryz.prog w = .ok (.value (.bool false)) w:=fun lb cb=>by
  rw [run_callFunc_extern Tryz.func61 (by kernel_rfl) (by kernel_rfl) (by kernel_rfl) (e:=Extern.SlicesOverlaps.overlaps #[35,35] #[4]) (by kernel_rfl),
   Lib.run_overlaps_apart w 35 4 41 Tryz.underlying35 4 Tryz.sizeOf41 ⟨vb,0,none⟩ ⟨g,(i+1)*4,none⟩ 1 1 lb cb hne 41 41 4 (c*4) (by unfold World.shape?;rw [hvb];rfl) (by unfold World.shape?;rw [hg];simp [hcs]) (by omega) (by unfold World.frozen?;rw [hvb];rfl) (by unfold World.frozen?;rw [hvb];rfl)]
  rfl
 have hdl:(L.drop i).length=n-i:=by rw [List.length_drop,hn]
 have hd4:(rcs (L.drop i)).length=(n-i)*4:=by rw [rcs_len,hdl]
 have hX:=cells_at hg (i*4) (rcs (L.drop i)) (by
  rw [hd4,<-rcs_drop,<-htk,List.drop_take]
  congr 1
  omega)
 have hnews:=cells_at hvb 0 (rcell r) (by simp [rcell])
 generalize hX2:rcs (L.drop i)=X2 at *
 go_enter Tryz.func34,Tryz.ntmps34
 go_wp2_with (simp only [hov])
 go_region_law (refine step_copy_rt rfl (.tmp 73) (.tmp 76) 35 35 rfl 41 i0 Tryz.underlying35 hi0 4 iz1 g ((i+1)*4) (n+1-(i+1)) (c-(i+1)) ⟨g,i*4,none⟩ (n+1-i) (c-i) (by simp [Act.eval,Act.put]) (by simp [Act.eval,Act.put]) cur 41 hg X2 (n-i) (by simp only [Nat.min_def];split<;>omega) hd4 hX (by omega) (by rw [<-hX2];exact oneR _) ?_;intro w4 hg4 hb4)
 have hvb4:w4.heap[vb]? = some (.cells (rcell r).toArray 41 (0,0)):=(hb4.block vb (Array.getElem?_eq_some_iff.1 hvb).1 (by intro e;injection e with e;exact hne e)).trans hvb
 have hnews4:=cells_at hvb4 0 (rcell r) (by simp [rcell])
 have hsl:(splice cur.toList ((i+1)*4) X2).length=c*4:=by rw [length_splice _ _ _ (by rw [hd4,Array.length_toList,hcs];omega),Array.length_toList,hcs]
 obtain ⟨cur4,hcur4⟩:∃x,x=splice cur.toList ((i+1)*4) X2:=⟨_,rfl⟩
 have hg4:Hid (w4.heap[g]? = some (.cells cur4.toArray 41 (0,0))):=by show _=_;rw [hcur4];exact hg4.out
 rw [<-hcur4] at hsl
 have hgw4:Hid (w.grownBy w4 (some g)):=(⟨hb4.os,hb4.tape,hb4.output,hb4.size,hb4.block⟩:w.grownBy w4 (some g))
 have HC4:=Lib.hid hcur4.symm
 have HX2:=Lib.hid hX2
 have HTK:=Lib.hid htk
 clear hov hcur4 hX hnews hvb hg htk hX2
 have hs1:(i*4)+(rcell r).length<=cur4.toArray.size:=by simp [rcell,hsl];omega
 have hs2:∀v∈rcell r,v.oneCell'=true:=by simp [rcell,Value.oneCell']
 have hs3:Nat.min 1 (n+1-i)=1:=by simp only [Nat.min_def];split<;>omega
 go_wp2_with (with_reducible refine wpList_copy_rt rfl (.tmp 80) (.tmp 81) 35 35 rfl 41 i0 Tryz.underlying35 hi0 4 iz1 g (i*4) (n+1-i) (c-i) ⟨vb,0,none⟩ 1 1 rfl rfl cur4.toArray 41 hg4.out (rcell r) 1 hs3 rfl hnews4 hs1 hs2 ?_)
 intro w5 hg5 hb5'
 go_wp2
 go_ret
 refine ⟨_,rfl,?_,World.grownBy.trans hgw4.out hb5',.inl rfl⟩
 have hlen:(L.take i++r::L.drop i).length=n+1:=by simp;omega
 rw [hlen]
 refine own_made (Nat.zero_le _) hg5.out (by omega) hcm (by simp [length_splice,rcell,hsl];rw [length_splice _ _ _ (by simp [rcell,hsl];omega),hsl]) ?_
 have h1:=splice_in cur.toList (rcs (L.take i)) (rcell r) X2 (i*4) 4 ((n-i)*4) (by rw [rcs_len,List.length_take];omega) rfl hd4 (by
  rw [show i*4+(n-i)*4=n*4 by omega,HTK.out,<-HX2.out,<-rcs_append,List.take_append_drop]) (by rw [Array.length_toList,hcs];omega)
 rw [show i*4+4+(n-i)*4=(n+1)*4 by omega,show i*4+4=(i+1)*4 by omega,HC4.out] at h1
 rw [rcs_append,rcs_cons,HX2.out,<-List.append_assoc]
 simpa using h1
set_option maxRecDepth 100000 in
set_option maxHeartbeats 4000000 in
theorem insert_grow (g c n i:Nat) (cur:Array Value) (L:List Rt) (r:Rt) (vb:Nat) (w:World) (hn:L.length=n) (hg:w.heap[g]? = some (.cells cur 41 (0,0))) (hc:c<n+1) (hnc:n<=c) (hcs:cur.size=c*4) (htk:cur.toList.take (n*4)=rcs L)
 (hi:i<n) (hL:n<1048576) (hvb:w.heap[vb]? = some (.cells (rcell r).toArray 41 (0,0))) :
 Calls Tryz.prog 34 #[.slice (some ⟨g,0,none⟩) n c,.int .i64 (i:Int),.slice (some ⟨vb,0,none⟩) 1 1] w fun e w'=>Inserted w w' e (.slice (some ⟨g,0,none⟩) n c) (L.take i++r::L.drop i):=by
 obtain ⟨i0,hi0,iz0,iz1,iz2⟩:=info_parts infoR
 have hgl:=(Array.getElem?_eq_some_iff.1 hg).1
 have hvl:=(Array.getElem?_eq_some_iff.1 hvb).1
 have hin:¬((i:Int)=(n:Int)):=by omega
 have hz3:(c:Int)<(n:Int)+1:=by omega
 have hw1:IntKind.i64.wrap ((i:Int)+1)=(i:Int)+1:=by rw [IntKind.wrap_i64];omega
 have hkk:(n:Int)+1-(i:Int)=((n+1-i:Nat):Int):=by omega
 have hb1:(0:Int)<=(i:Int)+1:=by omega
 have hb3:(i:Int)<=(n:Int)+1:=by omega
 have hb4:¬(c=i):=by omega
 have hb5:(i:Int)<=(n:Int):=by omega
 have htn:((i:Int)+1).toNat=i+1:=by omega
 have hdl:(L.drop i).length=n-i:=by rw [List.length_drop,hn]
 have hd4:(rcs (L.drop i)).length=(n-i)*4:=by rw [rcs_len,hdl]
 have ht4:(rcs (L.take i)).length=i*4:=by rw [rcs_len,List.length_take];omega
 have hX:(cur.toList.drop (i*4)).take (rcs (L.drop i)).length=rcs (L.drop i):=by
  rw [hd4,<-rcs_drop,<-htk,List.drop_take]
  congr 1
  omega
 have hX1:=cells_at hg 0 (rcs (L.take i)) (by
  rw [ht4,<-rcs_take,<-htk,List.drop_zero,List.take_take]
  congr 1
  omega)
 have h1d:∀v∈rcs (L.drop i),v.oneCell'=true:=oneR _
 obtain ⟨X2,hX2⟩:∃x,x=rcs (L.drop i):=⟨_,rfl⟩
 obtain ⟨X1,hX1e⟩:∃x,x=rcs (L.take i):=⟨_,rfl⟩
 rw [<-hX2] at hd4 hX h1d
 rw [<-hX1e] at ht4 hX1
 have HX:=Lib.hid hX
 have HX1:=Lib.hid hX1
 have HX2:=Lib.hid hX2
 have HX1e:=Lib.hid hX1e
 have HG:=Lib.hid hg
 have HVB:=Lib.hid hvb
 have HKK:=Lib.hid hkk
 clear hX hX1 hX2 hX1e htk hg hvb hkk
 go_enter Tryz.func34,Tryz.ntmps34
 go_wp2_with (at_builtin;go_loud (refine wpList_append_zeros rfl (.tmp 34) (.tmp 39) 35 3 rfl 41 i0 _ 4 32 .i64 Tryz.underlying35 Tryz.underlying3 hi0 iz0 iz1 iz2 rfl (by decide) g 0 i c rfl (n+1-i) (by rw [<-HKK.out];rfl) X1 ht4 HX1.out (by omega) (by omega) (by unfold maxLen;omega) (by omega) ?_))
 intro cap Z w4 hcap hcm hZ hg4 hgw
 rw [show i+(n+1-i)=n+1 by omega] at hcap ⊢
 have hc1:¬(cap=i+1):=by omega
 have hc2:¬(cap=i):=by omega
 have hc3:(i:Int)<=(cap:Int):=by omega
 have hvb4:w4.heap[vb]? = some (.cells (rcell r).toArray 41 (0,0)):=(hgw.block vb hvl (by simp)).trans HVB.out
 have hnews4:=cells_at hvb4 0 (rcell r) (by simp [rcell])
 have hsz4:(X1++Z).length=cap*4:=by rw [List.length_append,ht4,hZ];omega
 have hs1:(i*4)+(rcell r).length<=(X1++Z).toArray.size:=by simp only [List.size_toArray,hsz4,rcell,List.length_cons,List.length_nil];omega
 have hs2:∀v∈rcell r,v.oneCell'=true:=by simp [rcell,Value.oneCell']
 have hs3:Nat.min 1 (n+1-i)=1:=by simp only [Nat.min_def];split<;>omega
 have HGW:=Lib.hid hgw
 have HZ:=Lib.hid hZ
 have HS:=Lib.hid hsz4
 obtain ⟨R4,hR4⟩:∃x,x=(X1++Z):=⟨_,rfl⟩
 rw [<-hR4] at hs1 hg4 HS
 have HR4:=Lib.hid hR4
 clear hvb4 hgw hZ hsz4 hR4
 go_wp2_with (with_reducible refine wpList_copy_rt rfl (.tmp 43) (.tmp 44) 35 35 rfl 41 i0 Tryz.underlying35 hi0 4 iz1 w.heap.size (i*4) (n+1-i) (cap-i) ⟨vb,0,none⟩ 1 1 rfl rfl R4.toArray 41 hg4.out (rcell r) 1 hs3 rfl hnews4 hs1 hs2 ?_)
 intro w5 hg5 hgw5
 obtain ⟨R5,hR5⟩:∃x,x=splice R4 (i*4) (rcell r):=⟨_,rfl⟩
 have hg5':w5.heap[w.heap.size]? = some (.cells R5.toArray 41 (0,0)):=by rw [hR5];exact hg5.out
 have hl5:R5.length=cap*4:=by rw [hR5,length_splice _ _ _ (by rw [HS.out];simp [rcell];omega),HS.out]
 have hg05:w5.heap[g]? = some (.cells cur 41 (0,0)):=(hgw5.block g (Nat.lt_of_lt_of_le hgl HGW.out.size) (by intro e;injection e with e;omega)).trans ((HGW.out.block g hgl (by simp)).trans HG.out)
 have hX5:=cells_at hg05 (i*4) X2 HX.out
 have hfit5:(i+1)*4+X2.length<=R5.toArray.size:=by rw [List.size_toArray,hl5,hd4];omega
 have hmin5:Nat.min (n-i) (n+1-(i+1))=n-i:=by simp only [Nat.min_def];split<;>omega
 have HW5:=Lib.hid hgw5
 have HR5:=Lib.hid hR5
 clear hg5 hgw5 hR5 hg05 hnews4 hg4 hs1
 go_wp2_with fail
 go_region_law (refine step_copy_rt rfl (.tmp 50) (.tmp 53) 35 35 rfl 41 i0 Tryz.underlying35 hi0 4 iz1 w.heap.size ((i+1)*4) (n+1-(i+1)) (cap-(i+1)) ⟨g,i*4,none⟩ (n-i) (c-i) (by simp [Act.eval,Act.put]) (by simp [Act.eval,Act.put]) R5.toArray 41 hg5' X2 (n-i) hmin5 hd4 hX5 hfit5 h1d ?_;intro w6 hg6 hb6)
 have hb6':w5.grownBy w6 (some w.heap.size):=⟨hb6.os,hb6.tape,hb6.output,hb6.size,hb6.block⟩
 clear hX5 hg5'
 go_wp2
 go_ret
 refine ⟨_,rfl,?_,?_,.inr ⟨_,rfl,Nat.le_refl _⟩⟩
 ·have hlen:(L.take i++r::L.drop i).length=n+1:=by simp;omega
  rw [hlen]
  refine own_made (Nat.zero_le _) hg6.out (by omega) hcm (by rw [List.size_toArray,length_splice _ _ _ (by simpa using hfit5)];simpa using hl5) ?_
  have h1:=splice_new X1 Z (rcell r) X2 (i*4) 4 ((n-i)*4) ht4 rfl hd4 (by rw [HZ.out];omega)
  rw [show i*4+4+(n-i)*4=(n+1)*4 by omega,show i*4+4=(i+1)*4 by omega,<-HR4.out,<-HR5.out] at h1
  rw [rcs_append,rcs_cons,<-HX2.out,<-HX1e.out,<-List.append_assoc]
  simpa using h1
 ·have h4:=HGW.out
  have h5:=HW5.out
  exact ⟨hb6'.os.trans (h5.os.trans h4.os),hb6'.tape.trans (h5.tape.trans h4.tape),hb6'.output.trans (h5.output.trans h4.output),Nat.le_trans h4.size (Nat.le_trans h5.size hb6'.size),fun k hk _=>(hb6'.block k (Nat.lt_of_lt_of_le hk (Nat.le_trans h4.size h5.size)) (by intro e;injection e with e;omega)).trans ((h5.block k (Nat.lt_of_lt_of_le hk h4.size) (by intro e;injection e with e;omega)).trans (h4.block k hk (by simp)))⟩
theorem insert_any (v:Value) (L:List Rt) (i:Nat) (r:Rt) (vb:Nat) (w:World) (hown:w.ownsRow 0 41 4 v L.length (rcs L)) (hi:i<=L.length) (hL:L.length<1048576) (hvb:w.heap[vb]? = some (.cells (rcell r).toArray 41 (0,0))) (hne:v.ownBlock≠some vb) :
 Calls Tryz.prog 34 #[v,.int .i64 (i:Int),.slice (some ⟨vb,0,none⟩) 1 1] w fun e w'=>Inserted w w' e v (L.take i++r::L.drop i):=by
 by_cases h:i=L.length
 ·subst h
  have:=insert_end v L r vb w hown hL hvb
  rwa [List.take_length,List.drop_length]
 ·obtain ⟨g,cap,cur,rfl,-,hgl,hg,h1,h2,h3,h4⟩:=own_whole hown (by omega)
  by_cases hr:L.length+1<=cap
  ·exact insert_room g cap L.length i cur L r vb w rfl hg hr h2 h3 h4 (by omega) hL hvb (fun e=>hne (by rw [e];rfl))
  ·exact insert_grow g cap L.length i cur L r vb w rfl hg (by omega) h1 h3 h4 (by omega) hL hvb
end Go.Proofs.YtgfjmgebecmbiaaGreat
namespace Go.Proofs.YtgfjmgebecmbiaaGreat
open M
theorem fold_pre {T:Tab} (H:Inv T) {f:Tab->Rt->Tab} (hf:∀T r,Inv T->r.k.good->GrowOk T r (f T r)) (j:Nat) (hj:j<=(contT T).length) :
 Inv (((contT T).take j).foldl f (grown T))/\(contT (((contT T).take j).foldl f (grown T))).length=j/\(grown T).B.length<=(((contT T).take j).foldl f (grown T)).B.length:=by
 have hG:=grown_inv H
 have he:contT (grown T)=[]:=empty_cont _ _
 have h:=fold_ok hf ((contT T).take j) (grown T) hG.1 (fun r hr=>H.good r (List.mem_of_mem_take hr)) (by
  rw [he,List.append_nil]
  have:=H.keys
  unfold keysR at *
  rw [List.map_take]
  exact this.sublist (List.take_sublist _ _))
 refine ⟨h.1,?_,h.2.2⟩
 have hl:=h.2.1.length_eq
 rw [he,List.append_nil,List.length_take] at hl
 omega
theorem fold_snoc {α β:Type} (f:β->α->β) (L:List α) (x:β) (j:Nat) (h:j<L.length):(L.take (j+1)).foldl f x=f ((L.take j).foldl f x) L[j]:=by
 rw [List.take_succ_eq_append_getElem h,List.foldl_append]
 rfl
end Go.Proofs.YtgfjmgebecmbiaaGreat
namespace Go.Proofs.YtgfjmgebecmbiaaGreat
open Go.RowKit Go.Sort M
end Go.Proofs.YtgfjmgebecmbiaaGreat
namespace Go.Proofs.YtgfjmgebecmbiaaGreat
open Go Go.RowKit Go.Sort M
end Go.Proofs.YtgfjmgebecmbiaaGreat

import Derived.Test.YtgfjmgebecmbiaaGreatM22f
set_option linter.unusedSimpArgs false
set_option linter.unusedVariables false
set_option maxHeartbeats 8000000
namespace Go.Proofs.YtgfjmgebecmbiaaGreat
open Lib(hid)
open Go Go.RowKit Go.Sort M
attribute [local go_sem] Oper.semAt_some
theorem Z6o (L:List Lv) (n:Nat) (h:n=L.length):(dnL n).map (fun x=>L[x.val]'(by rw [<-h];exact x.isLt))=L.reverse:=by
 subst h
 unfold dnL
 rw [List.map_reverse]
 congr 1
 apply List.ext_getElem
 ·simp
 ·intro i h1 h2
  simp
theorem Z9b {E:Eg} (hok:E.ok) (ah al:Nat):Zam (E.cutA ah al).h (E.cutA ah al).l E.L.reverse=Zam ah al E.L.reverse/\∀L0,DirE E L0->W64 ah->W64 al->dirK L0 ah al E.di.toNat=E.dir22 (E.cutA ah al).h (E.cutA ah al).l:=by
 have hle:∀V∈E.L,V.n<=(E.wd.toNat:Int):=fun V hV=>by
  obtain ⟨i,hi,rfl⟩:=List.getElem_of_mem hV
  have:=Z4s E.L E.di hok.lev i hi
  rw [hok.top] at this
  omega
 have hdw:E.di.toNat<=E.wd.toNat:=by
  have:=Znm E.L E.di hok.lev
  rw [hok.top] at this
  omega
 refine ⟨Zox ah al E.wd.toNat E.L.reverse (fun V hV=>hle V (List.mem_reverse.1 hV)),fun L0 hD wa wb => ?_⟩
 rw [hD ah al wa wb]
 unfold Eg.dir22 Eg.cutA
 congr 1
 unfold cutK
 simp only [Zdf]
 rw [show min E.wd.toNat E.di.toNat=E.di.toNat by omega,show min (E.wd.toNat-64) (E.di.toNat-64)=E.di.toNat-64 by omega]
set_option maxRecDepth 100000 in
theorem Zvm (w:World) (K:Nat->Prop) (t:Nat) (E:Eg) (ah al:Nat) (HP:EngP w K t E) (hok:E.ok) (hl:E.R.length<=301) (ha:W64 ah) (hb:W64 al) :
 Calls Tryz.prog 15 #[.pointer (some ⟨t,0,none⟩),.agg #[.int .u64 (ah:Int),.int .u64 (al:Int)]] w fun e w'=>∃p c,e = .returned (.tuple #[.int .i64 (E.hop ah al),.slice p (E.probes ah al).length c])/\IRow w' p (E.probes ah al)/\Below w.heap.size w w':=by
 obtain ⟨col,v,d,L0,X,p,c,H,hDE⟩:=HP
 have hkey:=Z9b hok ah al
 have hhp:E.hop ah al=((Zam ah al E.L.reverse).1.or (dirK L0 ah al E.di.toNat)).getD (-1):=by
  unfold Eg.hop
  rw [hkey.1,hkey.2 L0 hDE ha hb]
 have hpr:E.probes ah al=(Zam ah al E.L.reverse).2:=by
  unfold Eg.probes
  rw [hkey.1]
 generalize E.hop ah al=HOP at hhp ⊢
 generalize E.probes ah al=PRB at hpr ⊢
 have hu:=fun W (h:Below w.heap.size w W)=>Zcp t d W (Nat.lt_of_lt_of_le H.lt h.size) ((h.cell (p:=⟨t,3,none⟩) H.lt).trans H.c3)
 have HU:=hid hu
 have HH:=hid H
 have c4:=H.c4
 have cl:=H.lt
 obtain ⟨W0,hW0⟩:∃W:World,W=((w.alloc (.cells #[.int .u64 (ah:Int),.int .u64 (al:Int)] 37)).alloc (.cells #[.int .i64 0] 3)).alloc (.cells #[.slice none 0 0] 25):=⟨_,rfl⟩
 have hb0:Below w.heap.size w W0:=by rw [hW0];go_grown
 have hz0:W0.heap.size=w.heap.size+3:=by rw [hW0];simp
 have a0:W0.cell? ⟨w.heap.size,0,none⟩=some (.int .u64 (ah:Int)):=by rw [hW0];simp [go_sem]
 have a1:W0.cell? ⟨w.heap.size,1,none⟩=some (.int .u64 (al:Int)):=by rw [hW0];simp [go_sem]
 have x4:Boxed W0 (w.heap.size+1) 3 (.int .i64 0):=by
  rw [hW0]
  have:=(Boxed.new (w.alloc (.cells #[.int .u64 (ah:Int),.int .u64 (al:Int)] 37)) 3 (.int .i64 0)).alloc (.cells #[.slice none 0 0] 25)
  simpa using this
 have x5:Boxed W0 (w.heap.size+2) 25 (.slice none 0 0):=by
  rw [hW0]
  have:=Boxed.new ((w.alloc (.cells #[.int .u64 (ah:Int),.int .u64 (al:Int)] 37)).alloc (.cells #[.int .i64 0] 3)) 25 (.slice none 0 0)
  simpa using this
 refine (callsIn_wide (n:=6)).1 (callsIn_of_wp_marks Tryz.func15 rfl trivial ?_ rfl)
 refine wpIn_wide.2 ?_
 simp only [Tryz.ntmps15,List.size_toArray,List.length_cons,List.length_nil,Nat.reduceAdd,Nat.reduceSub,Array.replicate_succ,Array.replicate_zero,List.push_toArray,List.append_toArray,List.nil_append,List.cons_append]
 go_upto_region 1 with fail
 rw [<-hW0]
 clear hW0
 go_wp2_with fail
 refine (HU.out _ hb0).mono ?_
 rintro e w1 ⟨rfl,hb1⟩
 have c4:=(hb1.cell (p:=⟨t,4,none⟩) (Nat.lt_of_lt_of_le cl hb0.size)).trans ((hb0.cell (p:=⟨t,4,none⟩) cl).trans c4)
 have cl1:=Nat.lt_of_lt_of_le (Nat.lt_of_lt_of_le cl hb0.size) hb1.size
 go_wp2_with fail
 have hbk:=Z36 p E.L.length c
 refine (hbk _).mono ?_
 rintro e w2 ⟨rfl,rfl⟩
 go_wp2_with fail
 obtain ⟨W1,hW1⟩:∃W:World,W=((w1.alloc (.cells #[.slice none 0 0] 25)).alloc (.cells #[.slice p E.L.length c] 63)):=⟨_,rfl⟩
 try rw [<-hW1]
 have hz1:=hb1.size
 have hB1:Below w1.heap.size w1 W1:=by rw [hW1];go_grown
 have hz2:W1.heap.size=w1.heap.size+2:=by rw [hW1];simp
 have hbw:Below w.heap.size w W1:=(hb0.trans (hb1.mono hb0.size)).trans (hB1.mono (by omega))
 have x6:Boxed W1 w1.heap.size 25 (.slice none 0 0):=by
  rw [hW1]
  exact (Boxed.new w1 25 (.slice none 0 0)).alloc (.cells #[.slice p E.L.length c] 63)
 have xB:W1.cell? ⟨w1.heap.size+1,0,none⟩=some (.slice p E.L.length c):=by rw [hW1];simp [go_sem]
 have hbz:Below W0.heap.size W0 W1:=hb1.trans (hB1.mono hz1)
 have x4:Boxed W1 (w.heap.size+1) 3 (.int .i64 0):=(hbz.block _ (by omega)).trans x4
 have x5:Boxed W1 (w.heap.size+2) 25 (.slice none 0 0):=(hbz.block _ (by omega)).trans x5
 have a0:=(hbz.cell (p:=⟨w.heap.size,0,none⟩) (show w.heap.size<_ by omega)).trans a0
 have a1:=(hbz.cell (p:=⟨w.heap.size,1,none⟩) (show w.heap.size<_ by omega)).trans a1
 clear hW1
 have hxl:=H.xl
 have hfew:E.L.length<=128:=by have:=Zmr E.L E.di (by have:=hok.dir.2;omega) hok.lev;have:=hok.dir.1;omega
 obtain ⟨lv,hlv⟩:∃lv:Fin X.length->Lv,lv=fun x=>E.L[x.val]'(by rw [<-hxl];exact x.isLt):=⟨_,rfl⟩
 have hmap:(dnL X.length).map lv=E.L.reverse:=by rw [hlv];exact Z6o E.L X.length hxl
 have hrow:Row W1 p (tcs X):=H.ts.below hbw
 have hpl:∀a,p=some a->a.block<w.heap.size:=fun a h=>(H.kp a h).2
 have xB':W1.cell? ⟨w1.heap.size+1,0,none⟩=some (.slice p X.length c):=by rw [hxl];exact xB
 refine (wpIn_wide (n:=6)).1 (wpIn_rangeFunc_ownH (α:=Fin X.length) rfl (by omega) (gf:=66) (lb := #[.pointer (some ⟨w1.heap.size+1,0,none⟩)]) rfl trivial (enters_of Tryz.func66 (by kernel_rfl) rfl)
  (Zv9 5 (by omega) (w1.heap.size+1) p c X (by omega) W1 (by omega) xB' hrow) Z8d
  (fun W l o o' hl ho hc hw=>⟨⟨World.putObj_heap_other (by omega),fun a ha=>World.putObj_heap_other (by have:=hpl a ha;omega)⟩,by simp⟩) (Below.refl _ _) (fun _=>rfl)
  (fun pre W=>(Touch (fun j=>j=w1.heap.size) W1 W/\(Zam ah al (pre.map lv)).1=none)/\∃v,Boxed W w1.heap.size 25 v/\W.ownsRow W1.heap.size 3 1 v (Zam ah al (pre.map lv)).2.length (ics (Zam ah al (pre.map lv)).2)/\True)
  (fun cd pre W=>(Touch (fun j=>j=w.heap.size+1\/j=w.heap.size+2\/j=w1.heap.size) W1 W/\cd = .ret/\∃hop,(Zam ah al (pre.map lv)).1=some hop/\Boxed W (w.heap.size+1) 3 (.int .i64 hop))/\∃v,Boxed W (w.heap.size+2) 25 v/\W.ownsRow W1.heap.size 3 1 v (Zam ah al (pre.map lv)).2.length (ics (Zam ah al (pre.map lv)).2)/\True)
  (OwnFrom.and (OwnFrom.and (Zgq W1) (fun _ _ _ _ h _ _=>h)) ((holdsRow_own W1.heap.size w1.heap.size 25 3 1 (fun (pre:List (Fin X.length))=>(Zam ah al (pre.map lv)).2.length) (fun (pre:List (Fin X.length))=>ics (Zam ah al (pre.map lv)).2) (fun _ _=>True)).from _))
  (fun cd=>OwnFrom.and (fun pre A B row h hg hr=>⟨Zgq W1 pre A B row h.1 hg hr,h.2.1,by
   obtain ⟨hop,q1,q2⟩:=h.2.2
   exact ⟨hop,q1,q2.kept hg (fun e=>by obtain ⟨h3,o,h4,h5⟩:=hr _ e.symm;rw [show A.heap[w.heap.size+1]? = _ from q2] at h4;cases h4;cases h5)⟩⟩) ((holdsRow_own W1.heap.size (w.heap.size+2) 25 3 1 (fun (pre:List (Fin X.length))=>(Zam ah al (pre.map lv)).2.length) (fun (pre:List (Fin X.length))=>ics (Zam ah al (pre.map lv)).2) (fun _ _=>True)).from _))
  ⟨⟨Touch.refl _ _,rfl⟩,_,x6,World.ownsRow_nil _ _ _ _,trivial⟩
  (fun x a' W=>∃Bx,W1.heap.size<=Bx/\W.heap[Bx]? = some (.cells #[.pointer (some ⟨X[x.val].1,0,none⟩),.int .i64 (X[x.val].2:Int)] 72 (0,0))/\a'={ tmps := #[.pointer (some ⟨t,0,none⟩),.agg #[.int .u64 (ah:Int),.int .u64 (al:Int)],undef,.pointer (some ⟨w.heap.size,0,none⟩),.pointer (some ⟨w.heap.size+1,0,none⟩),.pointer (some ⟨w.heap.size+1+1,0,none⟩),.pointer (some ⟨w1.heap.size,0,none⟩),undef,.pointer (some ⟨Bx,0,none⟩),undef,undef,undef,undef,undef,.pointer (some ⟨t,0,none⟩),.bool false,.pointer (some ⟨t,0,none⟩),.pointer (some ⟨t,0,none⟩),.pointer (some ⟨t,4,none⟩),.slice p E.L.length c,.func (.func 66) #[] #[.pointer (some ⟨w1.heap.size+1,0,none⟩)],.int .i64 ((x.val:Nat):Int),.agg #[.pointer (some ⟨X[x.val].1,0,none⟩),.int .i64 (X[x.val].2:Int)],undef,undef,undef,undef,undef,undef,undef,undef,undef,undef,undef,undef,undef,undef,undef,undef,undef,undef,undef,undef,undef,undef,undef,undef,undef,undef,undef,undef,undef,undef,undef],defers:=[] })
  (fun x a' _ A B row h hg hr=>by
   obtain ⟨Bx,q1,q2,q3⟩:=h
   exact ⟨Bx,q1,(hg.block Bx (Array.getElem?_eq_some_iff.1 q2).1 (fun e=>by obtain ⟨h3,o,h4,h5⟩:=hr _ e.symm;rw [q2] at h4;cases h4;cases h5)).trans q2,q3⟩) ?assign ?body ?done ?stop)
 case assign=>
  rintro l pre x W K ⟨⟨hT,hn⟩,v,hv,hr,-⟩ hK
  unfold encT
  generalize X[x.val].1=qx at *
  generalize X[x.val].2=nx at *
  gi_wp2
  have hb:Below W.heap.size W (W.alloc (.cells #[.pointer (some ⟨qx,0,none⟩),.int .i64 (nx:Int)] 72)):=by go_grown
  have hsT:=hT.size
  exact hK _ _ (Zd8 (S:=fun _=>False) (Touch.quiet hb) (fun _ h=>h.elim)) ⟨⟨hb.block _ (by omega),fun a ha=>hb.block _ (by have:=hpl a ha;omega)⟩,hb.size⟩ ⟨⟨hT.trans (Touch.quiet hb),hn⟩,v,hv.alloc _,own_below hr hb,trivial⟩ ⟨W.heap.size,hsT,heap_alloc_new W _,rfl⟩
 case body=>
  rintro l pre x a' W hl ⟨r,hr⟩ ⟨⟨hT,hn⟩,v,hv,ho,-⟩ ⟨Bx,hBx,bX,rfl⟩ hlt
  have hi:x.val<E.L.length:=by rw [<-hxl];exact x.isLt
  have hsT:=hT.size
  obtain ⟨hlv2,hlo⟩:=Zmq E.L E.di hok.lev x.val hi
  have hs1:=Zgx E.R (atL E.di E.L x.val) E.L[x.val].n hok.rts.good
  have hBW:Below w.heap.size w W:=hbw.trans (hT.below (by omega) (fun k hk=>by subst hk;omega))
  have hL1:=(H.lev x.val x.isLt hi).below hBW
  have hVx:lv x=E.L[x.val]:=by rw [hlv]
  have b0:W.cell? ⟨Bx,0,none⟩=some (.pointer (some ⟨X[x.val].1,0,none⟩)):=by rw [cell_of_row W Bx 0 _ _ (0,0) bX];rfl
  have hBxl:Bx<W.heap.size:=(Array.getElem?_eq_some_iff.1 bX).1
  have a0:=hT.cell a0 (show ¬w.heap.size=w1.heap.size by omega)
  have a1:=hT.cell a1 (show ¬w.heap.size=w1.heap.size by omega)
  have x4:Boxed W (w.heap.size+1) 3 (.int .i64 0):=(hT.block _ (by omega) (by omega)).trans x4
  have x5:Boxed W (w.heap.size+2) 25 (.slice none 0 0):=(hT.block _ (by omega) (by omega)).trans x5
  have hpre:=fun (y:List (Fin X.length))=>(List.map_append (f:=lv) (l₁:=y) (l₂:=[x]))
  have hmp:(pre++[x]).map lv=pre.map lv++[E.L[x.val]]:=by rw [List.map_append,List.map_singleton,hVx]
  have HLK:=hid (Zj1.look W _ X[x.val].1 E.L[x.val] _ ah al hL1 hlo (by omega) (by omega) ha hb)
  have HO0:=hid ho
  have x40:=x4
  have x50:=x5
  have HBT:=hid (fun W (h:LevP W (fun j=>col j=x.val+4/\K j) X[x.val].1 E.L[x.val])=>Zj1.bits W _ X[x.val].1 E.L[x.val] h)
  have HL1:=hid hL1
  have hsn:=@Zow ah al (pre.map lv) E.L[x.val] hn
  have hsm:=@Zmp ah al (pre.map lv) E.L[x.val] hn
  have hno:=@Zyu ah al E.L[x.val]
  rw [<-hmp] at hsn hsm
  have hpl2:(Zam ah al (pre.map lv)).2.length<=128:=by
   have:=(Zeu ah al (pre.map lv)).length_le
   rw [List.length_map,List.length_map] at this
   omega
  generalize Zam ah al (pre.map lv)=res at hn ho hsn hsm hpl2 HO0
  clear hlv hmap hkey hmp hVx
  generalize X[x.val].1=qx at *
  generalize X[x.val].2=nx at *
  generalize E.L[x.val]=V at *
  unfold Z2m at HLK
  have HSN:=hid hsn
  have HSM:=hid hsm
  clear hsn hsm hlo hs1 hlv2 hL1 hpre
  gi_wp2
  refine ⟨trivial,(CallsIn.inRound l (callsIn_wide.2 HLK.out)).mono ?_⟩
  rintro e W2 ⟨rfl,hb2⟩
  have hs2:=hb2.size
  have x4:Boxed W2 (w.heap.size+1) 3 (.int .i64 0):=(hb2.block _ (by omega)).trans x4
  have x5:Boxed W2 (w.heap.size+2) 25 (.slice none 0 0):=(hb2.block _ (by omega)).trans x5
  have hv2:Boxed W2 w1.heap.size 25 v:=(hb2.block _ (by omega)).trans hv
  have HO2:=hid (own_below ho hb2)
  have hT2:=hT.trans (Touch.quiet hb2)
  have b0:=(hb2.cell (p:=⟨Bx,0,none⟩) hBxl).trans b0
  have HL2:=hid (HL1.out.below hb2)
  have hkf:KeepsFrom W1.heap.size W W2:=Zd8 (S:=fun _=>False) (Touch.quiet hb2) (fun _ h=>h.elim)
  have hkp:KpT (w1.heap.size+1) p W W2:=⟨⟨hb2.block _ (by omega),fun a ha=>hb2.block _ (by have:=hpl a ha;omega)⟩,hs2⟩
  have hBx2:Bx<W2.heap.size:=by omega
  clear HLK HL1 ho hv bX
  cases hm:V.may ah al with
  | false=>
   have hh:=hno hm
   have hsn:=HSN.out hm
   rw [hh]
   clear HSN HSM
   gi_wp2
   exact ⟨hkf,hkp,⟨⟨hT2,by rw [hsn];exact hn⟩,v,hv2,by rw [hsn];exact HO2.out,trivial⟩⟩
  | true=>
   have hsm:=HSM.out hm
   clear HSN HSM
   obtain ⟨pv,cv,rfl⟩:=Zag HO2.out
   have c5:=hv2.cell
   have c6:=hv2.frozen
   cases hh:V.hit ah al with
   | none=>
    gi_wp2
    refine Zda (by kernel_rfl) (by kernel_rfl) ?_
    refine Zki (fun w'=>w'.cell? ⟨w1.heap.size,0,none⟩=some (.slice pv res.2.length cv)/\w'.cell? ⟨Bx,0,none⟩=some (.pointer (some ⟨qx,0,none⟩))) [1] [0,2] [3,4] [5,6] (fun _ _ _ h=>h) (by kernel_rfl) (by kernel_rfl) ⟨c5,b0⟩ ?_
    simp only [Zah,List.filterMap_cons,List.filterMap_nil,List.getElem?_toArray,List.getElem?_cons_succ,List.getElem?_cons_zero]
    iterate 1 (quiet_step (fail))
    refine wpQuiet_nil ?_
    refine Zdt (.slice pv res.2.length cv) rfl (fun w' ⟨c5,b0⟩=>by go_simp) ?_
    refine Zdt (.pointer (some ⟨qx,0,none⟩)) rfl (fun w' ⟨c5,b0⟩=>by go_simp) ?_
    refine wpQuiet_nil ?_
    intro K hK o ho
    injection ho with ho
    subst ho
    go_simp
    go_at_call 39
    refine (HBT.out _ (HL2.out.below (by go_grown))).mono ?_
    rintro e W3 ⟨rfl,hb3⟩
    have hb3:Below W2.heap.size W2 W3:=Below.trans (by go_grown) hb3
    have hs3:=hb3.size
    have c5:=(hb3.cell (p:=⟨w1.heap.size,0,none⟩) (show w1.heap.size<_ by omega)).trans c5
    have b0:=(hb3.cell (p:=⟨Bx,0,none⟩) hBx2).trans b0
    refine hK _ _ ⟨c5,b0⟩ ?_
    clear hK K
    intro K hK o ho
    injection ho with ho
    subst ho
    go_simp
    obtain ⟨W4,hW4⟩:∃W:World,W=W3.alloc (.cells #[.int .i64 V.n] 3):=⟨_,rfl⟩
    have hb4:Below W3.heap.size W3 W4:=by rw [hW4];go_grown
    have hs4:W4.heap.size=W3.heap.size+1:=by rw [hW4];simp
    have hn4:W4.cell? ⟨W3.heap.size,0,none⟩=some (.int .i64 V.n):=by rw [hW4];simp [go_sem]
    try rw [<-hW4]
    have c5:=(hb4.cell (p:=⟨w1.heap.size,0,none⟩) (show w1.heap.size<_ by omega)).trans c5
    have b0:=(hb4.cell (p:=⟨Bx,0,none⟩) (show Bx<_ by omega)).trans b0
    refine hK _ _ ⟨c5,b0⟩ ?_
    clear hK K
    have hb24:=hb3.trans (hb4.mono hb3.size)
    have HO4:=hid (own_below HO2.out hb24)
    have hv4:Boxed W4 w1.heap.size 25 (.slice pv res.2.length cv):=(hb24.block _ (by omega)).trans hv2
    obtain ⟨i0,hi0,iz0,iz1,iz2⟩:=info_parts Z20
    show wpList _ _ _ _ _ _
    simp only [Zah,List.filterMap_cons,List.filterMap_nil,List.getElem?_toArray,List.getElem?_cons_succ,List.getElem?_cons_zero]
    refine wpList_append_own_at _ rfl (.tmp 32) (.tmp 36) 25 rfl W1.heap.size 3 i0 _ 1 8 Tryz.underlying25 hi0 iz0 iz1 iz2 rfl (by decide) _ _ _ rfl HO4.out ⟨W3.heap.size,0,none⟩ 1 1 [.int .i64 V.n] rfl rfl (Zq2 hn4) (by simp [Value.oneCell']) (by unfold maxLen;omega) (by omega) (by omega) ?_
    intro v6 W6 ho6 hg6 _ hat6
    obtain ⟨p6,d6,rfl⟩:=Zag ho6
    have hob:∀j,(Value.slice pv res.2.length cv).ownBlock=some j->W1.heap.size<=j:=fun j hj=>(HO4.out.lt j hj).1
    have hv6:Boxed W6 w1.heap.size 25 (.slice pv res.2.length cv):=hv4.kept hg6 (fun e=>by have:=hob _ e.symm;omega)
    have c5:=hv6.cell
    have c6:=hv6.frozen
    obtain ⟨W7,hW7⟩:∃W:World,W=W6.setCell ⟨w1.heap.size,0,none⟩ (.slice p6 (res.2.length+1) d6):=⟨_,rfl⟩
    have hv7:Boxed W7 w1.heap.size 25 (.slice p6 (res.2.length+1) d6):=by rw [hW7];exact hv6.set _
    have ho7:W7.ownsRow W1.heap.size 3 1 (.slice p6 (res.2.length+1) d6) (res.2.length+1) (ics (res.2++[V.n])):=by
     rw [hW7,Zfh,Zzc]
     exact ownsRow_setCell_below ho6 (by show w1.heap.size<_;omega) _
    have hT6:Touch (fun j=>(Value.slice pv res.2.length cv).ownBlock=some j\/j=w1.heap.size) W4 W7:=(Touch.of_grown hg6 (fun k e => .inl e.symm)).trans (by
     rw [hW7]
     exact ⟨rfl,rfl,rfl,by rw [World.size_setCell];exact Nat.le_refl _,fun k _ hn=>Below.heap_setCell W6 ⟨w1.heap.size,0,none⟩ _ k (fun e=>hn (.inr e))⟩)
    have hTW:Touch (fun j=>(Value.slice pv res.2.length cv).ownBlock=some j\/j=w1.heap.size) W W7:=((Touch.quiet hb2).trans (Touch.quiet hb24)).trans hT6
    have hT7:Touch (fun j=>j=w1.heap.size) W1 W7:=Zas hT (fun j hj=>hj.elim (fun e => .inr (hob j e)) .inl) hTW
    have hkf7:KeepsFrom W1.heap.size W W7:=Ziu hTW (fun j o hj ho1 hc=>by
     rcases hj with e | e
     ·exact (Zoi HO0.out e ho1 hc).elim
     ·omega)
    have hkp7:KpT (w1.heap.size+1) p W W7:=⟨⟨hTW.block _ (by omega) (fun e=>by
     rcases e with e | e
     ·have:=hob _ e;omega
     ·omega),fun a ha=>hTW.block _ (by have:=hpl a ha;omega) (fun e=>by
     have:=hpl a ha
     rcases e with e | e
     ·have:=hob _ e;omega
     ·omega)⟩,hTW.size⟩
    have x4:Boxed W7 (w.heap.size+1) 3 (.int .i64 0):=(hTW.block _ (by omega) (fun e=>by
     rcases e with e | e
     ·have:=hob _ e;omega
     ·omega)).trans x40
    have x5:Boxed W7 (w.heap.size+2) 25 (.slice none 0 0):=(hTW.block _ (by omega) (fun e=>by
     rcases e with e | e
     ·have:=hob _ e;omega
     ·omega)).trans x50
    have hs7:=hTW.size
    go_wp2_with fail
    refine Zck.normal ?_
    rw [<-hW7]
    clear hT6 hTW hv6 ho6 hg6 hat6 hv4 hW7
    gi_wp2
    exact ⟨hkf7,hkp7,⟨⟨hT7,hsm.1.trans hh⟩,_,hv7,by rw [hsm.2,List.length_append];exact ho7,trivial⟩⟩
   | some hop=>
    gi_wp2
    refine Zda (by kernel_rfl) (by kernel_rfl) ?_
    refine Zki (fun w'=>w'.cell? ⟨w1.heap.size,0,none⟩=some (.slice pv res.2.length cv)/\w'.cell? ⟨Bx,0,none⟩=some (.pointer (some ⟨qx,0,none⟩))) [1] [0,2] [3,4] [5,6] (fun _ _ _ h=>h) (by kernel_rfl) (by kernel_rfl) ⟨c5,b0⟩ ?_
    simp only [Zah,List.filterMap_cons,List.filterMap_nil,List.getElem?_toArray,List.getElem?_cons_succ,List.getElem?_cons_zero]
    iterate 1 (quiet_step (fail))
    refine wpQuiet_nil ?_
    refine Zdt (.slice pv res.2.length cv) rfl (fun w' ⟨c5,b0⟩=>by go_simp) ?_
    refine Zdt (.pointer (some ⟨qx,0,none⟩)) rfl (fun w' ⟨c5,b0⟩=>by go_simp) ?_
    refine wpQuiet_nil ?_
    intro K hK o ho
    injection ho with ho
    subst ho
    go_simp
    go_at_call 39
    refine (HBT.out _ (HL2.out.below (by go_grown))).mono ?_
    rintro e W3 ⟨rfl,hb3⟩
    have hb3:Below W2.heap.size W2 W3:=Below.trans (by go_grown) hb3
    have hs3:=hb3.size
    have c5:=(hb3.cell (p:=⟨w1.heap.size,0,none⟩) (show w1.heap.size<_ by omega)).trans c5
    have b0:=(hb3.cell (p:=⟨Bx,0,none⟩) hBx2).trans b0
    refine hK _ _ ⟨c5,b0⟩ ?_
    clear hK K
    intro K hK o ho
    injection ho with ho
    subst ho
    go_simp
    obtain ⟨W4,hW4⟩:∃W:World,W=W3.alloc (.cells #[.int .i64 V.n] 3):=⟨_,rfl⟩
    have hb4:Below W3.heap.size W3 W4:=by rw [hW4];go_grown
    have hs4:W4.heap.size=W3.heap.size+1:=by rw [hW4];simp
    have hn4:W4.cell? ⟨W3.heap.size,0,none⟩=some (.int .i64 V.n):=by rw [hW4];simp [go_sem]
    try rw [<-hW4]
    have c5:=(hb4.cell (p:=⟨w1.heap.size,0,none⟩) (show w1.heap.size<_ by omega)).trans c5
    have b0:=(hb4.cell (p:=⟨Bx,0,none⟩) (show Bx<_ by omega)).trans b0
    refine hK _ _ ⟨c5,b0⟩ ?_
    clear hK K
    have hb24:=hb3.trans (hb4.mono hb3.size)
    have HO4:=hid (own_below HO2.out hb24)
    have hv4:Boxed W4 w1.heap.size 25 (.slice pv res.2.length cv):=(hb24.block _ (by omega)).trans hv2
    obtain ⟨i0,hi0,iz0,iz1,iz2⟩:=info_parts Z20
    show wpList _ _ _ _ _ _
    simp only [Zah,List.filterMap_cons,List.filterMap_nil,List.getElem?_toArray,List.getElem?_cons_succ,List.getElem?_cons_zero]
    refine wpList_append_own_at _ rfl (.tmp 32) (.tmp 36) 25 rfl W1.heap.size 3 i0 _ 1 8 Tryz.underlying25 hi0 iz0 iz1 iz2 rfl (by decide) _ _ _ rfl HO4.out ⟨W3.heap.size,0,none⟩ 1 1 [.int .i64 V.n] rfl rfl (Zq2 hn4) (by simp [Value.oneCell']) (by unfold maxLen;omega) (by omega) (by omega) ?_
    intro v6 W6 ho6 hg6 _ hat6
    obtain ⟨p6,d6,rfl⟩:=Zag ho6
    have hob:∀j,(Value.slice pv res.2.length cv).ownBlock=some j->W1.heap.size<=j:=fun j hj=>(HO4.out.lt j hj).1
    have hv6:Boxed W6 w1.heap.size 25 (.slice pv res.2.length cv):=hv4.kept hg6 (fun e=>by have:=hob _ e.symm;omega)
    have c5:=hv6.cell
    have c6:=hv6.frozen
    obtain ⟨W7,hW7⟩:∃W:World,W=W6.setCell ⟨w1.heap.size,0,none⟩ (.slice p6 (res.2.length+1) d6):=⟨_,rfl⟩
    have hv7:Boxed W7 w1.heap.size 25 (.slice p6 (res.2.length+1) d6):=by rw [hW7];exact hv6.set _
    have ho7:W7.ownsRow W1.heap.size 3 1 (.slice p6 (res.2.length+1) d6) (res.2.length+1) (ics (res.2++[V.n])):=by
     rw [hW7,Zfh,Zzc]
     exact ownsRow_setCell_below ho6 (by show w1.heap.size<_;omega) _
    have hT6:Touch (fun j=>(Value.slice pv res.2.length cv).ownBlock=some j\/j=w1.heap.size) W4 W7:=(Touch.of_grown hg6 (fun k e => .inl e.symm)).trans (by
     rw [hW7]
     exact ⟨rfl,rfl,rfl,by rw [World.size_setCell];exact Nat.le_refl _,fun k _ hn=>Below.heap_setCell W6 ⟨w1.heap.size,0,none⟩ _ k (fun e=>hn (.inr e))⟩)
    have hTW:Touch (fun j=>(Value.slice pv res.2.length cv).ownBlock=some j\/j=w1.heap.size) W W7:=((Touch.quiet hb2).trans (Touch.quiet hb24)).trans hT6
    have hT7:Touch (fun j=>j=w1.heap.size) W1 W7:=Zas hT (fun j hj=>hj.elim (fun e => .inr (hob j e)) .inl) hTW
    have hkf7:KeepsFrom W1.heap.size W W7:=Ziu hTW (fun j o hj ho1 hc=>by
     rcases hj with e | e
     ·exact (Zoi HO0.out e ho1 hc).elim
     ·omega)
    have hkp7:KpT (w1.heap.size+1) p W W7:=⟨⟨hTW.block _ (by omega) (fun e=>by
     rcases e with e | e
     ·have:=hob _ e;omega
     ·omega),fun a ha=>hTW.block _ (by have:=hpl a ha;omega) (fun e=>by
     have:=hpl a ha
     rcases e with e | e
     ·have:=hob _ e;omega
     ·omega)⟩,hTW.size⟩
    have x4:Boxed W7 (w.heap.size+1) 3 (.int .i64 0):=(hTW.block _ (by omega) (fun e=>by
     rcases e with e | e
     ·have:=hob _ e;omega
     ·omega)).trans x40
    have x5:Boxed W7 (w.heap.size+2) 25 (.slice none 0 0):=(hTW.block _ (by omega) (fun e=>by
     rcases e with e | e
     ·have:=hob _ e;omega
     ·omega)).trans x50
    have hs7:=hTW.size
    go_wp2_with fail
    refine Zck.normal ?_
    rw [<-hW7]
    clear hT6 hv6 ho6 hg6 hat6 hv4 hW7
    have c7:=hv7.cell
    have y4:=x4.cell
    have y5:=x5.cell
    have f4:=x4.frozen
    have f5:=x5.frozen
    gi_wp2
    refine Zda (by kernel_rfl) (by kernel_rfl) ?_
    refine wpAny_take (i:=0) (v := .int .i64 hop) rfl (by kernel_rfl) (by kernel_rfl) (by kernel_rfl) (fun _ _ _ h=>h) (Or.inl ⟨by rfl,fun w=>by go_simp⟩) ?_
    refine wpAny_ready (rs:=[1,2]) (by kernel_rfl) (by simp) ?_
    refine AllReady.cons rfl (fun K hK => ?_) (AllReady.cons rfl (fun K hK => ?_) AllReady.nil)
    ·skip
     go_simp
     refine hK _ _ ?_
     clear hK K
     refine wpAny_ready (rs:=[2]) (by kernel_rfl) (by simp) ?_
     refine AllReady.cons rfl (fun K hK => ?_) AllReady.nil
     go_simp
     refine hK _ _ ?_
     clear hK K
     refine wpAny_ready (rs:=[3]) (by kernel_rfl) (by simp) ?_
     refine AllReady.cons rfl (fun K hK => ?_) AllReady.nil
     go_simp
     refine hK _ _ ?_
     clear hK K
     refine wpAny_done (by kernel_rfl) ?_ _
     refine Zck.normal ?_
     gi_wp2
     obtain ⟨W8,hW8⟩:∃W:World,W=((W7.setCell ⟨w.heap.size+1,0,none⟩ (.int .i64 hop)).setCell ⟨w.heap.size+1+1,0,none⟩ (.slice p6 (res.2.length+1) d6)).drew:=⟨_,rfl⟩
     rw [<-hW8]
     have z4:Boxed W8 (w.heap.size+1) 3 (.int .i64 hop):=by
      rw [hW8]
      exact (x4.set _).other (show w.heap.size+1≠w.heap.size+1+1 by omega) _
     have z5:Boxed W8 (w.heap.size+2) 25 (.slice p6 (res.2.length+1) d6):=by
      rw [hW8]
      exact (x5.other (show w.heap.size+2≠w.heap.size+1 by omega) _).set _
     have o8:W8.ownsRow W1.heap.size 3 1 (.slice p6 (res.2.length+1) d6) (res.2.length+1) (ics (res.2++[V.n])):=by
      rw [hW8]
      exact own_below (ownsRow_setCell_below (a:=⟨w.heap.size+1+1,0,none⟩) (ownsRow_setCell_below (a:=⟨w.heap.size+1,0,none⟩) ho7 (show w.heap.size+1<W1.heap.size by omega) _) (show w.heap.size+1+1<W1.heap.size by omega) _) (by go_grown)
     have t8:Touch (fun j=>j=w.heap.size+1\/j=w.heap.size+2) W7 W8:=by
      rw [hW8]
      exact ⟨rfl,rfl,rfl,by simp [World.drew],fun k _ hn=>(Below.heap_setCell _ ⟨w.heap.size+1+1,0,none⟩ _ k (fun e=>hn (.inr e))).trans (Below.heap_setCell W7 ⟨w.heap.size+1,0,none⟩ _ k (fun e=>hn (.inl e)))⟩
     have k8:KeepsFrom W1.heap.size W W8:=hkf7.trans (Zd8 t8 (fun j hj=>by rcases hj with e | e<;>omega))
     exact ⟨k8,⟨(hT7.mono fun _ _ h => .inr (.inr h)).trans (t8.mono fun _ _ h=>h.elim .inl (fun e => .inr (.inl e))),rfl,hop,hsm.1.trans hh,z4⟩,_,z5,by rw [hsm.2,List.length_append];exact o8,trivial⟩
    ·skip
     go_simp
     refine hK _ _ ?_
     clear hK K
     refine wpAny_ready (rs:=[1]) (by kernel_rfl) (by simp) ?_
     refine AllReady.cons rfl (fun K hK => ?_) AllReady.nil
     go_simp
     refine hK _ _ ?_
     clear hK K
     refine wpAny_ready (rs:=[3]) (by kernel_rfl) (by simp) ?_
     refine AllReady.cons rfl (fun K hK => ?_) AllReady.nil
     go_simp
     refine hK _ _ ?_
     clear hK K
     refine wpAny_done (by kernel_rfl) ?_ _
     refine Zck.normal ?_
     gi_wp2
     obtain ⟨W8,hW8⟩:∃W:World,W=((W7.setCell ⟨w.heap.size+1,0,none⟩ (.int .i64 hop)).setCell ⟨w.heap.size+1+1,0,none⟩ (.slice p6 (res.2.length+1) d6)).drew:=⟨_,rfl⟩
     rw [<-hW8]
     have z4:Boxed W8 (w.heap.size+1) 3 (.int .i64 hop):=by
      rw [hW8]
      exact (x4.set _).other (show w.heap.size+1≠w.heap.size+1+1 by omega) _
     have z5:Boxed W8 (w.heap.size+2) 25 (.slice p6 (res.2.length+1) d6):=by
      rw [hW8]
      exact (x5.other (show w.heap.size+2≠w.heap.size+1 by omega) _).set _
     have o8:W8.ownsRow W1.heap.size 3 1 (.slice p6 (res.2.length+1) d6) (res.2.length+1) (ics (res.2++[V.n])):=by
      rw [hW8]
      exact own_below (ownsRow_setCell_below (a:=⟨w.heap.size+1+1,0,none⟩) (ownsRow_setCell_below (a:=⟨w.heap.size+1,0,none⟩) ho7 (show w.heap.size+1<W1.heap.size by omega) _) (show w.heap.size+1+1<W1.heap.size by omega) _) (by go_grown)
     have t8:Touch (fun j=>j=w.heap.size+1\/j=w.heap.size+2) W7 W8:=by
      rw [hW8]
      exact ⟨rfl,rfl,rfl,by simp [World.drew],fun k _ hn=>(Below.heap_setCell _ ⟨w.heap.size+1+1,0,none⟩ _ k (fun e=>hn (.inr e))).trans (Below.heap_setCell W7 ⟨w.heap.size+1,0,none⟩ _ k (fun e=>hn (.inl e)))⟩
     have k8:KeepsFrom W1.heap.size W W8:=hkf7.trans (Zd8 t8 (fun j hj=>by rcases hj with e | e<;>omega))
     exact ⟨k8,⟨(hT7.mono fun _ _ h => .inr (.inr h)).trans (t8.mono fun _ _ h=>h.elim .inl (fun e => .inr (.inl e))),rfl,hop,hsm.1.trans hh,z4⟩,_,z5,by rw [hsm.2,List.length_append];exact o8,trivial⟩
 case done=>
  rintro D ys W hD rfl ⟨⟨hT,hn⟩,v,hv,ho,-⟩ hK
  have hsT:=hT.size
  have hBW:Below w.heap.size w W:=hbw.trans (hT.below (by omega) (fun k hk=>by subst hk;omega))
  have a0:=hT.cell a0 (show ¬w.heap.size=w1.heap.size by omega)
  have a1:=hT.cell a1 (show ¬w.heap.size=w1.heap.size by omega)
  have x4:Boxed W (w.heap.size+1) 3 (.int .i64 0):=(hT.block _ (by omega) (by omega)).trans x4
  have x5:Boxed W (w.heap.size+2) 25 (.slice none 0 0):=(hT.block _ (by omega) (by omega)).trans x5
  rw [hmap] at hn ho
  have c3:=(hBW.cell (p:=⟨t,3,none⟩) H.lt).trans H.c3
  have cl2:=Nat.lt_of_lt_of_le H.lt hBW.size
  have hgt:=fun W' (h:Below W.heap.size W W')=>Zz1.get W' (fun j=>col j=3/\K j) d E.di.toNat L0 ah al (H.dir.touched (Touch.quiet (hBW.trans (h.mono hBW.size))) (fun _ _ x=>x)) ha hb
  obtain ⟨pv,cv,rfl⟩:=Zag ho
  rw [hn,Option.none_or] at hhp
  rw [<-hpr] at ho
  unfold dirA dirV at hgt
  generalize dirK L0 ah al E.di.toNat=dk at hhp hgt
  have HGT:=hid hgt
  have HO:=hid ho
  have c6:=hv.cell
  have x4c:=x4.cell
  have x5c:=x5.cell
  have f4:=x4.frozen
  have f5:=x5.frozen
  have hln:(Zam ah al E.L.reverse).2.length=PRB.length:=by rw [hpr]
  clear ho hlv hmap hkey hn hpr hgt
  cases dk with
  | none=>
   simp only [Option.getD_none,Option.isSome_none] at HGT hhp
   have hz6:w.heap.size<W.heap.size:=by omega
   go_wp2_with fail
   have kg:=Zaa
   refine Zab (by kernel_rfl) (by kernel_rfl) ?_
   repeat (any_goals (first|go_big_quiet_step ((exact Calls.regrown_of (HGT.out _ (below_regrown _ _ _))))|quiet_step ((exact Calls.regrown_of (HGT.out _ (below_regrown _ _ _))))))
   refine wpQuiet_nil ?_
   clear kg
   intro w11 hb11
   obtain ⟨hc11,hf11⟩:=Zaf hb11
   have hs11:=hb11.size
   have hK:=(hb11.block D (Array.getElem?_eq_some_iff.1 hK).1).trans hK
   have x4:Boxed w11 (w.heap.size+1) 3 (.int .i64 0):=(hb11.block _ (by omega)).trans x4
   have x5:Boxed w11 (w.heap.size+2) 25 (.slice none 0 0):=(hb11.block _ (by omega)).trans x5
   have hv:=(hb11.block _ (by omega)).trans hv
   change Boxed w11 w1.heap.size 25 _ at hv
   have HO2:=hid (own_below HO.out hb11)
   have HB2:=hid (hBW.trans (hb11.mono hBW.size))
   have c6:=hv.cell
   have x4c:=x4.cell
   have x5c:=x5.cell
   have f4:=x4.frozen
   have f5:=x5.frozen
   simp only [hln] at c6
   clear hc11 hf11 HO HGT hb11 a0 a1 c3 cl2
   go_wp2_with fail
   go_region
   all_goals go_wp2_with fail
   obtain ⟨W9,hW9⟩:∃W:World,W=((w11.setCell ⟨w.heap.size+1,0,none⟩ (.int .i64 (-1))).setCell ⟨w.heap.size+1+1,0,none⟩ (.slice pv PRB.length cv)).drew:=⟨_,rfl⟩
   rw [<-hW9]
   have z4:Boxed W9 (w.heap.size+1) 3 (.int .i64 (-1)):=by
    rw [hW9]
    exact (x4.set _).other (show w.heap.size+1≠w.heap.size+1+1 by omega) _
   have z5:Boxed W9 (w.heap.size+2) 25 (.slice pv PRB.length cv):=by
    rw [hW9]
    exact (x5.other (show w.heap.size+2≠w.heap.size+1 by omega) _).set _
   have o9:W9.ownsRow W1.heap.size 3 1 (.slice pv PRB.length cv) PRB.length (ics PRB):=by
    rw [hW9]
    have:=HO2.out
    exact own_below (ownsRow_setCell_below (a:=⟨w.heap.size+1+1,0,none⟩) (ownsRow_setCell_below (a:=⟨w.heap.size+1,0,none⟩) this (show w.heap.size+1<W1.heap.size by omega) _) (show w.heap.size+1+1<W1.heap.size by omega) _) (by go_grown)
   have hK9:W9.heap[D]? = some (.deferred (some [])):=by
    rw [hW9]
    exact ((Below.heap_setCell _ ⟨w.heap.size+1+1,0,none⟩ _ D (show D≠w.heap.size+1+1 by omega)).trans (Below.heap_setCell w11 ⟨w.heap.size+1,0,none⟩ _ D (show D≠w.heap.size+1 by omega))).trans hK
   have hb9:Below w.heap.size w W9:=by
    have h1:=(HB2.out.setCell (p:=⟨w.heap.size+1,0,none⟩) (show w.heap.size<=w.heap.size+1 by omega) (.int .i64 (-1))).setCell (p:=⟨w.heap.size+1+1,0,none⟩) (show w.heap.size<=w.heap.size+1+1 by omega) (.slice pv PRB.length cv)
    rw [hW9]
    exact h1.trans ((by go_grown:Below _ _ (World.drew _)).mono h1.size)
   refine ⟨by simp,.inl ⟨_,_,rfl,run_takeDeferred hK9,?_⟩⟩
   have z4c:=cell_kept z4.cell (grownBy_putObj' _ D (.deferred none)) (fun r e=>by cases e;exact ⟨_,hK9,rfl⟩)
   have z5c:=cell_kept z5.cell (grownBy_putObj' _ D (.deferred none)) (fun r e=>by cases e;exact ⟨_,hK9,rfl⟩)
   refine ⟨.tuple #[.int .i64 (-1),.slice pv PRB.length cv],?_,pv,cv,by rw [hhp],IRow.of_own (ownsRow_putObj o9 _ hK9 rfl),hb9.trans (belowK_b (w:=w) (Nat.le_refl _) _ D _ _ (by omega) hK9 rfl rfl)⟩
   simp [results,Tryz.f15,go_sem,z4c,z5c]
  | some x=>
   simp only [Option.getD_some,Option.isSome_some] at HGT hhp
   have hz6:w.heap.size<W.heap.size:=by omega
   go_wp2_with fail
   have kg:=Zaa
   refine Zab (by kernel_rfl) (by kernel_rfl) ?_
   repeat (any_goals (first|go_big_quiet_step ((exact Calls.regrown_of (HGT.out _ (below_regrown _ _ _))))|quiet_step ((exact Calls.regrown_of (HGT.out _ (below_regrown _ _ _))))))
   refine wpQuiet_nil ?_
   clear kg
   intro w11 hb11
   obtain ⟨hc11,hf11⟩:=Zaf hb11
   have hs11:=hb11.size
   have hK:=(hb11.block D (Array.getElem?_eq_some_iff.1 hK).1).trans hK
   have x4:Boxed w11 (w.heap.size+1) 3 (.int .i64 0):=(hb11.block _ (by omega)).trans x4
   have x5:Boxed w11 (w.heap.size+2) 25 (.slice none 0 0):=(hb11.block _ (by omega)).trans x5
   have hv:=(hb11.block _ (by omega)).trans hv
   change Boxed w11 w1.heap.size 25 _ at hv
   have HO2:=hid (own_below HO.out hb11)
   have HB2:=hid (hBW.trans (hb11.mono hBW.size))
   have c6:=hv.cell
   have x4c:=x4.cell
   have x5c:=x5.cell
   have f4:=x4.frozen
   have f5:=x5.frozen
   simp only [hln] at c6
   clear hc11 hf11 HO HGT hb11 a0 a1 c3 cl2
   go_wp2_with fail
   go_region
   all_goals go_wp2_with fail
   obtain ⟨W9,hW9⟩:∃W:World,W=((w11.setCell ⟨w.heap.size+1,0,none⟩ (.int .i64 x)).setCell ⟨w.heap.size+1+1,0,none⟩ (.slice pv PRB.length cv)).drew:=⟨_,rfl⟩
   rw [<-hW9]
   have z4:Boxed W9 (w.heap.size+1) 3 (.int .i64 x):=by
    rw [hW9]
    exact (x4.set _).other (show w.heap.size+1≠w.heap.size+1+1 by omega) _
   have z5:Boxed W9 (w.heap.size+2) 25 (.slice pv PRB.length cv):=by
    rw [hW9]
    exact (x5.other (show w.heap.size+2≠w.heap.size+1 by omega) _).set _
   have o9:W9.ownsRow W1.heap.size 3 1 (.slice pv PRB.length cv) PRB.length (ics PRB):=by
    rw [hW9]
    have:=HO2.out
    exact own_below (ownsRow_setCell_below (a:=⟨w.heap.size+1+1,0,none⟩) (ownsRow_setCell_below (a:=⟨w.heap.size+1,0,none⟩) this (show w.heap.size+1<W1.heap.size by omega) _) (show w.heap.size+1+1<W1.heap.size by omega) _) (by go_grown)
   have hK9:W9.heap[D]? = some (.deferred (some [])):=by
    rw [hW9]
    exact ((Below.heap_setCell _ ⟨w.heap.size+1+1,0,none⟩ _ D (show D≠w.heap.size+1+1 by omega)).trans (Below.heap_setCell w11 ⟨w.heap.size+1,0,none⟩ _ D (show D≠w.heap.size+1 by omega))).trans hK
   have hb9:Below w.heap.size w W9:=by
    have h1:=(HB2.out.setCell (p:=⟨w.heap.size+1,0,none⟩) (show w.heap.size<=w.heap.size+1 by omega) (.int .i64 x)).setCell (p:=⟨w.heap.size+1+1,0,none⟩) (show w.heap.size<=w.heap.size+1+1 by omega) (.slice pv PRB.length cv)
    rw [hW9]
    exact h1.trans ((by go_grown:Below _ _ (World.drew _)).mono h1.size)
   refine ⟨by simp,.inl ⟨_,_,rfl,run_takeDeferred hK9,?_⟩⟩
   have z4c:=cell_kept z4.cell (grownBy_putObj' _ D (.deferred none)) (fun r e=>by cases e;exact ⟨_,hK9,rfl⟩)
   have z5c:=cell_kept z5.cell (grownBy_putObj' _ D (.deferred none)) (fun r e=>by cases e;exact ⟨_,hK9,rfl⟩)
   refine ⟨.tuple #[.int .i64 x,.slice pv PRB.length cv],?_,pv,cv,by rw [hhp],IRow.of_own (ownsRow_putObj o9 _ hK9 rfl),hb9.trans (belowK_b (w:=w) (Nat.le_refl _) _ D _ _ (by omega) hK9 rfl rfl)⟩
   simp [results,Tryz.f15,go_sem,z4c,z5c]
 case stop=>
  rintro D cd pre W hD ⟨Z,hZ⟩ ⟨⟨hT,rfl,hop,h1,z4⟩,v,z5,ho,-⟩ hK9
  have hsT:=hT.size
  have hb9:Below w.heap.size w W:=hbw.trans (hT.below (by omega) (fun k hk=>by rcases hk with e | e | e<;>omega))
  have hst:Zam ah al E.L.reverse=Zam ah al (pre.map lv):=by
   rw [<-hmap,<-hZ,List.map_append]
   exact Zjy _ h1
  rw [hst,h1,Option.some_or,Option.getD_some] at hhp
  rw [hst] at hpr
  rw [<-hpr] at ho
  obtain ⟨pv,cv,rfl⟩:=Zag ho
  have o9:=ho
  clear hlv hmap hkey hst hZ h1 hpr
  gi_wp2
  refine ⟨by simp,.inl ⟨_,_,rfl,run_takeDeferred hK9,?_⟩⟩
  have z4c:=cell_kept z4.cell (grownBy_putObj' _ D (.deferred none)) (fun r e=>by cases e;exact ⟨_,hK9,rfl⟩)
  have z5c:=cell_kept z5.cell (grownBy_putObj' _ D (.deferred none)) (fun r e=>by cases e;exact ⟨_,hK9,rfl⟩)
  refine ⟨.tuple #[.int .i64 hop,.slice pv PRB.length cv],?_,pv,cv,by rw [hhp],IRow.of_own (ownsRow_putObj o9 _ hK9 rfl),hb9.trans (belowK_b (w:=w) (Nat.le_refl _) _ D _ _ (by omega) hK9 rfl rfl)⟩
  simp [results,Tryz.f15,go_sem,z4c,z5c]
theorem Z8i:EngC EngP where
 bad:=fun c s L C p q k l w ws hL hC h1 h2 h3 h4 h5 h6=>Zyf c s L C p q k l w ws hL h1 h5 h6
 new:=fun c s L C p q k l w ws hL hC h1 h2 h3 h4 h5=>Zvi c s L C p q k l w ws hL hC h1 h2 h3 h4 h5
 put:=fun w K t E r H hok hg hl=>Zxy w K t E r H hok hg hl
 del:=fun w K t E k H hok hg hl=>Zz7 w K t E k H hok hg hl
 look:=fun w K t E ah al H hok hl ha hb=>Zvm w K t E ah al H hok hl ha hb
 routes:=fun w K t E H hok hl=>Zn1 w K t E H hl
 level:=fun w K t E i V H hok hl hV=>Zq6 w K t E i V H hok hl hV
 right:=fun c w=>Zgb c w
 touched:=fun _ _ _ _ _ _ H ht hn=>H.touched ht hn
end Go.Proofs.YtgfjmgebecmbiaaGreat

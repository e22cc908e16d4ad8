/-
  What replace of a table does: where the key is there it gets the new value. No condition but that the table's cells lie in memory, and that its stash is in order.
-/
import Derived.Shelf.GgSortFunc.SmallK
import Derived.Shelf.SlSortFuncK.ComposeK
import Derived.Shelf.SlSortFuncK.BreakPatternsK
import Derived.Test.YtgfjmgebecmbiaaGreatProg
import Derived.Test.YtgfjmgebecmbiaaGreatW12b
import Derived.Test.YtgfjmgebecmbiaaGreatCT
import Derived.Test.YtgfjmgebecmbiaaGreatReg2
import Derived.Test.YtgfjmgebecmbiaaGreatReg6
import Derived.Test.YtgfjmgebecmbiaaGreatL16
import Derived.Test.YtgfjmgebecmbiaaGreatM12f
set_option linter.unusedSimpArgs false
set_option linter.unusedVariables false
namespace Go.Proofs
open Go.Shelf
def Tryz.laysGg6_ren:Go.Shelf.Ren:=⟨fun | 6=>95 | 10=>121 | 11=>122 | 12=>123 | 13=>124 | 14=>125 | 24=>156 | 25=>157 | 26=>158 | 27=>159 | 28=>160 | 29=>161 | 30=>162 | 31=>163 | 32=>164 | 33=>165 | 34=>178 | 35=>179 | 36=>180 | 37=>181 | 38=>182 | 39=>188 | n=>n,fun | 20=>20 | 26=>157 | 35=>176 | 0=>0 | 37=>178 | 3=>3 | 41=>109 | 44=>183 | 49=>198 | 51=>24 | 4=>4 | 54=>201 | 53=>200 | 58=>73 | 5=>5 | 9=>9 | 60=>214 | 64=>218 | 66=>224 | 67=>148 | 17=>17 | 32=>173 | 33=>174 | 82=>242 | 12=>12 | 75=>235 | 76=>236 | 77=>237 | 78=>238 | 79=>239 | 80=>240 | n=>n,fun | n=>n⟩
theorem Tryz.laysGg6:Go.Proofs.LaysGg.n6 Tryz.prog Tryz.laysGg6_ren:={
 mixed:=by kernel_rfl
 f6:=Tryz.func95.trans (congrArg some (by kernel_rfl))
 f10:=Tryz.func121.trans (congrArg some (by kernel_rfl))
 f11:=Tryz.func122.trans (congrArg some (by kernel_rfl))
 f12:=Tryz.func123.trans (congrArg some (by kernel_rfl))
 f13:=Tryz.func124.trans (congrArg some (by kernel_rfl))
 f14:=Tryz.func125.trans (congrArg some (by kernel_rfl))
 f24:=Tryz.func156.trans (congrArg some (by kernel_rfl))
 f25:=Tryz.func157.trans (congrArg some (by kernel_rfl))
 f26:=Tryz.func158.trans (congrArg some (by kernel_rfl))
 f27:=Tryz.func159.trans (congrArg some (by kernel_rfl))
 f28:=Tryz.func160.trans (congrArg some (by kernel_rfl))
 f29:=Tryz.func161.trans (congrArg some (by kernel_rfl))
 f30:=Tryz.func162.trans (congrArg some (by kernel_rfl))
 f31:=Tryz.func163.trans (congrArg some (by kernel_rfl))
 f32:=Tryz.func164.trans (congrArg some (by kernel_rfl))
 f33:=Tryz.func165.trans (congrArg some (by kernel_rfl))
 f34:=Tryz.func178.trans (congrArg some (by kernel_rfl))
 f35:=Tryz.func179.trans (congrArg some (by kernel_rfl))
 f36:=Tryz.func180.trans (congrArg some (by kernel_rfl))
 f37:=Tryz.func181.trans (congrArg some (by kernel_rfl))
 f38:=Tryz.func182.trans (congrArg some (by kernel_rfl))
 f39:=Tryz.func188.trans (congrArg some (by kernel_rfl))
 t0:=Tryz.underlying0
 a0:=Tryz.isAgg0
 z0:=Tryz.sizeOf0
 v0:=Tryz.zeroValue0
 i0:=by kernel_rfl
 t3:=Tryz.underlying3
 a3:=Tryz.isAgg3
 z3:=Tryz.sizeOf3
 v3:=Tryz.zeroValue3
 i3:=by kernel_rfl
 t4:=Tryz.underlying4
 a4:=Tryz.isAgg4
 z4:=Tryz.sizeOf4
 v4:=Tryz.zeroValue4
 i4:=by kernel_rfl
 t5:=Tryz.underlying5
 a5:=Tryz.isAgg5
 z5:=Tryz.sizeOf5
 v5:=Tryz.zeroValue5
 i5:=by kernel_rfl
 t9:=Tryz.underlying9
 a9:=Tryz.isAgg9
 z9:=Tryz.sizeOf9
 v9:=Tryz.zeroValue9
 i9:=by kernel_rfl
 t12:=Tryz.underlying12
 a12:=Tryz.isAgg12
 z12:=Tryz.sizeOf12
 v12:=Tryz.zeroValue12
 i12:=by kernel_rfl
 t17:=Tryz.underlying17
 a17:=Tryz.isAgg17
 z17:=Tryz.sizeOf17
 v17:=Tryz.zeroValue17
 i17:=by kernel_rfl
 t20:=Tryz.underlying20
 a20:=Tryz.isAgg20
 z20:=Tryz.sizeOf20
 v20:=Tryz.zeroValue20
 i20:=by kernel_rfl
 t26:=Tryz.underlying157
 a26:=Tryz.isAgg157
 z26:=Tryz.sizeOf157
 v26:=Tryz.zeroValue157
 i26:=by kernel_rfl
 t32:=Tryz.underlying173
 a32:=Tryz.isAgg173
 z32:=Tryz.sizeOf173
 v32:=Tryz.zeroValue173
 i32:=by kernel_rfl
 t33:=Tryz.underlying174
 a33:=Tryz.isAgg174
 z33:=Tryz.sizeOf174
 v33:=Tryz.zeroValue174
 i33:=by kernel_rfl
 t35:=Tryz.underlying176
 a35:=Tryz.isAgg176
 z35:=Tryz.sizeOf176
 v35:=Tryz.zeroValue176
 i35:=by kernel_rfl
 t37:=Tryz.underlying178
 a37:=Tryz.isAgg178
 z37:=Tryz.sizeOf178
 v37:=Tryz.zeroValue178
 i37:=by kernel_rfl
 t41:=Tryz.underlying109
 a41:=Tryz.isAgg109
 z41:=Tryz.sizeOf109
 v41:=Tryz.zeroValue109
 i41:=by kernel_rfl
 t44:=Tryz.underlying183
 a44:=Tryz.isAgg183
 z44:=Tryz.sizeOf183
 v44:=Tryz.zeroValue183
 i44:=by kernel_rfl
 t49:=Tryz.underlying198
 a49:=Tryz.isAgg198
 z49:=Tryz.sizeOf198
 v49:=Tryz.zeroValue198
 i49:=by kernel_rfl
 t51:=Tryz.underlying24
 a51:=Tryz.isAgg24
 z51:=Tryz.sizeOf24
 v51:=Tryz.zeroValue24
 i51:=by kernel_rfl
 t53:=Tryz.underlying200
 a53:=Tryz.isAgg200
 z53:=Tryz.sizeOf200
 v53:=Tryz.zeroValue200
 i53:=by kernel_rfl
 t54:=Tryz.underlying201
 a54:=Tryz.isAgg201
 z54:=Tryz.sizeOf201
 v54:=Tryz.zeroValue201
 i54:=by kernel_rfl
 t58:=Tryz.underlying73
 a58:=Tryz.isAgg73
 z58:=Tryz.sizeOf73
 v58:=Tryz.zeroValue73
 i58:=by kernel_rfl
 t60:=Tryz.underlying214
 a60:=Tryz.isAgg214
 z60:=Tryz.sizeOf214
 v60:=Tryz.zeroValue214
 i60:=by kernel_rfl
 t64:=Tryz.underlying218
 a64:=Tryz.isAgg218
 z64:=Tryz.sizeOf218
 v64:=Tryz.zeroValue218
 i64:=by kernel_rfl
 t66:=Tryz.underlying224
 a66:=Tryz.isAgg224
 z66:=Tryz.sizeOf224
 v66:=Tryz.zeroValue224
 i66:=by kernel_rfl
 t67:=Tryz.underlying148
 a67:=Tryz.isAgg148
 z67:=Tryz.sizeOf148
 v67:=Tryz.zeroValue148
 i67:=by kernel_rfl
 t75:=Tryz.underlying235
 a75:=Tryz.isAgg235
 z75:=Tryz.sizeOf235
 v75:=Tryz.zeroValue235
 i75:=by kernel_rfl
 t76:=Tryz.underlying236
 a76:=Tryz.isAgg236
 z76:=Tryz.sizeOf236
 v76:=Tryz.zeroValue236
 i76:=by kernel_rfl
 t77:=Tryz.underlying237
 a77:=Tryz.isAgg237
 z77:=Tryz.sizeOf237
 v77:=Tryz.zeroValue237
 i77:=by kernel_rfl
 t78:=Tryz.underlying238
 a78:=Tryz.isAgg238
 z78:=Tryz.sizeOf238
 v78:=Tryz.zeroValue238
 i78:=by kernel_rfl
 t79:=Tryz.underlying239
 a79:=Tryz.isAgg239
 z79:=Tryz.sizeOf239
 v79:=Tryz.zeroValue239
 i79:=by kernel_rfl
 t80:=Tryz.underlying240
 a80:=Tryz.isAgg240
 z80:=Tryz.sizeOf240
 v80:=Tryz.zeroValue240
 i80:=by kernel_rfl
 t82:=Tryz.underlying242
 a82:=Tryz.isAgg242
 z82:=Tryz.sizeOf242
 v82:=Tryz.zeroValue242
 i82:=by kernel_rfl }
end Go.Proofs
namespace Go.Proofs.YtgfjmgebecmbiaaGreat
open Go.RowKit Go.Sort M
theorem flat_snoc (T:Tab) (j:Nat) (h:j<T.B.length):(T.B.take (j+1)).flatMap allC=(T.B.take j).flatMap allC++allC (T.bk j):=by
 rw [List.take_succ_eq_append_getElem h,List.flatMap_append,bk_at T j h]
 simp
theorem flat_le (T:Tab) (h4:∀i,i<T.B.length->(T.bk i).length=4):∀j,j<=T.B.length->((T.B.take j).flatMap allC).length<=j*4
 | 0,_=>by simp
 | j+1,h=>by
  have ih:=flat_le T h4 j (by omega)
  have:=allC_len (T.bk j)
  rw [h4 j (by omega)] at this
  rw [flat_snoc T j (by omega),List.length_append]
  omega
set_option maxRecDepth 100000 in
set_option maxHeartbeats 4000000 in
theorem list_any (t g:Nat) (v:Value) (T:Tab) (m:Int) (w:World) (H:CT w t g v T m) (h:Num T) (hf:T.st.length<1048576) :
 Calls Tryz.prog 94 #[.pointer (some ⟨t,0,none⟩)] w fun e w'=>NewRts w w' e (contT T):=by
 have hl:=H.tb.tlt
 have c1:=H.tb.c1
 have h4:∀i,i<T.B.length->(T.bk i).length=4:=fun i hi=>(H.tb.bk i hi).four
 have hFL:=Lib.hid (flat_le T h4)
 have hhi:=h.hi
 have HA:=Lib.hid (fun x (hx:x<T.B.length) w (H:CT w t g v T m)=>all11_any g (x*20) (T.bk x) w (H.tb.bk x hx))
 have HH:=Lib.hid H
 clear H h h4
 go_enter Tryz.func94,Tryz.ntmps94
 go_wp2
 go_loopw [3,4,10] (fun s3 s4 i wr=>∃(j:Nat) (L:List Rt),j<=T.B.length/\i = .int .i64 (j:Int)/\Hid (L=(T.B.take j).flatMap allC)/\L.length<=262144/\Hid (wr.ownsRow w.heap.size 41 4 s3 L.length (rcs L))/\Below w.heap.size w wr) (fun _ _ i _=>T.B.length-(intOf i).toNat)
 case atStart=>exact ⟨0,[],by omega,rfl,rfl,by simp,World.ownsRow_nil _ _ _ _,by go_grown⟩
 case round=>
  obtain ⟨j,L,hj,rfl,hL,hLl,hown,hb⟩:=hrel
  by_cases hlt:j<T.B.length
  ·have HH1:=Lib.hid (HH.out.below hb)
   have c1:=HH1.out.tb.c1
   have hl1:=HH1.out.tb.tlt
   have i1:(0:Int)<=(j:Int):=by omega
   have i2:(j:Int)<(T.B.length:Int):=by omega
   have hz:=hb.size
   have hfl:=hFL.out (j+1) (by omega)
   have hsn:=flat_snoc T j hlt
   rw [hsn,List.length_append,<-hL.out] at hfl
   have HSN:=Lib.hid hsn
   have HAL:=Lib.hid hfl
   have HA1:=Lib.hid (HA.out j hlt wr HH1.out)
   clear hsn hfl
   go_wp2_with fail
   refine HA1.out.mono ?_
   rintro e w2 ⟨p,c,rfl,hown2,hb2⟩
   have hownL:=Lib.hid (own_below hown.out hb2)
   have hown2:=Lib.hid hown2
   have hw2:=hb.trans (hb2.mono hb.size)
   have hz2:=hw2.size
   have hAl:=HAL.out
   obtain ⟨N,hN⟩:∃N,N=L++allC (T.bk j):=⟨_,rfl⟩
   have hl3:N.length<=262144:=by rw [hN,List.length_append];omega
   have HN:=Lib.hid hN
   clear hb2 hown HA1 hN
   go_wp2_with (at_builtin;go_loud (refine wpList_append_rts rfl (.tmp 13) (.tmp 20) rfl w.heap.size wr.heap.size _ _ L (allC (T.bk j)) N HN.out rfl rfl hownL.out hown2.out (by omega) (by omega) ?_))
   intro v3 w3 hown3 hg3 hat
   have hw3:Below w.heap.size w w3:=hw2.grown hg3 hz2 (fun k hk=>(hownL.out.lt k hk).1)
   have hO3:=Lib.hid hown3
   clear hown3 hg3 hat
   go_wp2
   go_roundw
   case rel=>exact ⟨j+1,N,by omega,by go_num,by show _=_;rw [HSN.out,HN.out,hL.out],hl3,hO3,hw3⟩
   case measure=>simp [intOf];omega
  ·have hjn:j=T.B.length:=by omega
   have HH1:=Lib.hid (HH.out.below hb)
   have c2:=HH1.out.tb.c2
   have hl1:=HH1.out.tb.tlt
   have hz:=hb.size
   have hE:contT T=L++T.st:=by
    unfold contT
    rw [hL.out,hjn,List.take_length]
   have HE:=Lib.hid hE
   clear hE
   go_wp2_with (at_builtin;go_loud (refine wpList_append_rts rfl (.tmp 23) (.tmp 27) rfl w.heap.size 0 _ _ L T.st (contT T) HE.out rfl rfl hown.out HH1.out.tb.own (by omega) (by omega) ?_))
   intro v3 w3 hown3 hg3 hat
   have hw3:Below w.heap.size w w3:=hb.grown hg3 hz (fun k hk=>(hown.out.lt k hk).1)
   obtain ⟨p3,c3,rfl⟩:=own_slice hown3
   have hO3:=Lib.hid hown3
   clear hown3 hg3 hat
   go_wp2
   go_ret
   exact ⟨p3,c3,rfl,hO3.out,hw3⟩
set_option maxRecDepth 100000 in
set_option maxHeartbeats 2000000 in
theorem unstash_any (t g:Nat) (v:Value) (T:Tab) (m:Int) (k:Ky) (w:World) (H:CT w t g v T m) (hs:Sorted T.st) (hf:T.st.length<1048576) :
 Calls Tryz.prog 128 #[.pointer (some ⟨t,0,none⟩),kyV k] w fun e w'=>e = .returned (.bool (findS T.st k).isSome)/\CStep w w' t g v { T with st:=outS T.st k } m:=by
 cases h:findS T.st k with
 | none=>
  rw [outS_none h]
  have HS:=Lib.hid (fun w H=>stashed_any t g v T m k w H hs hf)
  rw [stI_none h] at HS
  have HH:=Lib.hid H
  have hl:=H.tb.tlt
  have hge:(-1:Int)<0:=by omega
  clear H hs h
  unfold kyV at *
  go_enter Tryz.func128,Tryz.ntmps128
  go_wp2_with fail
  refine (HS.out _ (HH.out.below (by go_grown))).mono ?_
  rintro e w1 ⟨rfl,hb1⟩
  have hw1:Below w.heap.size w w1:=Below.trans (by go_grown) (hb1.mono (by go_size))
  have HH1:=Lib.hid (HH.out.below hw1)
  clear hb1
  go_wp2
  go_ret
  exact ⟨rfl,CStep.quiet HH.out hw1⟩
 | some i=>
  obtain ⟨-,hi,hik⟩:=(findS_bh T.st k hs).1 i h
  rw [out_present T.st k i hs h,List.eraseIdx_eq_take_drop_succ]
  have HS:=Lib.hid (fun w H=>stashed_any t g v T m k w H hs hf)
  rw [stI_some h] at HS
  have HH:=Lib.hid H
  have hl:=H.tb.tlt
  obtain ⟨gr,c,cur,hv,-,hgr,hg,h1,h2,h3,h4⟩:=own_whole H.tb.own (by omega)
  obtain ⟨q,hq⟩:∃q,T.st.length=q+1:=⟨T.st.length-1,by omega⟩
  have htgr:t≠gr:=by
   have:=H.tb.tv
   rw [hv] at this
   intro e
   exact this (by simp [Value.ownBlock,e])
  have hob:v.ownBlock=some gr:=by rw [hv];rfl
  have hge:¬(i:Int)<0:=by omega
  have hwr:IntKind.i64.wrap ((i:Int)+1)=(i:Int)+1:=by rw [IntKind.wrap_i64];omega
  rw [hq] at h1 h4 hv hi hf
  have HD:=Lib.hid (fun w1 hg=>delete_at gr c q i cur T.st w1 hq hg h1 h2 h3 h4 hi (by omega))
  have HG:=Lib.hid hg
  have HV:=Lib.hid hv
  have HOB:=Lib.hid hob
  have HLEN:=Lib.hid (show (T.st.take i++T.st.drop (i+1)).length=q by rw [List.length_append,List.length_take,List.length_drop];omega)
  clear H hs h hik hg h1 h2 h3 h4 hv hob hq hf hi
  generalize T.st.take i++T.st.drop (i+1)=L at *
  unfold kyV at *
  go_enter Tryz.func128,Tryz.ntmps128
  go_wp2_with fail
  refine (HS.out _ (HH.out.below (by go_grown))).mono ?_
  rintro e w1 ⟨rfl,hb1⟩
  have hw1:Below w.heap.size w w1:=Below.trans (by go_grown) (hb1.mono (by go_size))
  have HH1:=Lib.hid (HH.out.below hw1)
  clear hb1
  have c2:=HH1.out.tb.c2
  rw [HV.out] at c2
  have f2:=HH1.out.tb.f 2
  have hl1:=HH1.out.tb.tlt
  go_wp2_with fail
  refine (HD.out w1 ((hw1.block gr hgr).trans HG.out)).mono ?_
  rintro e w2 ⟨rfl,hown,hgb⟩
  have hN:=HH1.out.newStash (st':=L) (v' := .slice (some ⟨gr,0,none⟩) q c) (by rw [HOB.out];exact hgb) (by rw [HLEN.out];exact hown) (.inl HOB.out.symm)
  have hbl:=hgb.block t hl1 (by intro e;injection e with e;exact htgr e)
  have c2:=(World.cell?_of_block (a:=⟨t,2,none⟩) hbl).trans c2
  have f2:=(World.frozen?_of_block (a:=⟨t,2,none⟩) hbl).trans f2
  have hl2:=Nat.lt_of_lt_of_le hl1 hgb.size
  have HF:=Lib.hid hN
  clear hN hbl hgb hown
  go_wp2
  go_ret
  exact ⟨rfl,CStep.trans (Touch.quiet hw1) (fun _ h _=>h) ⟨_,_,HF.out⟩⟩
set_option maxRecDepth 100000 in
set_option maxHeartbeats 2000000 in
theorem replace_any (t g:Nat) (v:Value) (T:Tab) (m:Int) (r:Rt) (w:World) (H:CT w t g v T m) (h:Num T) (hk:r.k.good) (hs:Sorted T.st) (hf:T.st.length<1048576) :
 Calls Tryz.prog 132 #[.pointer (some ⟨t,0,none⟩),kyV r.k,.int .i64 r.v] w fun e w'=>e = .returned (.bool (rep12 T r).isSome)/\CT w' t g v ((rep12 T r).getD T) m/\Touch (Blk t g v) w w':=by
 have HT:=Lib.hid (fun w H=>two_any t g v T m r.k w H h hk)
 have HS:=Lib.hid (fun w H=>stashed_any t g v T m r.k w H hs hf)
 have HG:=Lib.hid (fun x (hx:x<T.B.length) w (H:CT w t g v T m)=>get11_any g (x*20) (T.bk x) r.k w (H.tb.bk x hx))
 have HP:=Lib.hid (fun x (hx:x<T.B.length) w (H:CT w t g v T m)=>put11_any g (x*20) (T.bk x) r.k r.v w (H.tb.bk x hx))
 have HH:=Lib.hid H
 have hx1:=h.x1_lt r.k
 have hx2:=h.x2_lt r.k
 have hl:=H.tb.tlt
 have HR:Hid (rep12 T r=if (getC (T.bk (T.x1 r.k)) r.k).isSome then some (T.set (T.x1 r.k) ((putC (T.bk (T.x1 r.k)) r.k r.v).getD (T.bk (T.x1 r.k)))) else if (getC (T.bk (T.x2 r.k)) r.k).isSome then some (T.set (T.x2 r.k) ((putC (T.bk (T.x2 r.k)) r.k r.v).getD (T.bk (T.x2 r.k)))) else if (findS T.st r.k).isSome then some { T with st:=intoS T.st r } else none):=rfl
 generalize hX1:T.x1 r.k=x1 at *
 generalize hX2:T.x2 r.k=x2 at *
 clear hX1 hX2 H h
 unfold kyV at *
 go_enter Tryz.func132,Tryz.ntmps132
 go_wp2_with fail
 refine (HT.out _ (HH.out.below (by go_grown))).mono ?_
 rintro e w1 ⟨rfl,hb1⟩
 have hw1:Below w.heap.size w w1:=Below.trans (by go_grown) (hb1.mono (by go_size))
 have d0:w1.cell? ⟨w.heap.size,0,none⟩=some (.int .u64 (r.k.h:Int)):=by
  rw [hb1.cell (by simp<;>omega)]
  first|assumption|(simp [go_sem];done)|(simp [go_sem, *];done)
 have d1:w1.cell? ⟨w.heap.size,1,none⟩=some (.int .u64 (r.k.l:Int)):=by
  rw [hb1.cell (by simp<;>omega)]
  first|assumption|(simp [go_sem];done)|(simp [go_sem, *];done)
 have d2:w1.cell? ⟨w.heap.size,2,none⟩=some (.int .i64 r.k.n):=by
  rw [hb1.cell (by simp<;>omega)]
  first|assumption|(simp [go_sem];done)|(simp [go_sem, *];done)
 have hz1:w.heap.size<w1.heap.size:=by
  have hs:=hb1.size
  try simp only [World.size_alloc,World.size_setCell] at hs
  omega
 clear hb1
 go_wp2
 obtain ⟨L0,hL0⟩:∃x,x=w1.heap.size:=⟨_,rfl⟩
 rw [<-hL0]
 have hz1':w.heap.size<L0:=by omega
 go_loopw [10,11,12,24] (fun s10 s11 s12 i wr=>∃(j:Nat),j<=2/\i = .int .i64 (j:Int)/\(1<=j->(getC (T.bk x1) r.k).isSome=false)/\(2<=j->(getC (T.bk x2) r.k).isSome=false)/\wr.cell? ⟨w.heap.size,0,none⟩=some (.int .u64 (r.k.h:Int))/\wr.cell? ⟨w.heap.size,1,none⟩=some (.int .u64 (r.k.l:Int))/\wr.cell? ⟨w.heap.size,2,none⟩=some (.int .i64 r.k.n) /\
  wr.cell? ⟨L0,0,none⟩=some (.int .i64 (x1:Int))/\wr.cell? ⟨L0,1,none⟩=some (.int .i64 (x2:Int))/\L0<wr.heap.size/\Below w.heap.size w wr) (fun _ _ _ i _=>2-(intOf i).toNat)
 case atStart=>
  exact ⟨0,by omega,rfl,fun h=>absurd h (by omega),fun h=>absurd h (by omega),(World.cell?_alloc_lt w1 _ ⟨w.heap.size,0,none⟩ hz1).trans d0,(World.cell?_alloc_lt w1 _ ⟨w.heap.size,1,none⟩ hz1).trans d1,(World.cell?_alloc_lt w1 _ ⟨w.heap.size,2,none⟩ hz1).trans d2,by rw [hL0];simp [go_sem],by rw [hL0];simp [go_sem],by rw [hL0];simp,by go_grown⟩
 case round=>
  clear d0 d1 d2 hz1 hL0 hw1
  obtain ⟨j,hj,rfl,hn1,hn2,d0,d1,d2,e0,e1,hz,hb⟩:=hrel
  have HN1:=Lib.hid hn1
  have HN2:=Lib.hid hn2
  clear hn1 hn2
  by_cases hlt:j<2
  ·obtain ⟨x,hx,he⟩:∃x,x<T.B.length/\((j=0/\x=x1)\/(j=1/\x=x2)):=by
    rcases (show j=0\/j=1 by omega) with e | e
    ·exact ⟨x1,hx1,.inl ⟨e,rfl⟩⟩
    ·exact ⟨x2,hx2,.inr ⟨e,rfl⟩⟩
   have ej:wr.cell? ⟨L0,j,none⟩=some (.int .i64 (x:Int)):=by
    rcases he with ⟨rfl,rfl⟩ | ⟨rfl,rfl⟩
    ·exact e0
    ·exact e1
   have HE:=Lib.hid he
   have HH1:=Lib.hid (HH.out.below hb)
   have c1:=HH1.out.tb.c1
   have hlr:=HH1.out.tb.tlt
   have i1:(0:Int)<=(x:Int):=by omega
   have i2:(x:Int)<(T.B.length:Int):=by omega
   have hz0:=hb.size
   have hzw:w.heap.size<wr.heap.size:=by omega
   have HG1:=Lib.hid (HG.out x hx)
   clear he
   cases hgx:(getC (T.bk x) r.k).isSome with
   | true=>
    rw [hgx] at HG1
    have HGX:=Lib.hid hgx
    clear hgx
    go_wp2_with fail
    have kg:=cell_grow
    refine region_whole (by kernel_rfl) (by kernel_rfl) ?_
    repeat (any_goals (first|go_big_quiet_step ((exact Calls.regrown_of (HG1.out _ (HH1.out.below (below_regrown _ _ _)))))|quiet_step ((exact Calls.regrown_of (HG1.out _ (HH1.out.below (below_regrown _ _ _)))))))
    refine wpQuiet_nil ?_
    clear kg
    intro w2 hb2
    obtain ⟨hc2,hf2⟩:=bcell hb2
    have HH2:=Lib.hid (HH1.out.below hb2)
    have c1:=(hc2 _ _ hlr).trans c1
    have d0:=(hc2 _ _ (by omega)).trans d0
    have d1:=(hc2 _ _ (by omega)).trans d1
    have d2:=(hc2 _ _ (by omega)).trans d2
    have hlr2:=Nat.lt_of_lt_of_le hlr hb2.size
    have hw2:=hb.trans (hb2.mono hb.size)
    have hz2:=hw2.size
    have hz3:w.heap.size<w2.heap.size:=by have:=hb2.size;omega
    clear hc2 hf2 hb2 e0 e1 ej HH1 hlr
    go_wp2_with fail
    have kg:=cell_grow
    refine region_tail 8 (by kernel_rfl) (by kernel_rfl) ?_
    simp only [List.take_succ_cons,List.take_zero,List.drop_succ_cons,List.drop_zero]
    repeat (any_goals (first|go_big_quiet_step (fail)|quiet_step (fail)))
    refine wpQuiet_nil ?_
    clear kg
    intro w3 hb3
    obtain ⟨hc3,hf3⟩:=bcell hb3
    have HH3:=Lib.hid (HH2.out.below hb3)
    have hw3:=hw2.trans (hb3.mono hw2.size)
    clear hc3 hf3 hb3
    go_wp2_with fail
    refine (HP.out x hx _ HH3.out).mono ?_
    rintro e w4 ⟨rfl,hB4,hT4⟩
    obtain ⟨hC4,ht4⟩:=HH3.out.turn hx hT4 hB4
    have hE:rep12 T r=some (T.set x ((putC (T.bk x) r.k r.v).getD (T.bk x))):=by
     rw [HR.out]
     rcases HE.out with ⟨-,rfl⟩ | ⟨hj1,rfl⟩
     ·rw [if_pos HGX.out]
     ·rw [if_neg (by rw [HN1.out (by omega)];decide),if_pos HGX.out]
    rw [put_of_get HGX.out]
    have HF:=Lib.hid (And.intro hC4 ((Touch.quiet hw3 (S:=Blk t g v)).trans ht4))
    have HEE:=Lib.hid hE
    clear hC4 ht4 hB4 hT4 hE
    go_wp2
    go_ret
    rw [HEE.out]
    exact ⟨rfl,HF.out.1,HF.out.2⟩
   | false=>
    rw [hgx] at HG1
    have HGX:=Lib.hid hgx
    clear hgx
    go_wp2_with fail
    have kg:=cell_grow
    refine region_whole (by kernel_rfl) (by kernel_rfl) ?_
    repeat (any_goals (first|go_big_quiet_step ((exact Calls.regrown_of (HG1.out _ (HH1.out.below (below_regrown _ _ _)))))|quiet_step ((exact Calls.regrown_of (HG1.out _ (HH1.out.below (below_regrown _ _ _)))))))
    refine wpQuiet_nil ?_
    clear kg
    intro w2 hb2
    obtain ⟨hc2,hf2⟩:=bcell hb2
    have d0:=(hc2 _ _ (by omega)).trans d0
    have d1:=(hc2 _ _ (by omega)).trans d1
    have d2:=(hc2 _ _ (by omega)).trans d2
    have e0:=(hc2 _ _ (by omega)).trans e0
    have e1:=(hc2 _ _ (by omega)).trans e1
    have hw2:=hb.trans (hb2.mono hb.size)
    have hz2:=Nat.lt_of_lt_of_le hz hb2.size
    clear hc2 hf2 hb2 HH1 hlr
    go_wp2
    go_roundw
    case rel=>
     refine ⟨j+1,by omega,by go_num,fun _ => ?_,fun h2 => ?_,d0,d1,d2,e0,e1,hz2,hw2⟩
     ·rcases HE.out with ⟨-,rfl⟩ | ⟨hj1,rfl⟩
      ·exact HGX.out
      ·exact HN1.out (by omega)
     ·rcases HE.out with ⟨hj0,-⟩ | ⟨-,rfl⟩
      ·omega
      ·exact HGX.out
    case measure=>simp [intOf];omega
  ·have hj2:j=2:=by omega
   have hE:rep12 T r=if (findS T.st r.k).isSome then some { T with st:=intoS T.st r } else none:=by
    rw [HR.out,if_neg (by rw [HN1.out (by omega)];decide),if_neg (by rw [HN2.out (by omega)];decide)]
   have HH1:=Lib.hid (HH.out.below hb)
   have HS1:=Lib.hid (HS.out wr HH1.out)
   cases hfs:findS T.st r.k with
   | none=>
    rw [hfs] at hE
    have HEE:=Lib.hid hE
    rw [stI_none hfs] at HS1
    clear hE hfs
    go_wp2_with fail
    refine HS1.out.mono ?_
    rintro e w2 ⟨rfl,hb2⟩
    have hw2:=hb.trans (hb2.mono hb.size)
    clear hb2
    go_wp2
    go_ret
    rw [HEE.out]
    exact ⟨rfl,HH.out.below hw2,Touch.quiet hw2⟩
   | some i=>
    obtain ⟨-,hi,hik⟩:=(findS_bh T.st r.k hs).1 i hfs
    have hip:=into_present T.st r i hs hfs
    have hhop:=rcs_hop T.st i hi r.v
    rw [hik] at hhop
    rw [hfs] at hE
    have HEE:=Lib.hid hE
    rw [stI_some hfs] at HS1
    have HIP:=Lib.hid hip
    have HHOP:=Lib.hid hhop
    clear hE hfs hip hhop
    go_wp2_with fail
    refine HS1.out.mono ?_
    rintro e w2 ⟨rfl,hb2⟩
    have hw2:=hb.trans (hb2.mono hb.size)
    have HH2:=Lib.hid (HH.out.below hw2)
    have hown:=HH2.out.tb.own
    obtain ⟨gs,cap,cur,hv,-,hgl,-⟩:=own_whole hown (by omega)
    subst hv
    have c2:=HH2.out.tb.c2
    have hl2:=HH2.out.tb.tlt
    obtain ⟨gr,o,e,hgr,r0,r1,r2,r3⟩:=(Row.of_own hown).rt hi
    injection e with e
    injection e with e1' e2'
    subst e1' e2'
    rw [Nat.zero_add] at r3
    have hfz:=hown.frozenAt (i*4+3)
    have i1:(0:Int)<=(i:Int):=by omega
    have i2:(i:Int)<(T.st.length:Int):=by omega
    have HO:=Lib.hid hown
    clear hb2 r0 r1 r2 hown
    go_wp2
    go_ret
    have hst:=HO.out.stored (i*4+3) (.int .i64 r.v)
    rw [HHOP.out,<-HIP.out] at hst
    have hlen:(intoS T.st r).length=T.st.length:=by rw [HIP.out];simp
    have hC:=HH2.out.inStash (st':=intoS T.st r) hst.2 (by rw [hlen];exact hst.1)
    rw [HEE.out]
    exact ⟨rfl,hC.1,(Touch.quiet hw2 (S:=Blk t g _)).trans hC.2⟩
end Go.Proofs.YtgfjmgebecmbiaaGreat

import Derived.Test.YtgfjmgebecmbiaaGreatW12c
import Derived.Test.YtgfjmgebecmbiaaGreatW12d
set_option linter.unusedSimpArgs false
set_option linter.unusedVariables false
set_option maxHeartbeats 4000000
namespace Go.Proofs.YtgfjmgebecmbiaaGreat
open Lib(hid)
open Go.RowKit Go.Sort M
theorem Zz5 {l:List Rt} {k:Ky} (hs:Sorted l):decide ((outS l k).length<l.length)=(Zaw l k).isSome:=by
 cases h:Zaw l k with
 | none=>rw [Zok h];simp
 | some i=>
  obtain ⟨-,hi,-⟩:=(Zcz l k hs).1 i h
  rw [Zd5 l k i hs h,List.length_eraseIdx,if_pos hi]
  exact decide_eq_true (by omega)
set_option maxRecDepth 100000 in
theorem Zku (t g:Nat) (v:Value) (T:Tab) (m:Int) (k:Ky) (C:List Pl) (w:World) (H:CT w t g v T m) (h:Num T) (hk:k.good) (hm0:0<=m) (hm:m<1048576) (hp1:takeC (T.bk (T.x1 k)) k=some C) :
 Calls Tryz.prog 100 #[.pointer (some ⟨t,0,none⟩),kyV k] w fun e w'=>e = .returned (.bool true)/\Zar w w' t g v (T.set (T.x1 k) C) (m-1):=by
 have HN:=hid (fun w H=>Zbv t g v T m w H h)
 have HT:=hid (fun w H=>Zca t g v T m k w H h hk)
 have HH:=hid H
 have hl:=H.tb.tlt
 have hlim:=H.tb.blk
 have HLM:=hid hlim
 have hx1:=h.x1_lt k
 have hx2:=h.x2_lt k
 have hwm:IntKind.i64.wrap (m-1)=m-1:=by rw [IntKind.wrap_i64];omega
 obtain ⟨x1,hX1⟩:∃x,x=T.x1 k:=⟨_,rfl⟩
 obtain ⟨x2,hX2⟩:∃x,x=T.x2 k:=⟨_,rfl⟩
 rw [<-hX1] at HT hx1
 rw [<-hX2] at HT hx2
 have HX1:=hid hX1
 have HX2:=hid hX2
 clear H hlim hX1 hX2
 unfold kyV at *
 go_enter Tryz.func100,Tryz.ntmps100
 go_wp2_with fail
 refine (HN.out _ (HH.out.below (by go_grown))).mono ?_
 rintro e w1 ⟨rfl,hb1⟩
 have hw1:Below w.heap.size w w1:=Below.trans (by go_grown) (hb1.mono (by go_size))
 have d0:w1.cell? ⟨w.heap.size,0,none⟩=some (.int .u64 (k.h:Int)):=by
  rw [hb1.cell (by simp<;>omega)]
  first|assumption|(simp [go_sem];done)|(simp [go_sem, *];done)
 have d1:w1.cell? ⟨w.heap.size,1,none⟩=some (.int .u64 (k.l:Int)):=by
  rw [hb1.cell (by simp<;>omega)]
  first|assumption|(simp [go_sem];done)|(simp [go_sem, *];done)
 have d2:w1.cell? ⟨w.heap.size,2,none⟩=some (.int .i64 k.n):=by
  rw [hb1.cell (by simp<;>omega)]
  first|assumption|(simp [go_sem];done)|(simp [go_sem, *];done)
 have hz1:w.heap.size<w1.heap.size:=by
  have hs:=hb1.size
  try simp only [World.size_alloc,World.size_setCell] at hs
  omega
 clear hb1
 go_wp2_with fail
 refine (HT.out _ (HH.out.below hw1)).mono ?_
 rintro e w4 ⟨rfl,hb4⟩
 have hw4:=hw1.trans (hb4.mono hw1.size)
 obtain ⟨hc4,hf4⟩:=Zaf hb4
 have d0:=(hc4 _ _ hz1).trans d0
 have d1:=(hc4 _ _ hz1).trans d1
 have d2:=(hc4 _ _ hz1).trans d2
 have hz4:=Nat.lt_of_lt_of_le hz1 hb4.size
 have HC4:=hid (HH.out.below hw4)
 have HT4:=hid (Touch.quiet hw4 (S:=Blk t g v))
 have c1:=HC4.out.tb.c1
 have hl4:=HC4.out.tb.tlt
 have hg4:=HC4.out.tb.blt
 have htg:=HC4.out.tb.tg
 have hlg:g<w.heap.size:=HLM.out g (.inr (.inl rfl))
 have hwg:w.heap.size≠g:=by omega
 have i1:(0:Int)<=(x1:Int):=by omega
 have i2:(x1:Int)<(T.B.length:Int):=by omega
 have i3:(0:Int)<=(x2:Int):=by omega
 have i4:(x2:Int)<(T.B.length:Int):=by omega
 clear hc4 hf4 hb4 hw4 hw1 hz1 HT HN hl
 have hP1:∀W,Hid (CT W t g v T m/\Touch (Blk t g v) w4 W)->W.cell? ⟨w.heap.size,0,none⟩=some (.int .u64 (k.h:Int))->W.cell? ⟨w.heap.size,1,none⟩=some (.int .u64 (k.l:Int))->W.cell? ⟨w.heap.size,2,none⟩=some (.int .i64 k.n) ->
  Calls Tryz.prog 127 #[.pointer (some ⟨g,x1*20,none⟩),.agg #[.int .u64 (k.h:Int),.int .u64 (k.l:Int),.int .i64 k.n]] W fun e w'=>e = .returned (.bool (takeC (T.bk x1) k).isSome)/\Hid (CT w' t g v (T.set x1 ((takeC (T.bk x1) k).getD (T.bk x1))) m/\Touch (Blk t g v) w4 w') /\
   w'.cell? ⟨t,1,none⟩=some (.slice (some ⟨g,0,none⟩) T.B.length T.B.length)/\w'.cell? ⟨w.heap.size,0,none⟩=some (.int .u64 (k.h:Int))/\w'.cell? ⟨w.heap.size,1,none⟩=some (.int .u64 (k.l:Int))/\w'.cell? ⟨w.heap.size,2,none⟩=some (.int .i64 k.n):=by
  intro W hW q0 q1 q2
  refine (Zch g (x1*20) (T.bk x1) k W (hW.out.1.tb.bk x1 hx1)).mono ?_
  rintro e w' ⟨rfl,h1,h2⟩
  have hB:=World.block_lt_of_cell? W ⟨w.heap.size,0,none⟩ q0
  have h3:=hW.out.1.turn hx1 h2 h1
  exact ⟨rfl,⟨h3.1,hW.out.2.trans h3.2⟩,(h2.far hW.out.1.tb.tlt htg 1).1.trans hW.out.1.tb.c1,(h2.far hB hwg 0).1.trans q0,(h2.far hB hwg 1).1.trans q1,(h2.far hB hwg 2).1.trans q2⟩
 rw [HX1.out] at hP1
 rw [hp1,<-HX1.out] at hP1
 simp only [Option.isSome_none,Option.getD_none,Option.isSome_some,Option.getD_some] at hP1
 try rw [Zbg T x1 hx1] at hP1
 have HP1:=hid hP1
 clear hP1
 go_wp2_with fail
 have kg:=Zaa
 refine Zbc [7,17] 23 (by kernel_rfl) (by kernel_rfl) (by kernel_rfl) ?_
 unfold phQ
 simp only [Nat.sub_zero,List.take_succ_cons,List.take_zero,List.getElem?_cons_succ,List.getElem?_cons_zero]
 repeat (any_goals (first|go_big_quiet_step (fail)|quiet_step (fail)))
 refine wpQuiet_nil ?_
 clear kg
 intro w5 hb5 K5 hK5 o ho
 injection ho with ho
 subst ho
 obtain ⟨hc5,hf5⟩:=Zaf hb5
 have HC5:=hid (HC4.out.below hb5)
 have hT5:=Touch.quiet hb5 (S:=Blk t g v)
 have d0:=(hc5 _ _ hz4).trans d0
 have d1:=(hc5 _ _ hz4).trans d1
 have d2:=(hc5 _ _ hz4).trans d2
 have hz5:=Nat.lt_of_lt_of_le hz4 hb5.size
 clear hc5 hf5 hb5
 go_simp
 refine (HP1.out _ ⟨HC5.out,hT5⟩ d0 d1 d2).mono ?_
 rintro e w6 ⟨rfl,hF6,k0,k1,k2,k3⟩
 have hl6:=hF6.out.1.tb.tlt
 have hz6:=Nat.lt_of_lt_of_le hz4 hF6.out.2.size
 clear d0 d1 d2 c1 hT5 HC5
 refine hK5 _ _ ?_
 clear hK5 K5
 have kg:=Zaa
 unfold phQ
 simp only [Nat.reduceSub,Nat.reduceAdd,List.drop_succ_cons,List.drop_zero,List.take_succ_cons,List.take_zero,List.getElem?_cons_succ,List.getElem?_cons_zero]
 repeat (any_goals (first|go_big_quiet_step (fail)|quiet_step (fail)))
 refine wpQuiet_nil ?_
 clear kg
 intro w7 hb7 K7 hK7 o ho
 injection ho with ho
 subst ho
 obtain ⟨hc7,hf7⟩:=Zaf hb7
 have HF7:=hid (show Hid (CT w7 t g v (T.set x1 C) m/\Touch (Blk t g v) w4 w7) from ⟨hF6.out.1.below hb7,hF6.out.2.trans (Touch.quiet hb7)⟩)
 have k1:=(hc7 _ _ hz6).trans k1
 have k2:=(hc7 _ _ hz6).trans k2
 have k3:=(hc7 _ _ hz6).trans k3
 have hz7:=Nat.lt_of_lt_of_le hz6 hb7.size
 clear hc7 hf7 hb7 k0
 go_simp
 refine hK7 _ _ ?_
 clear hK7 K7
 have kg:=Zaa
 unfold phQ
 simp only [Nat.reduceSub,Nat.reduceAdd,List.drop_succ_cons,List.drop_zero,List.take_succ_cons,List.take_zero]
 repeat (any_goals (first|go_big_quiet_step (fail)|quiet_step (fail)))
 refine wpQuiet_nil ?_
 clear kg
 intro w9 hb9
 obtain ⟨hc9,hf9⟩:=Zaf hb9
 have HF8:=hid (show Hid (CT w9 t g v (T.set x1 C) m/\Touch (Blk t g v) w4 w9) from ⟨HF7.out.1.below hb9,HF7.out.2.trans (Touch.quiet hb9)⟩)
 clear hc9 hf9 hb9 k1 k2 k3 HF7 hF6
 have c3:=HF8.out.1.c3
 have f3:=HF8.out.1.tb.f 3
 have hlt:=HF8.out.1.tb.tlt
 have hK3:=HF8.out.1.count (m-1)
 have HF10:=hid (And.intro hK3.1 ((HT4.out.trans HF8.out.2).trans hK3.2))
 clear hK3
 go_wp2
 go_ret
 rw [<-HX1.out]
 exact ⟨rfl,Zar.same HF10.out.1 HF10.out.2⟩
set_option maxRecDepth 100000 in
theorem Zke (t g:Nat) (v:Value) (T:Tab) (m:Int) (k:Ky) (C:List Pl) (w:World) (H:CT w t g v T m) (h:Num T) (hk:k.good) (hm0:0<=m) (hm:m<1048576) (hp1:takeC (T.bk (T.x1 k)) k=none) (hp2:takeC (T.bk (T.x2 k)) k=some C) :
 Calls Tryz.prog 100 #[.pointer (some ⟨t,0,none⟩),kyV k] w fun e w'=>e = .returned (.bool true)/\Zar w w' t g v (T.set (T.x2 k) C) (m-1):=by
 have HN:=hid (fun w H=>Zbv t g v T m w H h)
 have HT:=hid (fun w H=>Zca t g v T m k w H h hk)
 have HH:=hid H
 have hl:=H.tb.tlt
 have hlim:=H.tb.blk
 have HLM:=hid hlim
 have hx1:=h.x1_lt k
 have hx2:=h.x2_lt k
 have hwm:IntKind.i64.wrap (m-1)=m-1:=by rw [IntKind.wrap_i64];omega
 obtain ⟨x1,hX1⟩:∃x,x=T.x1 k:=⟨_,rfl⟩
 obtain ⟨x2,hX2⟩:∃x,x=T.x2 k:=⟨_,rfl⟩
 rw [<-hX1] at HT hx1
 rw [<-hX2] at HT hx2
 have HX1:=hid hX1
 have HX2:=hid hX2
 clear H hlim hX1 hX2
 unfold kyV at *
 go_enter Tryz.func100,Tryz.ntmps100
 go_wp2_with fail
 refine (HN.out _ (HH.out.below (by go_grown))).mono ?_
 rintro e w1 ⟨rfl,hb1⟩
 have hw1:Below w.heap.size w w1:=Below.trans (by go_grown) (hb1.mono (by go_size))
 have d0:w1.cell? ⟨w.heap.size,0,none⟩=some (.int .u64 (k.h:Int)):=by
  rw [hb1.cell (by simp<;>omega)]
  first|assumption|(simp [go_sem];done)|(simp [go_sem, *];done)
 have d1:w1.cell? ⟨w.heap.size,1,none⟩=some (.int .u64 (k.l:Int)):=by
  rw [hb1.cell (by simp<;>omega)]
  first|assumption|(simp [go_sem];done)|(simp [go_sem, *];done)
 have d2:w1.cell? ⟨w.heap.size,2,none⟩=some (.int .i64 k.n):=by
  rw [hb1.cell (by simp<;>omega)]
  first|assumption|(simp [go_sem];done)|(simp [go_sem, *];done)
 have hz1:w.heap.size<w1.heap.size:=by
  have hs:=hb1.size
  try simp only [World.size_alloc,World.size_setCell] at hs
  omega
 clear hb1
 go_wp2_with fail
 refine (HT.out _ (HH.out.below hw1)).mono ?_
 rintro e w4 ⟨rfl,hb4⟩
 have hw4:=hw1.trans (hb4.mono hw1.size)
 obtain ⟨hc4,hf4⟩:=Zaf hb4
 have d0:=(hc4 _ _ hz1).trans d0
 have d1:=(hc4 _ _ hz1).trans d1
 have d2:=(hc4 _ _ hz1).trans d2
 have hz4:=Nat.lt_of_lt_of_le hz1 hb4.size
 have HC4:=hid (HH.out.below hw4)
 have HT4:=hid (Touch.quiet hw4 (S:=Blk t g v))
 have c1:=HC4.out.tb.c1
 have hl4:=HC4.out.tb.tlt
 have hg4:=HC4.out.tb.blt
 have htg:=HC4.out.tb.tg
 have hlg:g<w.heap.size:=HLM.out g (.inr (.inl rfl))
 have hwg:w.heap.size≠g:=by omega
 have i1:(0:Int)<=(x1:Int):=by omega
 have i2:(x1:Int)<(T.B.length:Int):=by omega
 have i3:(0:Int)<=(x2:Int):=by omega
 have i4:(x2:Int)<(T.B.length:Int):=by omega
 clear hc4 hf4 hb4 hw4 hw1 hz1 HT HN hl
 have hP1:∀W,Hid (CT W t g v T m/\Touch (Blk t g v) w4 W)->W.cell? ⟨w.heap.size,0,none⟩=some (.int .u64 (k.h:Int))->W.cell? ⟨w.heap.size,1,none⟩=some (.int .u64 (k.l:Int))->W.cell? ⟨w.heap.size,2,none⟩=some (.int .i64 k.n) ->
  Calls Tryz.prog 127 #[.pointer (some ⟨g,x1*20,none⟩),.agg #[.int .u64 (k.h:Int),.int .u64 (k.l:Int),.int .i64 k.n]] W fun e w'=>e = .returned (.bool (takeC (T.bk x1) k).isSome)/\Hid (CT w' t g v (T.set x1 ((takeC (T.bk x1) k).getD (T.bk x1))) m/\Touch (Blk t g v) w4 w') /\
   w'.cell? ⟨t,1,none⟩=some (.slice (some ⟨g,0,none⟩) T.B.length T.B.length)/\w'.cell? ⟨w.heap.size,0,none⟩=some (.int .u64 (k.h:Int))/\w'.cell? ⟨w.heap.size,1,none⟩=some (.int .u64 (k.l:Int))/\w'.cell? ⟨w.heap.size,2,none⟩=some (.int .i64 k.n):=by
  intro W hW q0 q1 q2
  refine (Zch g (x1*20) (T.bk x1) k W (hW.out.1.tb.bk x1 hx1)).mono ?_
  rintro e w' ⟨rfl,h1,h2⟩
  have hB:=World.block_lt_of_cell? W ⟨w.heap.size,0,none⟩ q0
  have h3:=hW.out.1.turn hx1 h2 h1
  exact ⟨rfl,⟨h3.1,hW.out.2.trans h3.2⟩,(h2.far hW.out.1.tb.tlt htg 1).1.trans hW.out.1.tb.c1,(h2.far hB hwg 0).1.trans q0,(h2.far hB hwg 1).1.trans q1,(h2.far hB hwg 2).1.trans q2⟩
 rw [HX1.out] at hP1
 rw [hp1,<-HX1.out] at hP1
 simp only [Option.isSome_none,Option.getD_none,Option.isSome_some,Option.getD_some] at hP1
 try rw [Zbg T x1 hx1] at hP1
 have HP1:=hid hP1
 clear hP1
 have hP2:∀W,Hid (CT W t g v T m/\Touch (Blk t g v) w4 W)->W.cell? ⟨w.heap.size,0,none⟩=some (.int .u64 (k.h:Int))->W.cell? ⟨w.heap.size,1,none⟩=some (.int .u64 (k.l:Int))->W.cell? ⟨w.heap.size,2,none⟩=some (.int .i64 k.n) ->
  Calls Tryz.prog 127 #[.pointer (some ⟨g,x2*20,none⟩),.agg #[.int .u64 (k.h:Int),.int .u64 (k.l:Int),.int .i64 k.n]] W fun e w'=>e = .returned (.bool (takeC (T.bk x2) k).isSome)/\Hid (CT w' t g v (T.set x2 ((takeC (T.bk x2) k).getD (T.bk x2))) m/\Touch (Blk t g v) w4 w') /\
   w'.cell? ⟨t,1,none⟩=some (.slice (some ⟨g,0,none⟩) T.B.length T.B.length)/\w'.cell? ⟨w.heap.size,0,none⟩=some (.int .u64 (k.h:Int))/\w'.cell? ⟨w.heap.size,1,none⟩=some (.int .u64 (k.l:Int))/\w'.cell? ⟨w.heap.size,2,none⟩=some (.int .i64 k.n):=by
  intro W hW q0 q1 q2
  refine (Zch g (x2*20) (T.bk x2) k W (hW.out.1.tb.bk x2 hx2)).mono ?_
  rintro e w' ⟨rfl,h1,h2⟩
  have hB:=World.block_lt_of_cell? W ⟨w.heap.size,0,none⟩ q0
  have h3:=hW.out.1.turn hx2 h2 h1
  exact ⟨rfl,⟨h3.1,hW.out.2.trans h3.2⟩,(h2.far hW.out.1.tb.tlt htg 1).1.trans hW.out.1.tb.c1,(h2.far hB hwg 0).1.trans q0,(h2.far hB hwg 1).1.trans q1,(h2.far hB hwg 2).1.trans q2⟩
 rw [HX2.out] at hP2
 rw [hp2,<-HX2.out] at hP2
 simp only [Option.isSome_none,Option.getD_none,Option.isSome_some,Option.getD_some] at hP2
 try rw [Zbg T x2 hx2] at hP2
 have HP2:=hid hP2
 clear hP2
 go_wp2_with fail
 have kg:=Zaa
 refine Zbc [7,17] 23 (by kernel_rfl) (by kernel_rfl) (by kernel_rfl) ?_
 unfold phQ
 simp only [Nat.sub_zero,List.take_succ_cons,List.take_zero,List.getElem?_cons_succ,List.getElem?_cons_zero]
 repeat (any_goals (first|go_big_quiet_step (fail)|quiet_step (fail)))
 refine wpQuiet_nil ?_
 clear kg
 intro w5 hb5 K5 hK5 o ho
 injection ho with ho
 subst ho
 obtain ⟨hc5,hf5⟩:=Zaf hb5
 have HC5:=hid (HC4.out.below hb5)
 have hT5:=Touch.quiet hb5 (S:=Blk t g v)
 have d0:=(hc5 _ _ hz4).trans d0
 have d1:=(hc5 _ _ hz4).trans d1
 have d2:=(hc5 _ _ hz4).trans d2
 have hz5:=Nat.lt_of_lt_of_le hz4 hb5.size
 clear hc5 hf5 hb5
 go_simp
 refine (HP1.out _ ⟨HC5.out,hT5⟩ d0 d1 d2).mono ?_
 rintro e w6 ⟨rfl,hF6,k0,k1,k2,k3⟩
 have hl6:=hF6.out.1.tb.tlt
 have hz6:=Nat.lt_of_lt_of_le hz4 hF6.out.2.size
 clear d0 d1 d2 c1 hT5 HC5
 refine hK5 _ _ ?_
 clear hK5 K5
 have kg:=Zaa
 unfold phQ
 simp only [Nat.reduceSub,Nat.reduceAdd,List.drop_succ_cons,List.drop_zero,List.take_succ_cons,List.take_zero,List.getElem?_cons_succ,List.getElem?_cons_zero]
 repeat (any_goals (first|go_big_quiet_step (fail)|quiet_step (fail)))
 refine wpQuiet_nil ?_
 clear kg
 intro w7 hb7 K7 hK7 o ho
 injection ho with ho
 subst ho
 obtain ⟨hc7,hf7⟩:=Zaf hb7
 have HF7:=hid (show Hid (CT w7 t g v (T) m/\Touch (Blk t g v) w4 w7) from ⟨hF6.out.1.below hb7,hF6.out.2.trans (Touch.quiet hb7)⟩)
 have k1:=(hc7 _ _ hz6).trans k1
 have k2:=(hc7 _ _ hz6).trans k2
 have k3:=(hc7 _ _ hz6).trans k3
 have hz7:=Nat.lt_of_lt_of_le hz6 hb7.size
 clear hc7 hf7 hb7 k0
 go_simp
 refine (HP2.out _ HF7.out k1 k2 k3).mono ?_
 rintro e w8 ⟨rfl,hF8,k0,k1,k2,k3⟩
 have hz8:=Nat.lt_of_lt_of_le hz4 hF8.out.2.size
 have hl8:=hF8.out.1.tb.tlt
 clear HF7 hF6 hz6 hl6 hl4 hz7
 refine hK7 _ _ ?_
 clear hK7 K7
 have kg:=Zaa
 unfold phQ
 simp only [Nat.reduceSub,Nat.reduceAdd,List.drop_succ_cons,List.drop_zero,List.take_succ_cons,List.take_zero]
 repeat (any_goals (first|go_big_quiet_step (fail)|quiet_step (fail)))
 refine wpQuiet_nil ?_
 clear kg
 intro w9 hb9
 obtain ⟨hc9,hf9⟩:=Zaf hb9
 have HF9:=hid (show Hid (CT w9 t g v (T.set x2 C) m/\Touch (Blk t g v) w4 w9) from ⟨hF8.out.1.below hb9,hF8.out.2.trans (Touch.quiet hb9)⟩)
 have k1:=(hc9 _ _ hz8).trans k1
 have k2:=(hc9 _ _ hz8).trans k2
 have k3:=(hc9 _ _ hz8).trans k3
 clear hc9 hf9 hb9 k0 hF8
 have c3:=HF9.out.1.c3
 have f3:=HF9.out.1.tb.f 3
 have hlt:=HF9.out.1.tb.tlt
 have hK3:=HF9.out.1.count (m-1)
 have HF10:=hid (And.intro hK3.1 ((HT4.out.trans HF9.out.2).trans hK3.2))
 clear hK3
 go_wp2
 go_ret
 rw [<-HX2.out]
 exact ⟨rfl,Zar.same HF10.out.1 HF10.out.2⟩
set_option maxRecDepth 100000 in
theorem Zm3 (t g:Nat) (v:Value) (T:Tab) (m:Int) (k:Ky) (w:World) (H:CT w t g v T m) (h:Num T) (hk:k.good) (hm0:0<=m) (hm:m<1048576) (hs:Sorted T.st) (hf:T.st.length<1048576) (hp1:takeC (T.bk (T.x1 k)) k=none) (hp2:takeC (T.bk (T.x2 k)) k=none) :
 Calls Tryz.prog 100 #[.pointer (some ⟨t,0,none⟩),kyV k] w fun e w'=>e = .returned (.bool (Zaw T.st k).isSome)/\Zar w w' t g v { T with st:=outS T.st k } (if (Zaw T.st k).isSome=true then m-1 else m):=by
 cases hfs:(Zaw T.st k).isSome with
 | true=>
  have HU:=hid (fun w H=>Zjj t g v T m k w H hs hf)
  rw [hfs] at HU
  clear hfs
  have HN:=hid (fun w H=>Zbv t g v T m w H h)
  have HT:=hid (fun w H=>Zca t g v T m k w H h hk)
  have HH:=hid H
  have hl:=H.tb.tlt
  have hlim:=H.tb.blk
  have HLM:=hid hlim
  have hx1:=h.x1_lt k
  have hx2:=h.x2_lt k
  have hwm:IntKind.i64.wrap (m-1)=m-1:=by rw [IntKind.wrap_i64];omega
  obtain ⟨x1,hX1⟩:∃x,x=T.x1 k:=⟨_,rfl⟩
  obtain ⟨x2,hX2⟩:∃x,x=T.x2 k:=⟨_,rfl⟩
  rw [<-hX1] at HT hx1
  rw [<-hX2] at HT hx2
  have HX1:=hid hX1
  have HX2:=hid hX2
  clear H hlim hX1 hX2
  unfold kyV at *
  go_enter Tryz.func100,Tryz.ntmps100
  go_wp2_with fail
  refine (HN.out _ (HH.out.below (by go_grown))).mono ?_
  rintro e w1 ⟨rfl,hb1⟩
  have hw1:Below w.heap.size w w1:=Below.trans (by go_grown) (hb1.mono (by go_size))
  have d0:w1.cell? ⟨w.heap.size,0,none⟩=some (.int .u64 (k.h:Int)):=by
   rw [hb1.cell (by simp<;>omega)]
   first|assumption|(simp [go_sem];done)|(simp [go_sem, *];done)
  have d1:w1.cell? ⟨w.heap.size,1,none⟩=some (.int .u64 (k.l:Int)):=by
   rw [hb1.cell (by simp<;>omega)]
   first|assumption|(simp [go_sem];done)|(simp [go_sem, *];done)
  have d2:w1.cell? ⟨w.heap.size,2,none⟩=some (.int .i64 k.n):=by
   rw [hb1.cell (by simp<;>omega)]
   first|assumption|(simp [go_sem];done)|(simp [go_sem, *];done)
  have hz1:w.heap.size<w1.heap.size:=by
   have hs:=hb1.size
   try simp only [World.size_alloc,World.size_setCell] at hs
   omega
  clear hb1
  go_wp2_with fail
  refine (HT.out _ (HH.out.below hw1)).mono ?_
  rintro e w4 ⟨rfl,hb4⟩
  have hw4:=hw1.trans (hb4.mono hw1.size)
  obtain ⟨hc4,hf4⟩:=Zaf hb4
  have d0:=(hc4 _ _ hz1).trans d0
  have d1:=(hc4 _ _ hz1).trans d1
  have d2:=(hc4 _ _ hz1).trans d2
  have hz4:=Nat.lt_of_lt_of_le hz1 hb4.size
  have HC4:=hid (HH.out.below hw4)
  have HT4:=hid (Touch.quiet hw4 (S:=Blk t g v))
  have c1:=HC4.out.tb.c1
  have hl4:=HC4.out.tb.tlt
  have hg4:=HC4.out.tb.blt
  have htg:=HC4.out.tb.tg
  have hlg:g<w.heap.size:=HLM.out g (.inr (.inl rfl))
  have hwg:w.heap.size≠g:=by omega
  have i1:(0:Int)<=(x1:Int):=by omega
  have i2:(x1:Int)<(T.B.length:Int):=by omega
  have i3:(0:Int)<=(x2:Int):=by omega
  have i4:(x2:Int)<(T.B.length:Int):=by omega
  clear hc4 hf4 hb4 hw4 hw1 hz1 HT HN hl
  have hP1:∀W,Hid (CT W t g v T m/\Touch (Blk t g v) w4 W)->W.cell? ⟨w.heap.size,0,none⟩=some (.int .u64 (k.h:Int))->W.cell? ⟨w.heap.size,1,none⟩=some (.int .u64 (k.l:Int))->W.cell? ⟨w.heap.size,2,none⟩=some (.int .i64 k.n) ->
   Calls Tryz.prog 127 #[.pointer (some ⟨g,x1*20,none⟩),.agg #[.int .u64 (k.h:Int),.int .u64 (k.l:Int),.int .i64 k.n]] W fun e w'=>e = .returned (.bool (takeC (T.bk x1) k).isSome)/\Hid (CT w' t g v (T.set x1 ((takeC (T.bk x1) k).getD (T.bk x1))) m/\Touch (Blk t g v) w4 w') /\
    w'.cell? ⟨t,1,none⟩=some (.slice (some ⟨g,0,none⟩) T.B.length T.B.length)/\w'.cell? ⟨w.heap.size,0,none⟩=some (.int .u64 (k.h:Int))/\w'.cell? ⟨w.heap.size,1,none⟩=some (.int .u64 (k.l:Int))/\w'.cell? ⟨w.heap.size,2,none⟩=some (.int .i64 k.n):=by
   intro W hW q0 q1 q2
   refine (Zch g (x1*20) (T.bk x1) k W (hW.out.1.tb.bk x1 hx1)).mono ?_
   rintro e w' ⟨rfl,h1,h2⟩
   have hB:=World.block_lt_of_cell? W ⟨w.heap.size,0,none⟩ q0
   have h3:=hW.out.1.turn hx1 h2 h1
   exact ⟨rfl,⟨h3.1,hW.out.2.trans h3.2⟩,(h2.far hW.out.1.tb.tlt htg 1).1.trans hW.out.1.tb.c1,(h2.far hB hwg 0).1.trans q0,(h2.far hB hwg 1).1.trans q1,(h2.far hB hwg 2).1.trans q2⟩
  rw [HX1.out] at hP1
  rw [hp1,<-HX1.out] at hP1
  simp only [Option.isSome_none,Option.getD_none,Option.isSome_some,Option.getD_some] at hP1
  try rw [Zbg T x1 hx1] at hP1
  have HP1:=hid hP1
  clear hP1
  have hP2:∀W,Hid (CT W t g v T m/\Touch (Blk t g v) w4 W)->W.cell? ⟨w.heap.size,0,none⟩=some (.int .u64 (k.h:Int))->W.cell? ⟨w.heap.size,1,none⟩=some (.int .u64 (k.l:Int))->W.cell? ⟨w.heap.size,2,none⟩=some (.int .i64 k.n) ->
   Calls Tryz.prog 127 #[.pointer (some ⟨g,x2*20,none⟩),.agg #[.int .u64 (k.h:Int),.int .u64 (k.l:Int),.int .i64 k.n]] W fun e w'=>e = .returned (.bool (takeC (T.bk x2) k).isSome)/\Hid (CT w' t g v (T.set x2 ((takeC (T.bk x2) k).getD (T.bk x2))) m/\Touch (Blk t g v) w4 w') /\
    w'.cell? ⟨t,1,none⟩=some (.slice (some ⟨g,0,none⟩) T.B.length T.B.length)/\w'.cell? ⟨w.heap.size,0,none⟩=some (.int .u64 (k.h:Int))/\w'.cell? ⟨w.heap.size,1,none⟩=some (.int .u64 (k.l:Int))/\w'.cell? ⟨w.heap.size,2,none⟩=some (.int .i64 k.n):=by
   intro W hW q0 q1 q2
   refine (Zch g (x2*20) (T.bk x2) k W (hW.out.1.tb.bk x2 hx2)).mono ?_
   rintro e w' ⟨rfl,h1,h2⟩
   have hB:=World.block_lt_of_cell? W ⟨w.heap.size,0,none⟩ q0
   have h3:=hW.out.1.turn hx2 h2 h1
   exact ⟨rfl,⟨h3.1,hW.out.2.trans h3.2⟩,(h2.far hW.out.1.tb.tlt htg 1).1.trans hW.out.1.tb.c1,(h2.far hB hwg 0).1.trans q0,(h2.far hB hwg 1).1.trans q1,(h2.far hB hwg 2).1.trans q2⟩
  rw [HX2.out] at hP2
  rw [hp2,<-HX2.out] at hP2
  simp only [Option.isSome_none,Option.getD_none,Option.isSome_some,Option.getD_some] at hP2
  try rw [Zbg T x2 hx2] at hP2
  have HP2:=hid hP2
  clear hP2
  go_wp2_with fail
  have kg:=Zaa
  refine Zbc [7,17] 23 (by kernel_rfl) (by kernel_rfl) (by kernel_rfl) ?_
  unfold phQ
  simp only [Nat.sub_zero,List.take_succ_cons,List.take_zero,List.getElem?_cons_succ,List.getElem?_cons_zero]
  repeat (any_goals (first|go_big_quiet_step (fail)|quiet_step (fail)))
  refine wpQuiet_nil ?_
  clear kg
  intro w5 hb5 K5 hK5 o ho
  injection ho with ho
  subst ho
  obtain ⟨hc5,hf5⟩:=Zaf hb5
  have HC5:=hid (HC4.out.below hb5)
  have hT5:=Touch.quiet hb5 (S:=Blk t g v)
  have d0:=(hc5 _ _ hz4).trans d0
  have d1:=(hc5 _ _ hz4).trans d1
  have d2:=(hc5 _ _ hz4).trans d2
  have hz5:=Nat.lt_of_lt_of_le hz4 hb5.size
  clear hc5 hf5 hb5
  go_simp
  refine (HP1.out _ ⟨HC5.out,hT5⟩ d0 d1 d2).mono ?_
  rintro e w6 ⟨rfl,hF6,k0,k1,k2,k3⟩
  have hl6:=hF6.out.1.tb.tlt
  have hz6:=Nat.lt_of_lt_of_le hz4 hF6.out.2.size
  clear d0 d1 d2 c1 hT5 HC5
  refine hK5 _ _ ?_
  clear hK5 K5
  have kg:=Zaa
  unfold phQ
  simp only [Nat.reduceSub,Nat.reduceAdd,List.drop_succ_cons,List.drop_zero,List.take_succ_cons,List.take_zero,List.getElem?_cons_succ,List.getElem?_cons_zero]
  repeat (any_goals (first|go_big_quiet_step (fail)|quiet_step (fail)))
  refine wpQuiet_nil ?_
  clear kg
  intro w7 hb7 K7 hK7 o ho
  injection ho with ho
  subst ho
  obtain ⟨hc7,hf7⟩:=Zaf hb7
  have HF7:=hid (show Hid (CT w7 t g v (T) m/\Touch (Blk t g v) w4 w7) from ⟨hF6.out.1.below hb7,hF6.out.2.trans (Touch.quiet hb7)⟩)
  have k1:=(hc7 _ _ hz6).trans k1
  have k2:=(hc7 _ _ hz6).trans k2
  have k3:=(hc7 _ _ hz6).trans k3
  have hz7:=Nat.lt_of_lt_of_le hz6 hb7.size
  clear hc7 hf7 hb7 k0
  go_simp
  refine (HP2.out _ HF7.out k1 k2 k3).mono ?_
  rintro e w8 ⟨rfl,hF8,k0,k1,k2,k3⟩
  have hz8:=Nat.lt_of_lt_of_le hz4 hF8.out.2.size
  have hl8:=hF8.out.1.tb.tlt
  clear HF7 hF6 hz6 hl6 hl4 hz7
  refine hK7 _ _ ?_
  clear hK7 K7
  have kg:=Zaa
  unfold phQ
  simp only [Nat.reduceSub,Nat.reduceAdd,List.drop_succ_cons,List.drop_zero,List.take_succ_cons,List.take_zero]
  repeat (any_goals (first|go_big_quiet_step (fail)|quiet_step (fail)))
  refine wpQuiet_nil ?_
  clear kg
  intro w9 hb9
  obtain ⟨hc9,hf9⟩:=Zaf hb9
  have HF9:=hid (show Hid (CT w9 t g v (T) m/\Touch (Blk t g v) w4 w9) from ⟨hF8.out.1.below hb9,hF8.out.2.trans (Touch.quiet hb9)⟩)
  have k1:=(hc9 _ _ hz8).trans k1
  have k2:=(hc9 _ _ hz8).trans k2
  have k3:=(hc9 _ _ hz8).trans k3
  clear hc9 hf9 hb9 k0 hF8
  go_wp2_with fail
  refine (HU.out _ HF9.out.1).mono ?_
  rintro e w10 ⟨rfl,g2,v2,hC,hT,hS⟩
  have c3:=hC.c3
  have f3:=hC.tb.f 3
  have hlt:=hC.tb.tlt
  have hK3:=hC.count (m-1)
  have HF10:=hid (show Zar w (w10.setCell ⟨t,3,none⟩ (.int .i64 (m-1))) t g v { T with st:=outS T.st k } (m-1) from Zar.trans (HT4.out.trans HF9.out.2) (fun _ h _=>h) ⟨g2,v2,hK3.1,hT.then hS hK3.2,hS⟩)
  clear hK3 hC hT hS
  go_wp2
  go_ret
  exact ⟨rfl,HF10.out⟩
 | false=>
  have HU:=hid (fun w H=>Zjj t g v T m k w H hs hf)
  rw [hfs] at HU
  clear hfs
  have HN:=hid (fun w H=>Zbv t g v T m w H h)
  have HT:=hid (fun w H=>Zca t g v T m k w H h hk)
  have HH:=hid H
  have hl:=H.tb.tlt
  have hlim:=H.tb.blk
  have HLM:=hid hlim
  have hx1:=h.x1_lt k
  have hx2:=h.x2_lt k
  have hwm:IntKind.i64.wrap (m-1)=m-1:=by rw [IntKind.wrap_i64];omega
  obtain ⟨x1,hX1⟩:∃x,x=T.x1 k:=⟨_,rfl⟩
  obtain ⟨x2,hX2⟩:∃x,x=T.x2 k:=⟨_,rfl⟩
  rw [<-hX1] at HT hx1
  rw [<-hX2] at HT hx2
  have HX1:=hid hX1
  have HX2:=hid hX2
  clear H hlim hX1 hX2
  unfold kyV at *
  go_enter Tryz.func100,Tryz.ntmps100
  go_wp2_with fail
  refine (HN.out _ (HH.out.below (by go_grown))).mono ?_
  rintro e w1 ⟨rfl,hb1⟩
  have hw1:Below w.heap.size w w1:=Below.trans (by go_grown) (hb1.mono (by go_size))
  have d0:w1.cell? ⟨w.heap.size,0,none⟩=some (.int .u64 (k.h:Int)):=by
   rw [hb1.cell (by simp<;>omega)]
   first|assumption|(simp [go_sem];done)|(simp [go_sem, *];done)
  have d1:w1.cell? ⟨w.heap.size,1,none⟩=some (.int .u64 (k.l:Int)):=by
   rw [hb1.cell (by simp<;>omega)]
   first|assumption|(simp [go_sem];done)|(simp [go_sem, *];done)
  have d2:w1.cell? ⟨w.heap.size,2,none⟩=some (.int .i64 k.n):=by
   rw [hb1.cell (by simp<;>omega)]
   first|assumption|(simp [go_sem];done)|(simp [go_sem, *];done)
  have hz1:w.heap.size<w1.heap.size:=by
   have hs:=hb1.size
   try simp only [World.size_alloc,World.size_setCell] at hs
   omega
  clear hb1
  go_wp2_with fail
  refine (HT.out _ (HH.out.below hw1)).mono ?_
  rintro e w4 ⟨rfl,hb4⟩
  have hw4:=hw1.trans (hb4.mono hw1.size)
  obtain ⟨hc4,hf4⟩:=Zaf hb4
  have d0:=(hc4 _ _ hz1).trans d0
  have d1:=(hc4 _ _ hz1).trans d1
  have d2:=(hc4 _ _ hz1).trans d2
  have hz4:=Nat.lt_of_lt_of_le hz1 hb4.size
  have HC4:=hid (HH.out.below hw4)
  have HT4:=hid (Touch.quiet hw4 (S:=Blk t g v))
  have c1:=HC4.out.tb.c1
  have hl4:=HC4.out.tb.tlt
  have hg4:=HC4.out.tb.blt
  have htg:=HC4.out.tb.tg
  have hlg:g<w.heap.size:=HLM.out g (.inr (.inl rfl))
  have hwg:w.heap.size≠g:=by omega
  have i1:(0:Int)<=(x1:Int):=by omega
  have i2:(x1:Int)<(T.B.length:Int):=by omega
  have i3:(0:Int)<=(x2:Int):=by omega
  have i4:(x2:Int)<(T.B.length:Int):=by omega
  clear hc4 hf4 hb4 hw4 hw1 hz1 HT HN hl
  have hP1:∀W,Hid (CT W t g v T m/\Touch (Blk t g v) w4 W)->W.cell? ⟨w.heap.size,0,none⟩=some (.int .u64 (k.h:Int))->W.cell? ⟨w.heap.size,1,none⟩=some (.int .u64 (k.l:Int))->W.cell? ⟨w.heap.size,2,none⟩=some (.int .i64 k.n) ->
   Calls Tryz.prog 127 #[.pointer (some ⟨g,x1*20,none⟩),.agg #[.int .u64 (k.h:Int),.int .u64 (k.l:Int),.int .i64 k.n]] W fun e w'=>e = .returned (.bool (takeC (T.bk x1) k).isSome)/\Hid (CT w' t g v (T.set x1 ((takeC (T.bk x1) k).getD (T.bk x1))) m/\Touch (Blk t g v) w4 w') /\
    w'.cell? ⟨t,1,none⟩=some (.slice (some ⟨g,0,none⟩) T.B.length T.B.length)/\w'.cell? ⟨w.heap.size,0,none⟩=some (.int .u64 (k.h:Int))/\w'.cell? ⟨w.heap.size,1,none⟩=some (.int .u64 (k.l:Int))/\w'.cell? ⟨w.heap.size,2,none⟩=some (.int .i64 k.n):=by
   intro W hW q0 q1 q2
   refine (Zch g (x1*20) (T.bk x1) k W (hW.out.1.tb.bk x1 hx1)).mono ?_
   rintro e w' ⟨rfl,h1,h2⟩
   have hB:=World.block_lt_of_cell? W ⟨w.heap.size,0,none⟩ q0
   have h3:=hW.out.1.turn hx1 h2 h1
   exact ⟨rfl,⟨h3.1,hW.out.2.trans h3.2⟩,(h2.far hW.out.1.tb.tlt htg 1).1.trans hW.out.1.tb.c1,(h2.far hB hwg 0).1.trans q0,(h2.far hB hwg 1).1.trans q1,(h2.far hB hwg 2).1.trans q2⟩
  rw [HX1.out] at hP1
  rw [hp1,<-HX1.out] at hP1
  simp only [Option.isSome_none,Option.getD_none,Option.isSome_some,Option.getD_some] at hP1
  try rw [Zbg T x1 hx1] at hP1
  have HP1:=hid hP1
  clear hP1
  have hP2:∀W,Hid (CT W t g v T m/\Touch (Blk t g v) w4 W)->W.cell? ⟨w.heap.size,0,none⟩=some (.int .u64 (k.h:Int))->W.cell? ⟨w.heap.size,1,none⟩=some (.int .u64 (k.l:Int))->W.cell? ⟨w.heap.size,2,none⟩=some (.int .i64 k.n) ->
   Calls Tryz.prog 127 #[.pointer (some ⟨g,x2*20,none⟩),.agg #[.int .u64 (k.h:Int),.int .u64 (k.l:Int),.int .i64 k.n]] W fun e w'=>e = .returned (.bool (takeC (T.bk x2) k).isSome)/\Hid (CT w' t g v (T.set x2 ((takeC (T.bk x2) k).getD (T.bk x2))) m/\Touch (Blk t g v) w4 w') /\
    w'.cell? ⟨t,1,none⟩=some (.slice (some ⟨g,0,none⟩) T.B.length T.B.length)/\w'.cell? ⟨w.heap.size,0,none⟩=some (.int .u64 (k.h:Int))/\w'.cell? ⟨w.heap.size,1,none⟩=some (.int .u64 (k.l:Int))/\w'.cell? ⟨w.heap.size,2,none⟩=some (.int .i64 k.n):=by
   intro W hW q0 q1 q2
   refine (Zch g (x2*20) (T.bk x2) k W (hW.out.1.tb.bk x2 hx2)).mono ?_
   rintro e w' ⟨rfl,h1,h2⟩
   have hB:=World.block_lt_of_cell? W ⟨w.heap.size,0,none⟩ q0
   have h3:=hW.out.1.turn hx2 h2 h1
   exact ⟨rfl,⟨h3.1,hW.out.2.trans h3.2⟩,(h2.far hW.out.1.tb.tlt htg 1).1.trans hW.out.1.tb.c1,(h2.far hB hwg 0).1.trans q0,(h2.far hB hwg 1).1.trans q1,(h2.far hB hwg 2).1.trans q2⟩
  rw [HX2.out] at hP2
  rw [hp2,<-HX2.out] at hP2
  simp only [Option.isSome_none,Option.getD_none,Option.isSome_some,Option.getD_some] at hP2
  try rw [Zbg T x2 hx2] at hP2
  have HP2:=hid hP2
  clear hP2
  go_wp2_with fail
  have kg:=Zaa
  refine Zbc [7,17] 23 (by kernel_rfl) (by kernel_rfl) (by kernel_rfl) ?_
  unfold phQ
  simp only [Nat.sub_zero,List.take_succ_cons,List.take_zero,List.getElem?_cons_succ,List.getElem?_cons_zero]
  repeat (any_goals (first|go_big_quiet_step (fail)|quiet_step (fail)))
  refine wpQuiet_nil ?_
  clear kg
  intro w5 hb5 K5 hK5 o ho
  injection ho with ho
  subst ho
  obtain ⟨hc5,hf5⟩:=Zaf hb5
  have HC5:=hid (HC4.out.below hb5)
  have hT5:=Touch.quiet hb5 (S:=Blk t g v)
  have d0:=(hc5 _ _ hz4).trans d0
  have d1:=(hc5 _ _ hz4).trans d1
  have d2:=(hc5 _ _ hz4).trans d2
  have hz5:=Nat.lt_of_lt_of_le hz4 hb5.size
  clear hc5 hf5 hb5
  go_simp
  refine (HP1.out _ ⟨HC5.out,hT5⟩ d0 d1 d2).mono ?_
  rintro e w6 ⟨rfl,hF6,k0,k1,k2,k3⟩
  have hl6:=hF6.out.1.tb.tlt
  have hz6:=Nat.lt_of_lt_of_le hz4 hF6.out.2.size
  clear d0 d1 d2 c1 hT5 HC5
  refine hK5 _ _ ?_
  clear hK5 K5
  have kg:=Zaa
  unfold phQ
  simp only [Nat.reduceSub,Nat.reduceAdd,List.drop_succ_cons,List.drop_zero,List.take_succ_cons,List.take_zero,List.getElem?_cons_succ,List.getElem?_cons_zero]
  repeat (any_goals (first|go_big_quiet_step (fail)|quiet_step (fail)))
  refine wpQuiet_nil ?_
  clear kg
  intro w7 hb7 K7 hK7 o ho
  injection ho with ho
  subst ho
  obtain ⟨hc7,hf7⟩:=Zaf hb7
  have HF7:=hid (show Hid (CT w7 t g v (T) m/\Touch (Blk t g v) w4 w7) from ⟨hF6.out.1.below hb7,hF6.out.2.trans (Touch.quiet hb7)⟩)
  have k1:=(hc7 _ _ hz6).trans k1
  have k2:=(hc7 _ _ hz6).trans k2
  have k3:=(hc7 _ _ hz6).trans k3
  have hz7:=Nat.lt_of_lt_of_le hz6 hb7.size
  clear hc7 hf7 hb7 k0
  go_simp
  refine (HP2.out _ HF7.out k1 k2 k3).mono ?_
  rintro e w8 ⟨rfl,hF8,k0,k1,k2,k3⟩
  have hz8:=Nat.lt_of_lt_of_le hz4 hF8.out.2.size
  have hl8:=hF8.out.1.tb.tlt
  clear HF7 hF6 hz6 hl6 hl4 hz7
  refine hK7 _ _ ?_
  clear hK7 K7
  have kg:=Zaa
  unfold phQ
  simp only [Nat.reduceSub,Nat.reduceAdd,List.drop_succ_cons,List.drop_zero,List.take_succ_cons,List.take_zero]
  repeat (any_goals (first|go_big_quiet_step (fail)|quiet_step (fail)))
  refine wpQuiet_nil ?_
  clear kg
  intro w9 hb9
  obtain ⟨hc9,hf9⟩:=Zaf hb9
  have HF9:=hid (show Hid (CT w9 t g v (T) m/\Touch (Blk t g v) w4 w9) from ⟨hF8.out.1.below hb9,hF8.out.2.trans (Touch.quiet hb9)⟩)
  have k1:=(hc9 _ _ hz8).trans k1
  have k2:=(hc9 _ _ hz8).trans k2
  have k3:=(hc9 _ _ hz8).trans k3
  clear hc9 hf9 hb9 k0 hF8
  go_wp2_with fail
  refine (HU.out _ HF9.out.1).mono ?_
  rintro e w10 ⟨rfl,hC⟩
  have HF10:=hid (Zar.trans (HT4.out.trans HF9.out.2) (fun _ h _=>h) hC)
  clear hC
  go_wp2
  go_ret
  exact ⟨rfl,HF10.out⟩
theorem Zpj (t g:Nat) (v:Value) (T:Tab) (m:Int) (k:Ky) (w:World) (H:CT w t g v T m) (h:Num T) (hk:k.good) (hm0:0<=m) (hm:m<1048576) (hs:Sorted T.st) (hf:T.st.length<1048576) :
 Calls Tryz.prog 100 #[.pointer (some ⟨t,0,none⟩),kyV k] w fun e w'=>e = .returned (.bool (delT T k).2)/\Zar w w' t g v (delT T k).1 (if (delT T k).2=true then m-1 else m):=by
 unfold delT
 cases h1:takeC (T.bk (T.x1 k)) k with
 | some C=>exact Zku t g v T m k C w H h hk hm0 hm h1
 | none=>
  cases h2:takeC (T.bk (T.x2 k)) k with
  | some C=>exact Zke t g v T m k C w H h hk hm0 hm h1 h2
  | none=>
   simp only [Zz5 hs]
   exact Zm3 t g v T m k w H h hk hm0 hm hs hf h1 h2
end Go.Proofs.YtgfjmgebecmbiaaGreat

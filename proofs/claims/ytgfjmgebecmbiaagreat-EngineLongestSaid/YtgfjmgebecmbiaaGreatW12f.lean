import Derived.Test.YtgfjmgebecmbiaaGreatW12d
set_option linter.unusedSimpArgs false
set_option linter.unusedVariables false
set_option maxHeartbeats 4000000
namespace Go.Proofs.YtgfjmgebecmbiaaGreat
open Lib(hid)
open Go.RowKit Go.Sort M
set_option maxRecDepth 100000 in
theorem Z5l (t g:Nat) (v:Value) (T T':Tab) (m:Int) (r:Rt) (w:World) (H:CT w t g v T m) (h:Num T) (hk:r.k.good) (hs:Sorted T.st) (hf:T.st.length<1048576) (hr:Zc9 T r=some T') :
 Calls Tryz.prog 102 #[.pointer (some ⟨t,0,none⟩),kyV r.k,.int .i64 r.v] w fun e w'=>e = .returned (.tuple #[])/\Zar w w' t g v T' m:=by
 have HN:=hid (fun w H=>Zbv t g v T m w H h)
 have HR:=hid (fun w H=>Zc8 t g v T m r w H h hk hs hf)
 rw [hr] at HR
 have HH:=hid H
 have hl:=H.tb.tlt
 clear H h
 unfold kyV at *
 go_enter Tryz.func102,Tryz.ntmps102
 go_wp2_with fail
 refine (HN.out _ (HH.out.below (by go_grown))).mono ?_
 rintro e w1 ⟨rfl,hb1⟩
 have hw1:Below w.heap.size w w1:=Below.trans (by go_grown) (hb1.mono (by go_size))
 have d0:w1.cell? ⟨w.heap.size,0,none⟩=some (.int .u64 (r.k.h:Int)):=by
  rw [hb1.cell (by simp<;>omega)]
  first|assumption|(simp [go_sem];done)|(simp [go_sem, *];done)
 have d1:w1.cell? ⟨w.heap.size,1,none⟩=some (.int .u64 (r.k.l:Int)):=by
  rw [hb1.cell (by simp<;>omega)]
  first|assumption|(simp [go_sem];done)|(simp [go_sem, *];done)
 have d2:w1.cell? ⟨w.heap.size,2,none⟩=some (.int .i64 r.k.n):=by
  rw [hb1.cell (by simp<;>omega)]
  first|assumption|(simp [go_sem];done)|(simp [go_sem, *];done)
 clear hb1
 go_wp2_with fail
 refine (HR.out _ (HH.out.below hw1)).mono ?_
 rintro e w2 ⟨rfl,hC2,hT2⟩
 have HF:=hid (And.intro hC2 ((Touch.quiet hw1 (S:=Blk t g v)).trans hT2))
 clear hC2 hT2
 go_wp2
 (try simp only [Exit.inBlock,Exit.then])
 refine bodyPost_ret (results_none rfl _ _ _) rfl ?_
 exact ⟨rfl,Zar.same HF.out.1 HF.out.2⟩
set_option maxRecDepth 100000 in
theorem Zu0 (t g:Nat) (v:Value) (T:Tab) (m:Int) (r:Rt) (C:List Pl) (w:World) (H:CT w t g v T m) (h:Num T) (hk:r.k.good) (hs:Sorted T.st) (hf:T.st.length<1048576) (hm0:0<=m) (hm:m<1048576) (hr:Zc9 T r=none) (hp1:putC (T.bk (T.x1 r.k)) r.k r.v=none)
 (hp2:putC (T.bk (T.x2 r.k)) r.k r.v=some C) :
 Calls Tryz.prog 102 #[.pointer (some ⟨t,0,none⟩),kyV r.k,.int .i64 r.v] w fun e w'=>e = .returned (.tuple #[])/\Zar w w' t g v (T.set (T.x2 r.k) C) (m+1):=by
 have HN:=hid (fun w H=>Zbv t g v T m w H h)
 have HR:=hid (fun w H=>Zc8 t g v T m r w H h hk hs hf)
 rw [hr] at HR
 have HT:=hid (fun w H=>Zca t g v T (m+1) r.k w H h hk)
 have HH:=hid H
 have hl:=H.tb.tlt
 have hlim:=H.tb.blk
 have HLM:=hid hlim
 have hx1:=h.x1_lt r.k
 have hx2:=h.x2_lt r.k
 have hwm:IntKind.i64.wrap (m+1)=m+1:=by rw [IntKind.wrap_i64];omega
 obtain ⟨x1,hX1⟩:∃x,x=T.x1 r.k:=⟨_,rfl⟩
 obtain ⟨x2,hX2⟩:∃x,x=T.x2 r.k:=⟨_,rfl⟩
 rw [<-hX1] at HT hx1
 rw [<-hX2] at HT hx2
 have HX1:=hid hX1
 have HX2:=hid hX2
 clear H hlim hX1 hX2
 unfold kyV at *
 go_enter Tryz.func102,Tryz.ntmps102
 go_wp2_with fail
 refine (HN.out _ (HH.out.below (by go_grown))).mono ?_
 rintro e w1 ⟨rfl,hb1⟩
 have hw1:Below w.heap.size w w1:=Below.trans (by go_grown) (hb1.mono (by go_size))
 have d0:w1.cell? ⟨w.heap.size,0,none⟩=some (.int .u64 (r.k.h:Int)):=by
  rw [hb1.cell (by simp<;>omega)]
  first|assumption|(simp [go_sem];done)|(simp [go_sem, *];done)
 have d1:w1.cell? ⟨w.heap.size,1,none⟩=some (.int .u64 (r.k.l:Int)):=by
  rw [hb1.cell (by simp<;>omega)]
  first|assumption|(simp [go_sem];done)|(simp [go_sem, *];done)
 have d2:w1.cell? ⟨w.heap.size,2,none⟩=some (.int .i64 r.k.n):=by
  rw [hb1.cell (by simp<;>omega)]
  first|assumption|(simp [go_sem];done)|(simp [go_sem, *];done)
 have hz1:w.heap.size<w1.heap.size:=by
  have hs:=hb1.size
  try simp only [World.size_alloc,World.size_setCell] at hs
  omega
 clear hb1
 go_wp2_with fail
 refine (HR.out _ (HH.out.below hw1)).mono ?_
 rintro e w2 ⟨rfl,hC2,hT2⟩
 have d0:=(hT2.upc HLM.out (Nat.le_refl _) hz1 0).trans d0
 have d1:=(hT2.upc HLM.out (Nat.le_refl _) hz1 1).trans d1
 have d2:=(hT2.upc HLM.out (Nat.le_refl _) hz1 2).trans d2
 have hz2:=Nat.lt_of_lt_of_le hz1 hT2.size
 have hC2:CT w2 t g v T m:=hC2
 have c3:=hC2.c3
 have f3:=hC2.tb.f 3
 have hK3:=hC2.count (m+1)
 have HC2:=hid hK3.1
 have HT2:=hid (((Touch.quiet hw1 (S:=Blk t g v)).trans hT2).trans hK3.2)
 have hnt:=HLM.out t (.inl rfl)
 have e0:=(World.cell?_setCell_other w2 ⟨t,3,none⟩ ⟨w.heap.size,0,none⟩ (.int .i64 (m+1)) (by intro e;injection e with e;omega)).trans d0
 have e1:=(World.cell?_setCell_other w2 ⟨t,3,none⟩ ⟨w.heap.size,1,none⟩ (.int .i64 (m+1)) (by intro e;injection e with e;omega)).trans d1
 have e2:=(World.cell?_setCell_other w2 ⟨t,3,none⟩ ⟨w.heap.size,2,none⟩ (.int .i64 (m+1)) (by intro e;injection e with e;omega)).trans d2
 have hz3:w.heap.size<(w2.setCell ⟨t,3,none⟩ (.int .i64 (m+1))).heap.size:=by rw [World.size_setCell];exact hz2
 have hl2:=hC2.tb.tlt
 have HE:=hid (And.intro e0 (And.intro e1 (And.intro e2 hz3)))
 have hnw:¬(t=w.heap.size):=by omega
 have hnw2:¬(w.heap.size=t):=by omega
 clear hC2 hT2 hK3 hw1 hz1 e0 e1 e2 hz3 hz2
 go_wp2_with fail
 generalize (w2.setCell ⟨t,3,none⟩ (.int .i64 (m+1)))=w3 at HC2 HT2 HE ⊢
 clear c3 f3 hl2 d0 d1 d2 hnw hnw2
 refine (HT.out _ HC2.out).mono ?_
 rintro e w4 ⟨rfl,hb4⟩
 obtain ⟨d0,d1,d2,hz3⟩:=HE.out
 obtain ⟨hc4,hf4⟩:=Zaf hb4
 have d0:=(hc4 _ _ hz3).trans d0
 have d1:=(hc4 _ _ hz3).trans d1
 have d2:=(hc4 _ _ hz3).trans d2
 have hz4:=Nat.lt_of_lt_of_le hz3 hb4.size
 have HC4:=hid (HC2.out.below hb4)
 have HT4:=hid (HT2.out.trans (Touch.quiet hb4))
 have c1:=HC4.out.tb.c1
 have hl4:=HC4.out.tb.tlt
 have hg4:=HC4.out.tb.blt
 have htg:=HC4.out.tb.tg
 have hlg:g<w.heap.size:=HLM.out g (.inr (.inl rfl))
 have hwg:w.heap.size≠g:=by omega
 have i1:(0:Int)<=(x1:Int):=by omega
 have i2:(x1:Int)<(T.B.length:Int):=by omega
 have i3:(0:Int)<=(x2:Int):=by omega
 have i4:(x2:Int)<(T.B.length:Int):=by omega
 have n0:=World.new_ne w4 _ c1
 have n1:=World.new_ne w4 _ d0
 have n2:=World.new_ne w4 _ d1
 have n3:=World.new_ne w4 _ d2
 clear hc4 hf4 hb4 hz3 HE HC2 HT2 HR HT HN hl hnt
 have hP1:∀W,Hid (CT W t g v T (m+1)/\Touch (Blk t g v) w4 W)->W.cell? ⟨w.heap.size,0,none⟩=some (.int .u64 (r.k.h:Int))->W.cell? ⟨w.heap.size,1,none⟩=some (.int .u64 (r.k.l:Int))->W.cell? ⟨w.heap.size,2,none⟩=some (.int .i64 r.k.n) ->
  Calls Tryz.prog 133 #[.pointer (some ⟨g,x1*20,none⟩),.agg #[.int .u64 (r.k.h:Int),.int .u64 (r.k.l:Int),.int .i64 r.k.n],.int .i64 r.v] W fun e w'=>e = .returned (.bool (putC (T.bk x1) r.k r.v).isSome)/\Hid (CT w' t g v (T.set x1 ((putC (T.bk x1) r.k r.v).getD (T.bk x1))) (m+1)/\Touch (Blk t g v) w4 w') /\
   w'.cell? ⟨t,1,none⟩=some (.slice (some ⟨g,0,none⟩) T.B.length T.B.length)/\w'.cell? ⟨w.heap.size,0,none⟩=some (.int .u64 (r.k.h:Int))/\w'.cell? ⟨w.heap.size,1,none⟩=some (.int .u64 (r.k.l:Int))/\w'.cell? ⟨w.heap.size,2,none⟩=some (.int .i64 r.k.n):=by
  intro W hW q0 q1 q2
  refine (Zby g (x1*20) (T.bk x1) r.k r.v W (hW.out.1.tb.bk x1 hx1)).mono ?_
  rintro e w' ⟨rfl,h1,h2⟩
  have hB:=World.block_lt_of_cell? W ⟨w.heap.size,0,none⟩ q0
  have h3:=hW.out.1.turn hx1 h2 h1
  exact ⟨rfl,⟨h3.1,hW.out.2.trans h3.2⟩,(h2.far hW.out.1.tb.tlt htg 1).1.trans hW.out.1.tb.c1,(h2.far hB hwg 0).1.trans q0,(h2.far hB hwg 1).1.trans q1,(h2.far hB hwg 2).1.trans q2⟩
 rw [HX1.out] at hP1
 rw [hp1,<-HX1.out] at hP1
 simp only [Option.isSome_none,Option.getD_none] at hP1
 rw [Zbg T x1 hx1] at hP1
 have HP1:=hid hP1
 clear hP1
 have hP2:∀W,Hid (CT W t g v T (m+1)/\Touch (Blk t g v) w4 W)->W.cell? ⟨w.heap.size,0,none⟩=some (.int .u64 (r.k.h:Int))->W.cell? ⟨w.heap.size,1,none⟩=some (.int .u64 (r.k.l:Int))->W.cell? ⟨w.heap.size,2,none⟩=some (.int .i64 r.k.n) ->
  Calls Tryz.prog 133 #[.pointer (some ⟨g,x2*20,none⟩),.agg #[.int .u64 (r.k.h:Int),.int .u64 (r.k.l:Int),.int .i64 r.k.n],.int .i64 r.v] W fun e w'=>e = .returned (.bool (putC (T.bk x2) r.k r.v).isSome)/\Hid (CT w' t g v (T.set x2 ((putC (T.bk x2) r.k r.v).getD (T.bk x2))) (m+1)/\Touch (Blk t g v) w4 w') /\
   w'.cell? ⟨t,1,none⟩=some (.slice (some ⟨g,0,none⟩) T.B.length T.B.length)/\w'.cell? ⟨w.heap.size,0,none⟩=some (.int .u64 (r.k.h:Int))/\w'.cell? ⟨w.heap.size,1,none⟩=some (.int .u64 (r.k.l:Int))/\w'.cell? ⟨w.heap.size,2,none⟩=some (.int .i64 r.k.n):=by
  intro W hW q0 q1 q2
  refine (Zby g (x2*20) (T.bk x2) r.k r.v W (hW.out.1.tb.bk x2 hx2)).mono ?_
  rintro e w' ⟨rfl,h1,h2⟩
  have hB:=World.block_lt_of_cell? W ⟨w.heap.size,0,none⟩ q0
  have h3:=hW.out.1.turn hx2 h2 h1
  exact ⟨rfl,⟨h3.1,hW.out.2.trans h3.2⟩,(h2.far hW.out.1.tb.tlt htg 1).1.trans hW.out.1.tb.c1,(h2.far hB hwg 0).1.trans q0,(h2.far hB hwg 1).1.trans q1,(h2.far hB hwg 2).1.trans q2⟩
 rw [HX2.out] at hP2
 rw [hp2,<-HX2.out] at hP2
 simp only [Option.isSome_none,Option.getD_none,Option.isSome_some,Option.getD_some] at hP2
 try rw [Zbg T x2 hx2] at hP2
 have HP2:=hid hP2
 clear hP2
 go_wp2_with fail
 have kg:=Zaa
 refine Zbc [8] 18 (by kernel_rfl) (by kernel_rfl) (by kernel_rfl) ?_
 unfold phQ
 simp only [Nat.sub_zero,List.take_succ_cons,List.take_zero,List.getElem?_cons_succ,List.getElem?_cons_zero]
 repeat (any_goals (first|go_big_quiet_step (fail)|quiet_step (fail)))
 refine wpQuiet_nil ?_
 clear kg
 intro w5 hb5 K5 hK5 o ho
 injection ho with ho
 subst ho
 obtain ⟨hc5,hf5⟩:=Zaf hb5
 have HC5:=hid (HC4.out.below hb5)
 have hT5:=Touch.quiet hb5 (S:=Blk t g v)
 have d0:=(hc5 _ _ hz4).trans d0
 have d1:=(hc5 _ _ hz4).trans d1
 have d2:=(hc5 _ _ hz4).trans d2
 have hz5:=Nat.lt_of_lt_of_le hz4 hb5.size
 clear hc5 hf5 hb5
 go_simp
 refine (HP1.out _ ⟨HC5.out,hT5⟩ d0 d1 d2).mono ?_
 rintro e w6 ⟨rfl,hF6,k0,k1,k2,k3⟩
 have hl6:=hF6.out.1.tb.tlt
 have hz6:=Nat.lt_of_lt_of_le hz4 hF6.out.2.size
 clear d0 d1 d2 c1 hT5 HC5
 refine hK5 _ _ ?_
 clear hK5 K5
 have kg:=Zaa
 unfold phQ
 simp only [Nat.reduceSub,Nat.reduceAdd,List.drop_succ_cons,List.drop_zero,List.take_succ_cons,List.take_zero]
 repeat (any_goals (first|go_big_quiet_step (fail)|quiet_step (fail)))
 refine wpQuiet_nil ?_
 clear kg
 intro w7 hb7
 obtain ⟨hc7,hf7⟩:=Zaf hb7
 have HF7:=hid (show Hid (CT w7 t g v T (m+1)/\Touch (Blk t g v) w4 w7) from ⟨hF6.out.1.below hb7,hF6.out.2.trans (Touch.quiet hb7)⟩)
 have k1:=(hc7 _ _ hz6).trans k1
 have k2:=(hc7 _ _ hz6).trans k2
 have k3:=(hc7 _ _ hz6).trans k3
 clear hc7 hf7 hb7 k0
 go_wp2_with fail
 refine (HP2.out _ HF7.out k1 k2 k3).mono ?_
 rintro e w8 ⟨rfl,hF8,k0,k1,k2,k3⟩
 have hz8:=Nat.lt_of_lt_of_le hz4 hF8.out.2.size
 clear HF7 hF6 hz6 hl6 hl4
 go_wp2
 (try simp only [Exit.inBlock,Exit.then])
 refine bodyPost_ret (results_none rfl _ _ _) rfl ?_
 rw [<-HX2.out]
 exact ⟨rfl,Zar.same hF8.out.1 (HT4.out.trans hF8.out.2)⟩
set_option maxRecDepth 100000 in
theorem Zxt (t g:Nat) (v:Value) (T:Tab) (m:Int) (r:Rt) (C:List Pl) (w:World) (H:CT w t g v T m) (h:Num T) (hk:r.k.good) (hs:Sorted T.st) (hf:T.st.length<1048576) (hm0:0<=m) (hm:m<1048576) (hr:Zc9 T r=none) (hp:putC (T.bk (T.x1 r.k)) r.k r.v=some C) :
 Calls Tryz.prog 102 #[.pointer (some ⟨t,0,none⟩),kyV r.k,.int .i64 r.v] w fun e w'=>e = .returned (.tuple #[])/\Zar w w' t g v (T.set (T.x1 r.k) C) (m+1):=by
 have HN:=hid (fun w H=>Zbv t g v T m w H h)
 have HR:=hid (fun w H=>Zc8 t g v T m r w H h hk hs hf)
 rw [hr] at HR
 have HT:=hid (fun w H=>Zca t g v T (m+1) r.k w H h hk)
 have HH:=hid H
 have hl:=H.tb.tlt
 have hlim:=H.tb.blk
 have HLM:=hid hlim
 have hx1:=h.x1_lt r.k
 have hx2:=h.x2_lt r.k
 have hwm:IntKind.i64.wrap (m+1)=m+1:=by rw [IntKind.wrap_i64];omega
 obtain ⟨x1,hX1⟩:∃x,x=T.x1 r.k:=⟨_,rfl⟩
 obtain ⟨x2,hX2⟩:∃x,x=T.x2 r.k:=⟨_,rfl⟩
 rw [<-hX1] at HT hx1
 rw [<-hX2] at HT hx2
 have HX1:=hid hX1
 have HX2:=hid hX2
 clear H hlim hX1 hX2
 unfold kyV at *
 go_enter Tryz.func102,Tryz.ntmps102
 go_wp2_with fail
 refine (HN.out _ (HH.out.below (by go_grown))).mono ?_
 rintro e w1 ⟨rfl,hb1⟩
 have hw1:Below w.heap.size w w1:=Below.trans (by go_grown) (hb1.mono (by go_size))
 have d0:w1.cell? ⟨w.heap.size,0,none⟩=some (.int .u64 (r.k.h:Int)):=by
  rw [hb1.cell (by simp<;>omega)]
  first|assumption|(simp [go_sem];done)|(simp [go_sem, *];done)
 have d1:w1.cell? ⟨w.heap.size,1,none⟩=some (.int .u64 (r.k.l:Int)):=by
  rw [hb1.cell (by simp<;>omega)]
  first|assumption|(simp [go_sem];done)|(simp [go_sem, *];done)
 have d2:w1.cell? ⟨w.heap.size,2,none⟩=some (.int .i64 r.k.n):=by
  rw [hb1.cell (by simp<;>omega)]
  first|assumption|(simp [go_sem];done)|(simp [go_sem, *];done)
 have hz1:w.heap.size<w1.heap.size:=by
  have hs:=hb1.size
  try simp only [World.size_alloc,World.size_setCell] at hs
  omega
 clear hb1
 go_wp2_with fail
 refine (HR.out _ (HH.out.below hw1)).mono ?_
 rintro e w2 ⟨rfl,hC2,hT2⟩
 have d0:=(hT2.upc HLM.out (Nat.le_refl _) hz1 0).trans d0
 have d1:=(hT2.upc HLM.out (Nat.le_refl _) hz1 1).trans d1
 have d2:=(hT2.upc HLM.out (Nat.le_refl _) hz1 2).trans d2
 have hz2:=Nat.lt_of_lt_of_le hz1 hT2.size
 have hC2:CT w2 t g v T m:=hC2
 have c3:=hC2.c3
 have f3:=hC2.tb.f 3
 have hK3:=hC2.count (m+1)
 have HC2:=hid hK3.1
 have HT2:=hid (((Touch.quiet hw1 (S:=Blk t g v)).trans hT2).trans hK3.2)
 have hnt:=HLM.out t (.inl rfl)
 have e0:=(World.cell?_setCell_other w2 ⟨t,3,none⟩ ⟨w.heap.size,0,none⟩ (.int .i64 (m+1)) (by intro e;injection e with e;omega)).trans d0
 have e1:=(World.cell?_setCell_other w2 ⟨t,3,none⟩ ⟨w.heap.size,1,none⟩ (.int .i64 (m+1)) (by intro e;injection e with e;omega)).trans d1
 have e2:=(World.cell?_setCell_other w2 ⟨t,3,none⟩ ⟨w.heap.size,2,none⟩ (.int .i64 (m+1)) (by intro e;injection e with e;omega)).trans d2
 have hz3:w.heap.size<(w2.setCell ⟨t,3,none⟩ (.int .i64 (m+1))).heap.size:=by rw [World.size_setCell];exact hz2
 have hl2:=hC2.tb.tlt
 have HE:=hid (And.intro e0 (And.intro e1 (And.intro e2 hz3)))
 have hnw:¬(t=w.heap.size):=by omega
 have hnw2:¬(w.heap.size=t):=by omega
 clear hC2 hT2 hK3 hw1 hz1 e0 e1 e2 hz3 hz2
 go_wp2_with fail
 generalize (w2.setCell ⟨t,3,none⟩ (.int .i64 (m+1)))=w3 at HC2 HT2 HE ⊢
 clear c3 f3 hl2 d0 d1 d2 hnw hnw2
 refine (HT.out _ HC2.out).mono ?_
 rintro e w4 ⟨rfl,hb4⟩
 obtain ⟨d0,d1,d2,hz3⟩:=HE.out
 obtain ⟨hc4,hf4⟩:=Zaf hb4
 have d0:=(hc4 _ _ hz3).trans d0
 have d1:=(hc4 _ _ hz3).trans d1
 have d2:=(hc4 _ _ hz3).trans d2
 have hz4:=Nat.lt_of_lt_of_le hz3 hb4.size
 have HC4:=hid (HC2.out.below hb4)
 have HT4:=hid (HT2.out.trans (Touch.quiet hb4))
 have c1:=HC4.out.tb.c1
 have hl4:=HC4.out.tb.tlt
 have hg4:=HC4.out.tb.blt
 have htg:=HC4.out.tb.tg
 have hlg:g<w.heap.size:=HLM.out g (.inr (.inl rfl))
 have hwg:w.heap.size≠g:=by omega
 have i1:(0:Int)<=(x1:Int):=by omega
 have i2:(x1:Int)<(T.B.length:Int):=by omega
 have i3:(0:Int)<=(x2:Int):=by omega
 have i4:(x2:Int)<(T.B.length:Int):=by omega
 have n0:=World.new_ne w4 _ c1
 have n1:=World.new_ne w4 _ d0
 have n2:=World.new_ne w4 _ d1
 have n3:=World.new_ne w4 _ d2
 clear hc4 hf4 hb4 hz3 HE HC2 HT2 HR HT HN hl hnt
 have hP1:∀W,Hid (CT W t g v T (m+1)/\Touch (Blk t g v) w4 W)->W.cell? ⟨w.heap.size,0,none⟩=some (.int .u64 (r.k.h:Int))->W.cell? ⟨w.heap.size,1,none⟩=some (.int .u64 (r.k.l:Int))->W.cell? ⟨w.heap.size,2,none⟩=some (.int .i64 r.k.n) ->
  Calls Tryz.prog 133 #[.pointer (some ⟨g,x1*20,none⟩),.agg #[.int .u64 (r.k.h:Int),.int .u64 (r.k.l:Int),.int .i64 r.k.n],.int .i64 r.v] W fun e w'=>e = .returned (.bool (putC (T.bk x1) r.k r.v).isSome)/\Hid (CT w' t g v (T.set x1 ((putC (T.bk x1) r.k r.v).getD (T.bk x1))) (m+1)/\Touch (Blk t g v) w4 w') /\
   w'.cell? ⟨t,1,none⟩=some (.slice (some ⟨g,0,none⟩) T.B.length T.B.length)/\w'.cell? ⟨w.heap.size,0,none⟩=some (.int .u64 (r.k.h:Int))/\w'.cell? ⟨w.heap.size,1,none⟩=some (.int .u64 (r.k.l:Int))/\w'.cell? ⟨w.heap.size,2,none⟩=some (.int .i64 r.k.n):=by
  intro W hW q0 q1 q2
  refine (Zby g (x1*20) (T.bk x1) r.k r.v W (hW.out.1.tb.bk x1 hx1)).mono ?_
  rintro e w' ⟨rfl,h1,h2⟩
  have hB:=World.block_lt_of_cell? W ⟨w.heap.size,0,none⟩ q0
  have h3:=hW.out.1.turn hx1 h2 h1
  exact ⟨rfl,⟨h3.1,hW.out.2.trans h3.2⟩,(h2.far hW.out.1.tb.tlt htg 1).1.trans hW.out.1.tb.c1,(h2.far hB hwg 0).1.trans q0,(h2.far hB hwg 1).1.trans q1,(h2.far hB hwg 2).1.trans q2⟩
 rw [HX1.out] at hP1
 rw [hp,<-HX1.out] at hP1
 simp only [Option.isSome_some,Option.getD_some] at hP1
 have HP1:=hid hP1
 clear hP1
 go_wp2_with fail
 have kg:=Zaa
 refine Zbc [8] 18 (by kernel_rfl) (by kernel_rfl) (by kernel_rfl) ?_
 unfold phQ
 simp only [Nat.sub_zero,List.take_succ_cons,List.take_zero,List.getElem?_cons_succ,List.getElem?_cons_zero]
 repeat (any_goals (first|go_big_quiet_step (fail)|quiet_step (fail)))
 refine wpQuiet_nil ?_
 clear kg
 intro w5 hb5 K5 hK5 o ho
 injection ho with ho
 subst ho
 obtain ⟨hc5,hf5⟩:=Zaf hb5
 have HC5:=hid (HC4.out.below hb5)
 have hT5:=Touch.quiet hb5 (S:=Blk t g v)
 have d0:=(hc5 _ _ hz4).trans d0
 have d1:=(hc5 _ _ hz4).trans d1
 have d2:=(hc5 _ _ hz4).trans d2
 clear hc5 hf5 hb5
 go_simp
 refine (HP1.out _ ⟨HC5.out,hT5⟩ d0 d1 d2).mono ?_
 rintro e w6 ⟨rfl,hF6,k0,k1,k2,k3⟩
 refine hK5 _ _ ?_
 clear hK5 K5
 have kg:=Zaa
 unfold phQ
 simp only [Nat.reduceSub,Nat.reduceAdd,List.drop_succ_cons,List.drop_zero,List.take_succ_cons,List.take_zero]
 repeat (any_goals (first|go_big_quiet_step (fail)|quiet_step (fail)))
 refine wpQuiet_nil ?_
 clear kg
 intro w7 hb7
 obtain ⟨hc7,hf7⟩:=Zaf hb7
 have HF7:=hid (And.intro (hF6.out.1.below hb7) (HT4.out.trans (hF6.out.2.trans (Touch.quiet hb7))))
 clear hc7 hf7 hb7 k0 k1 k2 k3
 go_wp2
 (try simp only [Exit.inBlock,Exit.then])
 refine bodyPost_ret (results_none rfl _ _ _) rfl ?_
 rw [<-HX1.out]
 exact ⟨rfl,Zar.same HF7.out.1 HF7.out.2⟩
end Go.Proofs.YtgfjmgebecmbiaaGreat

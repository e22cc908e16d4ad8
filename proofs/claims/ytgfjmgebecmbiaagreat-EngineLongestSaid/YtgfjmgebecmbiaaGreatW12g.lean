import Derived.Test.YtgfjmgebecmbiaaGreatW12f
set_option linter.unusedSimpArgs false
set_option linter.unusedVariables false
set_option maxHeartbeats 4000000
namespace Go.Proofs.YtgfjmgebecmbiaaGreat
open Lib(hid)
open Go.RowKit Go.Sort M
set_option maxRecDepth 100000 in
theorem Zu2 (t g:Nat) (v:Value) (T T1:Tab) (m:Int) (r:Rt) (w:World) (H:CT w t g v T m) (h:Num T) (hgt:Zhm T) (hk:r.k.good) (hs:Sorted T.st) (hf:T.st.length<1048576) (hm0:0<=m) (hm:m<1048576) (hr:Zc9 T r=none) (hp1:putC (T.bk (T.x1 r.k)) r.k r.v=none)
 (hp2:putC (T.bk (T.x2 r.k)) r.k r.v=none) (hR:Zdo 16 0 T (T.x2 r.k) r=(T1,none)) :
 Calls Tryz.prog 102 #[.pointer (some ⟨t,0,none⟩),kyV r.k,.int .i64 r.v] w fun e w'=>e = .returned (.tuple #[])/\Zar w w' t g v T1 (m+1):=by
 have HK:=hid (fun w H=>Zs9 t g v T (m+1) (T.x2 r.k) r w H h hgt (h.x2_lt r.k) hk)
 rw [hR] at HK
 simp only [Option.isSome_none,Option.getD_none,Option.isSome_some,Option.getD_some] at HK
 unfold rtV at HK
 have HN:=hid (fun w H=>Zbv t g v T m w H h)
 have HR:=hid (fun w H=>Zc8 t g v T m r w H h hk hs hf)
 rw [hr] at HR
 have HT:=hid (fun w H=>Zca t g v T (m+1) r.k w H h hk)
 have HH:=hid H
 have hl:=H.tb.tlt
 have hlim:=H.tb.blk
 have HLM:=hid hlim
 have hx1:=h.x1_lt r.k
 have hx2:=h.x2_lt r.k
 have hwm:IntKind.i64.wrap (m+1)=m+1:=by rw [IntKind.wrap_i64];omega
 obtain ⟨x1,hX1⟩:∃x,x=T.x1 r.k:=⟨_,rfl⟩
 obtain ⟨x2,hX2⟩:∃x,x=T.x2 r.k:=⟨_,rfl⟩
 rw [<-hX1] at HT hx1
 rw [<-hX2] at HT hx2
 have HX1:=hid hX1
 have HX2:=hid hX2
 clear H hlim hX1 hX2
 unfold kyV at *
 go_enter Tryz.func102,Tryz.ntmps102
 go_wp2_with fail
 refine (HN.out _ (HH.out.below (by go_grown))).mono ?_
 rintro e w1 ⟨rfl,hb1⟩
 have hw1:Below w.heap.size w w1:=Below.trans (by go_grown) (hb1.mono (by go_size))
 have d0:w1.cell? ⟨w.heap.size,0,none⟩=some (.int .u64 (r.k.h:Int)):=by
  rw [hb1.cell (by simp<;>omega)]
  first|assumption|(simp [go_sem];done)|(simp [go_sem, *];done)
 have d1:w1.cell? ⟨w.heap.size,1,none⟩=some (.int .u64 (r.k.l:Int)):=by
  rw [hb1.cell (by simp<;>omega)]
  first|assumption|(simp [go_sem];done)|(simp [go_sem, *];done)
 have d2:w1.cell? ⟨w.heap.size,2,none⟩=some (.int .i64 r.k.n):=by
  rw [hb1.cell (by simp<;>omega)]
  first|assumption|(simp [go_sem];done)|(simp [go_sem, *];done)
 have hz1:w.heap.size<w1.heap.size:=by
  have hs:=hb1.size
  try simp only [World.size_alloc,World.size_setCell] at hs
  omega
 clear hb1
 go_wp2_with fail
 refine (HR.out _ (HH.out.below hw1)).mono ?_
 rintro e w2 ⟨rfl,hC2,hT2⟩
 have d0:=(hT2.upc HLM.out (Nat.le_refl _) hz1 0).trans d0
 have d1:=(hT2.upc HLM.out (Nat.le_refl _) hz1 1).trans d1
 have d2:=(hT2.upc HLM.out (Nat.le_refl _) hz1 2).trans d2
 have hz2:=Nat.lt_of_lt_of_le hz1 hT2.size
 have hC2:CT w2 t g v T m:=hC2
 have c3:=hC2.c3
 have f3:=hC2.tb.f 3
 have hK3:=hC2.count (m+1)
 have HC2:=hid hK3.1
 have HT2:=hid (((Touch.quiet hw1 (S:=Blk t g v)).trans hT2).trans hK3.2)
 have hnt:=HLM.out t (.inl rfl)
 have e0:=(World.cell?_setCell_other w2 ⟨t,3,none⟩ ⟨w.heap.size,0,none⟩ (.int .i64 (m+1)) (by intro e;injection e with e;omega)).trans d0
 have e1:=(World.cell?_setCell_other w2 ⟨t,3,none⟩ ⟨w.heap.size,1,none⟩ (.int .i64 (m+1)) (by intro e;injection e with e;omega)).trans d1
 have e2:=(World.cell?_setCell_other w2 ⟨t,3,none⟩ ⟨w.heap.size,2,none⟩ (.int .i64 (m+1)) (by intro e;injection e with e;omega)).trans d2
 have hz3:w.heap.size<(w2.setCell ⟨t,3,none⟩ (.int .i64 (m+1))).heap.size:=by rw [World.size_setCell];exact hz2
 have hl2:=hC2.tb.tlt
 have HE:=hid (And.intro e0 (And.intro e1 (And.intro e2 hz3)))
 have hnw:¬(t=w.heap.size):=by omega
 have hnw2:¬(w.heap.size=t):=by omega
 clear hC2 hT2 hK3 hw1 hz1 e0 e1 e2 hz3 hz2
 go_wp2_with fail
 generalize (w2.setCell ⟨t,3,none⟩ (.int .i64 (m+1)))=w3 at HC2 HT2 HE ⊢
 clear c3 f3 hl2 d0 d1 d2 hnw hnw2
 refine (HT.out _ HC2.out).mono ?_
 rintro e w4 ⟨rfl,hb4⟩
 obtain ⟨d0,d1,d2,hz3⟩:=HE.out
 obtain ⟨hc4,hf4⟩:=Zaf hb4
 have d0:=(hc4 _ _ hz3).trans d0
 have d1:=(hc4 _ _ hz3).trans d1
 have d2:=(hc4 _ _ hz3).trans d2
 have hz4:=Nat.lt_of_lt_of_le hz3 hb4.size
 have HC4:=hid (HC2.out.below hb4)
 have HT4:=hid (HT2.out.trans (Touch.quiet hb4))
 have c1:=HC4.out.tb.c1
 have hl4:=HC4.out.tb.tlt
 have hg4:=HC4.out.tb.blt
 have htg:=HC4.out.tb.tg
 have hlg:g<w.heap.size:=HLM.out g (.inr (.inl rfl))
 have hwg:w.heap.size≠g:=by omega
 have i1:(0:Int)<=(x1:Int):=by omega
 have i2:(x1:Int)<(T.B.length:Int):=by omega
 have i3:(0:Int)<=(x2:Int):=by omega
 have i4:(x2:Int)<(T.B.length:Int):=by omega
 have n0:=World.new_ne w4 _ c1
 have n1:=World.new_ne w4 _ d0
 have n2:=World.new_ne w4 _ d1
 have n3:=World.new_ne w4 _ d2
 clear hc4 hf4 hb4 hz3 HE HC2 HT2 HR HT HN hl hnt
 rw [<-HX2.out] at HK
 have hP1:∀W,Hid (CT W t g v T (m+1)/\Touch (Blk t g v) w4 W)->W.cell? ⟨w.heap.size,0,none⟩=some (.int .u64 (r.k.h:Int))->W.cell? ⟨w.heap.size,1,none⟩=some (.int .u64 (r.k.l:Int))->W.cell? ⟨w.heap.size,2,none⟩=some (.int .i64 r.k.n) ->
  Calls Tryz.prog 133 #[.pointer (some ⟨g,x1*20,none⟩),.agg #[.int .u64 (r.k.h:Int),.int .u64 (r.k.l:Int),.int .i64 r.k.n],.int .i64 r.v] W fun e w'=>e = .returned (.bool (putC (T.bk x1) r.k r.v).isSome)/\Hid (CT w' t g v (T.set x1 ((putC (T.bk x1) r.k r.v).getD (T.bk x1))) (m+1)/\Touch (Blk t g v) w4 w') /\
   w'.cell? ⟨t,1,none⟩=some (.slice (some ⟨g,0,none⟩) T.B.length T.B.length)/\w'.cell? ⟨w.heap.size,0,none⟩=some (.int .u64 (r.k.h:Int))/\w'.cell? ⟨w.heap.size,1,none⟩=some (.int .u64 (r.k.l:Int))/\w'.cell? ⟨w.heap.size,2,none⟩=some (.int .i64 r.k.n):=by
  intro W hW q0 q1 q2
  refine (Zby g (x1*20) (T.bk x1) r.k r.v W (hW.out.1.tb.bk x1 hx1)).mono ?_
  rintro e w' ⟨rfl,h1,h2⟩
  have hB:=World.block_lt_of_cell? W ⟨w.heap.size,0,none⟩ q0
  have h3:=hW.out.1.turn hx1 h2 h1
  exact ⟨rfl,⟨h3.1,hW.out.2.trans h3.2⟩,(h2.far hW.out.1.tb.tlt htg 1).1.trans hW.out.1.tb.c1,(h2.far hB hwg 0).1.trans q0,(h2.far hB hwg 1).1.trans q1,(h2.far hB hwg 2).1.trans q2⟩
 rw [HX1.out] at hP1
 rw [hp1,<-HX1.out] at hP1
 simp only [Option.isSome_none,Option.getD_none] at hP1
 rw [Zbg T x1 hx1] at hP1
 have HP1:=hid hP1
 clear hP1
 have hP2:∀W,Hid (CT W t g v T (m+1)/\Touch (Blk t g v) w4 W)->W.cell? ⟨w.heap.size,0,none⟩=some (.int .u64 (r.k.h:Int))->W.cell? ⟨w.heap.size,1,none⟩=some (.int .u64 (r.k.l:Int))->W.cell? ⟨w.heap.size,2,none⟩=some (.int .i64 r.k.n) ->
  Calls Tryz.prog 133 #[.pointer (some ⟨g,x2*20,none⟩),.agg #[.int .u64 (r.k.h:Int),.int .u64 (r.k.l:Int),.int .i64 r.k.n],.int .i64 r.v] W fun e w'=>e = .returned (.bool (putC (T.bk x2) r.k r.v).isSome)/\Hid (CT w' t g v (T.set x2 ((putC (T.bk x2) r.k r.v).getD (T.bk x2))) (m+1)/\Touch (Blk t g v) w4 w') /\
   w'.cell? ⟨t,1,none⟩=some (.slice (some ⟨g,0,none⟩) T.B.length T.B.length)/\w'.cell? ⟨w.heap.size,0,none⟩=some (.int .u64 (r.k.h:Int))/\w'.cell? ⟨w.heap.size,1,none⟩=some (.int .u64 (r.k.l:Int))/\w'.cell? ⟨w.heap.size,2,none⟩=some (.int .i64 r.k.n):=by
  intro W hW q0 q1 q2
  refine (Zby g (x2*20) (T.bk x2) r.k r.v W (hW.out.1.tb.bk x2 hx2)).mono ?_
  rintro e w' ⟨rfl,h1,h2⟩
  have hB:=World.block_lt_of_cell? W ⟨w.heap.size,0,none⟩ q0
  have h3:=hW.out.1.turn hx2 h2 h1
  exact ⟨rfl,⟨h3.1,hW.out.2.trans h3.2⟩,(h2.far hW.out.1.tb.tlt htg 1).1.trans hW.out.1.tb.c1,(h2.far hB hwg 0).1.trans q0,(h2.far hB hwg 1).1.trans q1,(h2.far hB hwg 2).1.trans q2⟩
 rw [HX2.out] at hP2
 rw [hp2,<-HX2.out] at hP2
 simp only [Option.isSome_none,Option.getD_none,Option.isSome_some,Option.getD_some] at hP2
 try rw [Zbg T x2 hx2] at hP2
 have HP2:=hid hP2
 clear hP2
 go_wp2_with fail
 have kg:=Zaa
 refine Zbc [8] 18 (by kernel_rfl) (by kernel_rfl) (by kernel_rfl) ?_
 unfold phQ
 simp only [Nat.sub_zero,List.take_succ_cons,List.take_zero,List.getElem?_cons_succ,List.getElem?_cons_zero]
 repeat (any_goals (first|go_big_quiet_step (fail)|quiet_step (fail)))
 refine wpQuiet_nil ?_
 clear kg
 intro w5 hb5 K5 hK5 o ho
 injection ho with ho
 subst ho
 obtain ⟨hc5,hf5⟩:=Zaf hb5
 have HC5:=hid (HC4.out.below hb5)
 have hT5:=Touch.quiet hb5 (S:=Blk t g v)
 have d0:=(hc5 _ _ hz4).trans d0
 have d1:=(hc5 _ _ hz4).trans d1
 have d2:=(hc5 _ _ hz4).trans d2
 have hz5:=Nat.lt_of_lt_of_le hz4 hb5.size
 clear hc5 hf5 hb5
 go_simp
 refine (HP1.out _ ⟨HC5.out,hT5⟩ d0 d1 d2).mono ?_
 rintro e w6 ⟨rfl,hF6,k0,k1,k2,k3⟩
 have hl6:=hF6.out.1.tb.tlt
 have hz6:=Nat.lt_of_lt_of_le hz4 hF6.out.2.size
 clear d0 d1 d2 c1 hT5 HC5
 refine hK5 _ _ ?_
 clear hK5 K5
 have kg:=Zaa
 unfold phQ
 simp only [Nat.reduceSub,Nat.reduceAdd,List.drop_succ_cons,List.drop_zero,List.take_succ_cons,List.take_zero]
 repeat (any_goals (first|go_big_quiet_step (fail)|quiet_step (fail)))
 refine wpQuiet_nil ?_
 clear kg
 intro w7 hb7
 obtain ⟨hc7,hf7⟩:=Zaf hb7
 have HF7:=hid (show Hid (CT w7 t g v T (m+1)/\Touch (Blk t g v) w4 w7) from ⟨hF6.out.1.below hb7,hF6.out.2.trans (Touch.quiet hb7)⟩)
 have k1:=(hc7 _ _ hz6).trans k1
 have k2:=(hc7 _ _ hz6).trans k2
 have k3:=(hc7 _ _ hz6).trans k3
 clear hc7 hf7 hb7 k0
 go_wp2_with fail
 refine (HP2.out _ HF7.out k1 k2 k3).mono ?_
 rintro e w8 ⟨rfl,hF8,k0,k1,k2,k3⟩
 have hz8:=Nat.lt_of_lt_of_le hz4 hF8.out.2.size
 clear HF7 hF6 hz6 hl6 hl4
 have HC8:=hid (And.intro hF8.out.1 (HT4.out.trans hF8.out.2))
 have HK8:=hid (HK.out w8 hF8.out.1)
 clear hF8 k0 HP1 HP2 HC4
 go_wp2_with fail
 refine HK8.out.mono ?_
 rintro e w9 ⟨rfl,hC9,hT9⟩
 have HF:=hid (And.intro hC9 (HC8.out.2.trans hT9))
 clear hC9 hT9
 go_wp2
 (try simp only [Exit.inBlock,Exit.then])
 refine bodyPost_ret (results_none rfl _ _ _) rfl ?_
 exact ⟨rfl,Zar.same (HF.out.1.below (by go_grown)) (HF.out.2.trans (Touch.quiet (by go_grown)))⟩
set_option maxRecDepth 100000 in
theorem Z1x (t g:Nat) (v:Value) (T T1 T2 TG:Tab) (m mG:Int) (r q:Rt) (w:World) (H:CT w t g v T m) (h:Num T) (hgt:Zhm T) (hk:r.k.good) (hs:Sorted T.st) (hf:T.st.length<1048576) (hm0:0<=m) (hm:m<1048576) (hr:Zc9 T r=none) (hp1:putC (T.bk (T.x1 r.k)) r.k r.v=none)
 (hp2:putC (T.bk (T.x2 r.k)) r.k r.v=none) (hR:Zdo 16 0 T (T.x2 r.k) r=(T1,some q)) (hs1:Sorted T1.st) (hf1:T1.st.length<1048575) (hq:Zaw T1.st q.k=none) (hT2:T2={ T1 with st:=Zao T1.st q }) (hhi:T1.B.length<=65536)
 (HG:∀g1 v1 w1,CT w1 t g1 v1 T2 (m+1)->8<T2.st.length->T2.B.length<65536->Calls Tryz.prog 135 #[.pointer (some ⟨t,0,none⟩)] w1 fun e w'=>e = .returned (.tuple #[])/\Zar w1 w' t g1 v1 TG mG) :
 Calls Tryz.prog 102 #[.pointer (some ⟨t,0,none⟩),kyV r.k,.int .i64 r.v] w fun e w'=>e = .returned (.tuple #[])/\(8<T2.st.length/\T2.B.length<65536->Zar w w' t g v TG mG)/\(¬(8<T2.st.length/\T2.B.length<65536)->Zar w w' t g v T2 (m+1)):=by
 have HGG:=hid HG
 have HT2e:=hid hT2
 clear HG hT2
 have HK:=hid (fun w H=>Zs9 t g v T (m+1) (T.x2 r.k) r w H h hgt (h.x2_lt r.k) hk)
 rw [hR] at HK
 simp only [Option.isSome_none,Option.getD_none,Option.isSome_some,Option.getD_some] at HK
 unfold rtV at HK
 have HN:=hid (fun w H=>Zbv t g v T m w H h)
 have HR:=hid (fun w H=>Zc8 t g v T m r w H h hk hs hf)
 rw [hr] at HR
 have HT:=hid (fun w H=>Zca t g v T (m+1) r.k w H h hk)
 have HH:=hid H
 have hl:=H.tb.tlt
 have hlim:=H.tb.blk
 have HLM:=hid hlim
 have hx1:=h.x1_lt r.k
 have hx2:=h.x2_lt r.k
 have hwm:IntKind.i64.wrap (m+1)=m+1:=by rw [IntKind.wrap_i64];omega
 obtain ⟨x1,hX1⟩:∃x,x=T.x1 r.k:=⟨_,rfl⟩
 obtain ⟨x2,hX2⟩:∃x,x=T.x2 r.k:=⟨_,rfl⟩
 rw [<-hX1] at HT hx1
 rw [<-hX2] at HT hx2
 have HX1:=hid hX1
 have HX2:=hid hX2
 clear H hlim hX1 hX2
 unfold kyV at *
 go_enter Tryz.func102,Tryz.ntmps102
 go_wp2_with fail
 refine (HN.out _ (HH.out.below (by go_grown))).mono ?_
 rintro e w1 ⟨rfl,hb1⟩
 have hw1:Below w.heap.size w w1:=Below.trans (by go_grown) (hb1.mono (by go_size))
 have d0:w1.cell? ⟨w.heap.size,0,none⟩=some (.int .u64 (r.k.h:Int)):=by
  rw [hb1.cell (by simp<;>omega)]
  first|assumption|(simp [go_sem];done)|(simp [go_sem, *];done)
 have d1:w1.cell? ⟨w.heap.size,1,none⟩=some (.int .u64 (r.k.l:Int)):=by
  rw [hb1.cell (by simp<;>omega)]
  first|assumption|(simp [go_sem];done)|(simp [go_sem, *];done)
 have d2:w1.cell? ⟨w.heap.size,2,none⟩=some (.int .i64 r.k.n):=by
  rw [hb1.cell (by simp<;>omega)]
  first|assumption|(simp [go_sem];done)|(simp [go_sem, *];done)
 have hz1:w.heap.size<w1.heap.size:=by
  have hs:=hb1.size
  try simp only [World.size_alloc,World.size_setCell] at hs
  omega
 clear hb1
 go_wp2_with fail
 refine (HR.out _ (HH.out.below hw1)).mono ?_
 rintro e w2 ⟨rfl,hC2,hT2⟩
 have d0:=(hT2.upc HLM.out (Nat.le_refl _) hz1 0).trans d0
 have d1:=(hT2.upc HLM.out (Nat.le_refl _) hz1 1).trans d1
 have d2:=(hT2.upc HLM.out (Nat.le_refl _) hz1 2).trans d2
 have hz2:=Nat.lt_of_lt_of_le hz1 hT2.size
 have hC2:CT w2 t g v T m:=hC2
 have c3:=hC2.c3
 have f3:=hC2.tb.f 3
 have hK3:=hC2.count (m+1)
 have HC2:=hid hK3.1
 have HT2:=hid (((Touch.quiet hw1 (S:=Blk t g v)).trans hT2).trans hK3.2)
 have hnt:=HLM.out t (.inl rfl)
 have e0:=(World.cell?_setCell_other w2 ⟨t,3,none⟩ ⟨w.heap.size,0,none⟩ (.int .i64 (m+1)) (by intro e;injection e with e;omega)).trans d0
 have e1:=(World.cell?_setCell_other w2 ⟨t,3,none⟩ ⟨w.heap.size,1,none⟩ (.int .i64 (m+1)) (by intro e;injection e with e;omega)).trans d1
 have e2:=(World.cell?_setCell_other w2 ⟨t,3,none⟩ ⟨w.heap.size,2,none⟩ (.int .i64 (m+1)) (by intro e;injection e with e;omega)).trans d2
 have hz3:w.heap.size<(w2.setCell ⟨t,3,none⟩ (.int .i64 (m+1))).heap.size:=by rw [World.size_setCell];exact hz2
 have hl2:=hC2.tb.tlt
 have HE:=hid (And.intro e0 (And.intro e1 (And.intro e2 hz3)))
 have hnw:¬(t=w.heap.size):=by omega
 have hnw2:¬(w.heap.size=t):=by omega
 clear hC2 hT2 hK3 hw1 hz1 e0 e1 e2 hz3 hz2
 go_wp2_with fail
 generalize (w2.setCell ⟨t,3,none⟩ (.int .i64 (m+1)))=w3 at HC2 HT2 HE ⊢
 clear c3 f3 hl2 d0 d1 d2 hnw hnw2
 refine (HT.out _ HC2.out).mono ?_
 rintro e w4 ⟨rfl,hb4⟩
 obtain ⟨d0,d1,d2,hz3⟩:=HE.out
 obtain ⟨hc4,hf4⟩:=Zaf hb4
 have d0:=(hc4 _ _ hz3).trans d0
 have d1:=(hc4 _ _ hz3).trans d1
 have d2:=(hc4 _ _ hz3).trans d2
 have hz4:=Nat.lt_of_lt_of_le hz3 hb4.size
 have HC4:=hid (HC2.out.below hb4)
 have HT4:=hid (HT2.out.trans (Touch.quiet hb4))
 have c1:=HC4.out.tb.c1
 have hl4:=HC4.out.tb.tlt
 have hg4:=HC4.out.tb.blt
 have htg:=HC4.out.tb.tg
 have hlg:g<w.heap.size:=HLM.out g (.inr (.inl rfl))
 have hwg:w.heap.size≠g:=by omega
 have i1:(0:Int)<=(x1:Int):=by omega
 have i2:(x1:Int)<(T.B.length:Int):=by omega
 have i3:(0:Int)<=(x2:Int):=by omega
 have i4:(x2:Int)<(T.B.length:Int):=by omega
 have n0:=World.new_ne w4 _ c1
 have n1:=World.new_ne w4 _ d0
 have n2:=World.new_ne w4 _ d1
 have n3:=World.new_ne w4 _ d2
 clear hc4 hf4 hb4 hz3 HE HC2 HT2 HR HT HN hl hnt
 rw [<-HX2.out] at HK
 have hP1:∀W,Hid (CT W t g v T (m+1)/\Touch (Blk t g v) w4 W)->W.cell? ⟨w.heap.size,0,none⟩=some (.int .u64 (r.k.h:Int))->W.cell? ⟨w.heap.size,1,none⟩=some (.int .u64 (r.k.l:Int))->W.cell? ⟨w.heap.size,2,none⟩=some (.int .i64 r.k.n) ->
  Calls Tryz.prog 133 #[.pointer (some ⟨g,x1*20,none⟩),.agg #[.int .u64 (r.k.h:Int),.int .u64 (r.k.l:Int),.int .i64 r.k.n],.int .i64 r.v] W fun e w'=>e = .returned (.bool (putC (T.bk x1) r.k r.v).isSome)/\Hid (CT w' t g v (T.set x1 ((putC (T.bk x1) r.k r.v).getD (T.bk x1))) (m+1)/\Touch (Blk t g v) w4 w') /\
   w'.cell? ⟨t,1,none⟩=some (.slice (some ⟨g,0,none⟩) T.B.length T.B.length)/\w'.cell? ⟨w.heap.size,0,none⟩=some (.int .u64 (r.k.h:Int))/\w'.cell? ⟨w.heap.size,1,none⟩=some (.int .u64 (r.k.l:Int))/\w'.cell? ⟨w.heap.size,2,none⟩=some (.int .i64 r.k.n):=by
  intro W hW q0 q1 q2
  refine (Zby g (x1*20) (T.bk x1) r.k r.v W (hW.out.1.tb.bk x1 hx1)).mono ?_
  rintro e w' ⟨rfl,h1,h2⟩
  have hB:=World.block_lt_of_cell? W ⟨w.heap.size,0,none⟩ q0
  have h3:=hW.out.1.turn hx1 h2 h1
  exact ⟨rfl,⟨h3.1,hW.out.2.trans h3.2⟩,(h2.far hW.out.1.tb.tlt htg 1).1.trans hW.out.1.tb.c1,(h2.far hB hwg 0).1.trans q0,(h2.far hB hwg 1).1.trans q1,(h2.far hB hwg 2).1.trans q2⟩
 rw [HX1.out] at hP1
 rw [hp1,<-HX1.out] at hP1
 simp only [Option.isSome_none,Option.getD_none] at hP1
 rw [Zbg T x1 hx1] at hP1
 have HP1:=hid hP1
 clear hP1
 have hP2:∀W,Hid (CT W t g v T (m+1)/\Touch (Blk t g v) w4 W)->W.cell? ⟨w.heap.size,0,none⟩=some (.int .u64 (r.k.h:Int))->W.cell? ⟨w.heap.size,1,none⟩=some (.int .u64 (r.k.l:Int))->W.cell? ⟨w.heap.size,2,none⟩=some (.int .i64 r.k.n) ->
  Calls Tryz.prog 133 #[.pointer (some ⟨g,x2*20,none⟩),.agg #[.int .u64 (r.k.h:Int),.int .u64 (r.k.l:Int),.int .i64 r.k.n],.int .i64 r.v] W fun e w'=>e = .returned (.bool (putC (T.bk x2) r.k r.v).isSome)/\Hid (CT w' t g v (T.set x2 ((putC (T.bk x2) r.k r.v).getD (T.bk x2))) (m+1)/\Touch (Blk t g v) w4 w') /\
   w'.cell? ⟨t,1,none⟩=some (.slice (some ⟨g,0,none⟩) T.B.length T.B.length)/\w'.cell? ⟨w.heap.size,0,none⟩=some (.int .u64 (r.k.h:Int))/\w'.cell? ⟨w.heap.size,1,none⟩=some (.int .u64 (r.k.l:Int))/\w'.cell? ⟨w.heap.size,2,none⟩=some (.int .i64 r.k.n):=by
  intro W hW q0 q1 q2
  refine (Zby g (x2*20) (T.bk x2) r.k r.v W (hW.out.1.tb.bk x2 hx2)).mono ?_
  rintro e w' ⟨rfl,h1,h2⟩
  have hB:=World.block_lt_of_cell? W ⟨w.heap.size,0,none⟩ q0
  have h3:=hW.out.1.turn hx2 h2 h1
  exact ⟨rfl,⟨h3.1,hW.out.2.trans h3.2⟩,(h2.far hW.out.1.tb.tlt htg 1).1.trans hW.out.1.tb.c1,(h2.far hB hwg 0).1.trans q0,(h2.far hB hwg 1).1.trans q1,(h2.far hB hwg 2).1.trans q2⟩
 rw [HX2.out] at hP2
 rw [hp2,<-HX2.out] at hP2
 simp only [Option.isSome_none,Option.getD_none,Option.isSome_some,Option.getD_some] at hP2
 try rw [Zbg T x2 hx2] at hP2
 have HP2:=hid hP2
 clear hP2
 go_wp2_with fail
 have kg:=Zaa
 refine Zbc [8] 18 (by kernel_rfl) (by kernel_rfl) (by kernel_rfl) ?_
 unfold phQ
 simp only [Nat.sub_zero,List.take_succ_cons,List.take_zero,List.getElem?_cons_succ,List.getElem?_cons_zero]
 repeat (any_goals (first|go_big_quiet_step (fail)|quiet_step (fail)))
 refine wpQuiet_nil ?_
 clear kg
 intro w5 hb5 K5 hK5 o ho
 injection ho with ho
 subst ho
 obtain ⟨hc5,hf5⟩:=Zaf hb5
 have HC5:=hid (HC4.out.below hb5)
 have hT5:=Touch.quiet hb5 (S:=Blk t g v)
 have d0:=(hc5 _ _ hz4).trans d0
 have d1:=(hc5 _ _ hz4).trans d1
 have d2:=(hc5 _ _ hz4).trans d2
 have hz5:=Nat.lt_of_lt_of_le hz4 hb5.size
 clear hc5 hf5 hb5
 go_simp
 refine (HP1.out _ ⟨HC5.out,hT5⟩ d0 d1 d2).mono ?_
 rintro e w6 ⟨rfl,hF6,k0,k1,k2,k3⟩
 have hl6:=hF6.out.1.tb.tlt
 have hz6:=Nat.lt_of_lt_of_le hz4 hF6.out.2.size
 clear d0 d1 d2 c1 hT5 HC5
 refine hK5 _ _ ?_
 clear hK5 K5
 have kg:=Zaa
 unfold phQ
 simp only [Nat.reduceSub,Nat.reduceAdd,List.drop_succ_cons,List.drop_zero,List.take_succ_cons,List.take_zero]
 repeat (any_goals (first|go_big_quiet_step (fail)|quiet_step (fail)))
 refine wpQuiet_nil ?_
 clear kg
 intro w7 hb7
 obtain ⟨hc7,hf7⟩:=Zaf hb7
 have HF7:=hid (show Hid (CT w7 t g v T (m+1)/\Touch (Blk t g v) w4 w7) from ⟨hF6.out.1.below hb7,hF6.out.2.trans (Touch.quiet hb7)⟩)
 have k1:=(hc7 _ _ hz6).trans k1
 have k2:=(hc7 _ _ hz6).trans k2
 have k3:=(hc7 _ _ hz6).trans k3
 clear hc7 hf7 hb7 k0
 go_wp2_with fail
 refine (HP2.out _ HF7.out k1 k2 k3).mono ?_
 rintro e w8 ⟨rfl,hF8,k0,k1,k2,k3⟩
 have hz8:=Nat.lt_of_lt_of_le hz4 hF8.out.2.size
 clear HF7 hF6 hz6 hl6 hl4
 have HC8:=hid (And.intro hF8.out.1 (HT4.out.trans hF8.out.2))
 have HK8:=hid (HK.out w8 hF8.out.1)
 clear hF8 k0 HP1 HP2 HC4
 go_wp2_with fail
 refine HK8.out.mono ?_
 rintro e w9 ⟨rfl,hC9,hT9⟩
 have HC9:=hid hC9
 have HT9:=hid (HC8.out.2.trans hT9)
 clear hC9 hT9
 go_wp2_with fail
 generalize hw10:w9.alloc _=w10
 have hb10:Below w9.heap.size w9 w10:=by rw [<-hw10];go_grown
 have hP8:w9.heap.size<w10.heap.size:=by rw [<-hw10];simp
 have b0:w10.cell? ⟨w9.heap.size,0,none⟩=some (.int .u64 (q.k.h:Int)):=by rw [<-hw10];simp [go_sem]
 have b1:w10.cell? ⟨w9.heap.size,1,none⟩=some (.int .u64 (q.k.l:Int)):=by rw [<-hw10];simp [go_sem]
 have b2:w10.cell? ⟨w9.heap.size,2,none⟩=some (.int .i64 q.k.n):=by rw [<-hw10];simp [go_sem]
 have b3:w10.cell? ⟨w9.heap.size,3,none⟩=some (.int .i64 q.v):=by rw [<-hw10];simp [go_sem]
 have HC10:=hid (HC9.out.below hb10)
 have HT10:=hid (HT9.out.trans (Touch.quiet hb10))
 obtain ⟨P8,hP8e⟩:∃x,x=w9.heap.size:=⟨_,rfl⟩
 rw [<-hP8e] at hP8 b0 b1 b2 b3 ⊢
 have c2:=HC10.out.tb.c2
 have hlt:=HC10.out.tb.tlt
 have hown:=HC10.out.tb.own
 have hblk:=HC10.out.tb.blk
 have htP:t≠P8:=by rw [hP8e];have:=HC9.out.tb.tlt;omega
 have hvP:v.ownBlock≠some P8:=by intro e;have:=(HC9.out.tb.own.lt P8 e).2;omega
 have HB:=hid (fun W H=>Zlu t g v T1 (m+1) q.k W H hs1 (by omega))
 have hbl:=Zpw T1.st q.k
 have hinto:=Zgf T1.st q hq
 obtain ⟨bb,hbb⟩:∃x,x=bh T1.st q.k:=⟨_,rfl⟩
 rw [<-hbb] at HB hbl hinto
 have hPB:∀W,Below w10.heap.size w10 W->Calls Tryz.prog 119 #[.pointer (some ⟨t,0,none⟩),kyV q.k] W fun e w'=>e = .returned (.int .i64 (bb:Int))/\Hid (Below w10.heap.size w10 w')/\Hid (Below W.heap.size W w')/\w'.cell? ⟨t,2,none⟩=some v /\
  w'.cell? ⟨P8,0,none⟩=some (.int .u64 (q.k.h:Int))/\w'.cell? ⟨P8,1,none⟩=some (.int .u64 (q.k.l:Int))/\w'.cell? ⟨P8,2,none⟩=some (.int .i64 q.k.n)/\w'.cell? ⟨P8,3,none⟩=some (.int .i64 q.v):=by
  intro W hW
  refine (HB.out W (HC10.out.below hW)).mono ?_
  rintro e w' ⟨rfl,h1⟩
  have h2:=hW.trans (h1.mono hW.size)
  exact ⟨rfl,h2,h1,(h2.cell (p:=⟨t,2,none⟩) hlt).trans c2,(h2.cell (p:=⟨P8,0,none⟩) hP8).trans b0,(h2.cell (p:=⟨P8,1,none⟩) hP8).trans b1,(h2.cell (p:=⟨P8,2,none⟩) hP8).trans b2,(h2.cell (p:=⟨P8,3,none⟩) hP8).trans b3⟩
 obtain ⟨nn,hnn⟩:∃x,x=T2.st.length:=⟨_,rfl⟩
 have hPI:∀W vb,Below w10.heap.size w10 W->w10.heap.size<=vb->W.heap[vb]? = some (.cells (Zac q).toArray 41 (0,0))->Calls Tryz.prog 34 #[v,.int .i64 (bb:Int),.slice (some ⟨vb,0,none⟩) 1 1] W fun e w'=>∃p' c',e = .returned (.slice p' nn c') /\
  Hid (CT (w'.setCell ⟨t,2,none⟩ (.slice p' nn c')) t g (.slice p' nn c') T2 (m+1)/\Touch (Blk t g v) w10 (w'.setCell ⟨t,2,none⟩ (.slice p' nn c'))/\∀k,Blk t g (.slice p' nn c') k->k<w10.heap.size->Blk t g v k)/\w'.cell? ⟨t,2,none⟩=some v/\w'.frozen? ⟨t,2,none⟩=false /\
  w'.cell? ⟨P8,0,none⟩=some (.int .u64 (q.k.h:Int))/\w'.cell? ⟨P8,1,none⟩=some (.int .u64 (q.k.l:Int))/\w'.cell? ⟨P8,2,none⟩=some (.int .i64 q.k.n)/\w'.cell? ⟨P8,3,none⟩=some (.int .i64 q.v):=by
  intro W vb hW hvl hvb
  have hCW:=HC10.out.below hW
  refine (Zlj v T1.st bb q vb W hCW.tb.own hbl (by omega) hvb (by intro e;have:=(hown.lt vb e).2;omega)).mono ?_
  rintro e w' ⟨v',rfl,h1,h2,h3⟩
  rw [<-hinto] at h1
  obtain ⟨p',c',rfl⟩:=Zag h1
  have hN:=hCW.newStash h2 h1 h3
  have hnn':(Zao T1.st q).length=nn:=by rw [hnn,HT2e.out]
  rw [hnn'] at hN h3 ⊢
  have h5:w'.heap[t]? = W.heap[t]? := h2.block t hCW.tb.tlt (fun e=>hCW.tb.tv e.symm)
  have h6:w'.heap[P8]? = W.heap[P8]? := h2.block P8 (Nat.lt_of_lt_of_le hP8 hW.size) (fun e=>hvP e.symm)
  have h7:∀j,w'.cell? ⟨P8,j,none⟩=w10.cell? ⟨P8,j,none⟩:=fun j=>(World.cell?_of_block (a:=⟨P8,j,none⟩) h6).trans (hW.cell (p:=⟨P8,j,none⟩) hP8)
  refine ⟨p',c',rfl,⟨?_,(Touch.quiet hW).trans hN.2.1,fun k hk hkl=>hN.2.2 k hk (Nat.lt_of_lt_of_le hkl hW.size)⟩,(World.cell?_of_block (a:=⟨t,2,none⟩) h5).trans hCW.tb.c2,(World.frozen?_of_block (a:=⟨t,2,none⟩) h5).trans (hCW.tb.f 2),(h7 0).trans b0,(h7 1).trans b1,(h7 2).trans b2,(h7 3).trans b3⟩
  rw [HT2e.out]
  exact hN.1
 have HPB:=hid hPB
 have HPI:=hid hPI
 have n0:=World.new_ne w10 _ c2
 have n1:=World.new_ne w10 _ b0
 have n2:=World.new_ne w10 _ b1
 have n3:=World.new_ne w10 _ b2
 have n4:=World.new_ne w10 _ b3
 have HNN:=hid hnn
 clear hnn hPB hPI hw10 hP8e hbl hinto hbb hb10 hown hblk hs1 hf1 hq k1 k2 k3 HC9 HT9 HK8 HC8
 unfold kyV at HPB
 have kg:=Zaa
 refine wp_region_noPanic ?_
 generalize hNQ:NoPanic _=NQ
 refine Zb2 [0,1,2,3,5,6] [4,7,9] 8 10 [11,12,13,14] (by kernel_rfl) (by rw [<-hNQ];exact fun _ _ _ h=>h) (by kernel_rfl) (by kernel_rfl) ?_
 simp only [Zah,List.filterMap_cons,List.filterMap_nil,List.getElem?_toArray,List.getElem?_cons_succ,List.getElem?_cons_zero]
 repeat (any_goals (quiet_step (fail)))
 refine wpQuiet_nil ?_
 clear kg
 intro w11 hb11
 refine ⟨?_,?_⟩
 ·intro K hK o ho
  injection ho with ho
  subst ho
  go_simp
  refine (HPB.out _ hb11).mono ?_
  rintro e w12 ⟨rfl,hbA,hbW,k0,k1,k2,k3,k4⟩
  refine hK _ _ hbA.out ?_
  clear hK K
  intro K hK o ho
  injection ho with ho
  subst ho
  go_simp
  refine hK _ _ (hbA.out.alloc hbA.out.size _) ?_
  clear hK K
  simp only [Zah,List.filterMap_cons,List.filterMap_nil,List.getElem?_toArray,List.getElem?_cons_succ,List.getElem?_cons_zero]
  go_wp2_with fail
  refine (HPI.out _ w12.heap.size (hbA.out.alloc hbA.out.size _) hbA.out.size (heap_alloc_new w12 _)).mono ?_
  rintro e w13 ⟨p',c',rfl,hF,j0,jf,-⟩
  clear hbA hbW k0 k1 k2 k3 k4
  go_wp2_with fail
  rw [<-hNQ]
  refine NoPanic.normal ?_
  clear hNQ
  have hF':=hid (And.intro hF.out.1 (And.intro (HT10.out.trans hF.out.2.1) (fun k hk (hkl:k<w.heap.size)=>hF.out.2.2 k hk (Nat.lt_of_lt_of_le hkl HT10.out.size))))
  clear hF j0 jf
  generalize (w13.setCell ⟨t,2,none⟩ (.slice p' nn c'))=w14 at hF' ⊢
  have c1:=hF'.out.1.tb.c1
  have c2:=hF'.out.1.tb.c2
  have hl14:=hF'.out.1.tb.tlt
  by_cases hg1:8<T2.st.length
  ·have HG1:=hid hg1
   have hg8:decide ((8:Int)<(nn:Int))=true:=by simp;rw [HNN.out];omega
   by_cases hg2:T2.B.length<65536
   ·have HGW:=hid (HGG.out g _ w14 hF'.out.1 hg1 hg2)
    have HG2:=hid hg2
    have hg3:decide ((T2.B.length:Int)<65536)=true:=by simp;omega
    clear hg1 hg2
    go_wp2_with fail
    refine HGW.out.mono ?_
    rintro e w15 ⟨rfl,hS15⟩
    have HS15:=hid hS15
    clear hS15
    go_wp2
    go_end0
    exact ⟨rfl,fun _=>Zar.trans hF'.out.2.1 hF'.out.2.2 HS15.out,fun h=>absurd ⟨HG1.out,HG2.out⟩ h⟩
   ·have HG2:=hid hg2
    have hg3:decide ((T2.B.length:Int)<65536)=false:=by simp;omega
    clear hg1 hg2
    go_wp2
    go_end0
    exact ⟨rfl,fun h=>absurd h.2 HG2.out,fun _=>⟨g,_,hF'.out.1,hF'.out.2.1,hF'.out.2.2⟩⟩
  ·have HG1:=hid hg1
   have hg8:decide ((8:Int)<(nn:Int))=false:=by simp;rw [HNN.out];omega
   clear hg1
   go_wp2
   go_end0
   exact ⟨rfl,fun h=>absurd h.1 HG1.out,fun _=>⟨g,_,hF'.out.1,hF'.out.2.1,hF'.out.2.2⟩⟩
 ·intro K hK o ho
  injection ho with ho
  subst ho
  go_simp
  refine hK _ _ (hb11.alloc hb11.size _) ?_
  clear hK K
  intro K hK o ho
  injection ho with ho
  subst ho
  go_simp
  refine (HPB.out _ (hb11.alloc hb11.size _)).mono ?_
  rintro e w12 ⟨rfl,hbA,hbW,k0,k1,k2,k3,k4⟩
  refine hK _ _ hbA.out ?_
  clear hK K
  simp only [Zah,List.filterMap_cons,List.filterMap_nil,List.getElem?_toArray,List.getElem?_cons_succ,List.getElem?_cons_zero]
  go_wp2_with fail
  refine (HPI.out _ w11.heap.size hbA.out hb11.size ((hbW.out.block _ (by simp)).trans (heap_alloc_new _ _))).mono ?_
  rintro e w13 ⟨p',c',rfl,hF,j0,jf,-⟩
  clear hbA hbW k0 k1 k2 k3 k4
  go_wp2_with fail
  rw [<-hNQ]
  refine NoPanic.normal ?_
  clear hNQ
  have hF':=hid (And.intro hF.out.1 (And.intro (HT10.out.trans hF.out.2.1) (fun k hk (hkl:k<w.heap.size)=>hF.out.2.2 k hk (Nat.lt_of_lt_of_le hkl HT10.out.size))))
  clear hF j0 jf
  generalize (w13.setCell ⟨t,2,none⟩ (.slice p' nn c'))=w14 at hF' ⊢
  have c1:=hF'.out.1.tb.c1
  have c2:=hF'.out.1.tb.c2
  have hl14:=hF'.out.1.tb.tlt
  by_cases hg1:8<T2.st.length
  ·have HG1:=hid hg1
   have hg8:decide ((8:Int)<(nn:Int))=true:=by simp;rw [HNN.out];omega
   by_cases hg2:T2.B.length<65536
   ·have HGW:=hid (HGG.out g _ w14 hF'.out.1 hg1 hg2)
    have HG2:=hid hg2
    have hg3:decide ((T2.B.length:Int)<65536)=true:=by simp;omega
    clear hg1 hg2
    go_wp2_with fail
    refine HGW.out.mono ?_
    rintro e w15 ⟨rfl,hS15⟩
    have HS15:=hid hS15
    clear hS15
    go_wp2
    go_end0
    exact ⟨rfl,fun _=>Zar.trans hF'.out.2.1 hF'.out.2.2 HS15.out,fun h=>absurd ⟨HG1.out,HG2.out⟩ h⟩
   ·have HG2:=hid hg2
    have hg3:decide ((T2.B.length:Int)<65536)=false:=by simp;omega
    clear hg1 hg2
    go_wp2
    go_end0
    exact ⟨rfl,fun h=>absurd h.2 HG2.out,fun _=>⟨g,_,hF'.out.1,hF'.out.2.1,hF'.out.2.2⟩⟩
  ·have HG1:=hid hg1
   have hg8:decide ((8:Int)<(nn:Int))=false:=by simp;rw [HNN.out];omega
   clear hg1
   go_wp2
   go_end0
   exact ⟨rfl,fun h=>absurd h.1 HG1.out,fun _=>⟨g,_,hF'.out.1,hF'.out.2.1,hF'.out.2.2⟩⟩
end Go.Proofs.YtgfjmgebecmbiaaGreat

import Derived.Test.YtgfjmgebecmbiaaGreatRT1
import Derived.Deep.AppendLies
set_option linter.unusedSimpArgs false
set_option linter.unusedVariables false
set_option maxHeartbeats 2000000
namespace Go.Proofs.YtgfjmgebecmbiaaGreat
open Lib(hid)
open Go.RowKit Go.Sort M
theorem Zzp {l:List Rt} {k:Ky} {i:Nat} (h:Zaw l k=some i):∃hi:i<l.length,(l.find? fun r=>decide (r.k=k))=some l[i]:=by
 unfold Zaw at h
 rw [List.findIdx?_eq_some_iff_getElem] at h
 obtain ⟨hi,h1,h2⟩:=h
 refine ⟨hi,?_⟩
 rw [List.find?_eq_some_iff_getElem]
 exact ⟨h1,i,hi,rfl,fun j hj=>by have:=h2 j hj;simpa using this⟩
theorem Zzq {l:List Rt} {k:Ky} (h:Zaw l k=none):(l.find? fun r=>decide (r.k=k))=none:=by
 unfold Zaw at h
 rw [List.findIdx?_eq_none_iff] at h
 rw [List.find?_eq_none]
 intro x hx
 rw [h x hx]
 decide
set_option maxRecDepth 100000 in
theorem Zrj (t g:Nat) (v:Value) (T:Tab) (m x:Int) (k:Ky) (w:World) (H:CT w t g v T m) (h:Num T) (hk:k.good) (hs:Sorted T.st) (hf:T.st.length<1048576) (h1:getC (T.bk (T.x1 k)) k=some x) :
 Calls Tryz.prog 68 #[.pointer (some ⟨t,0,none⟩),kyV k] w fun e w'=>∃p c,e = .returned (.tuple #[.int .i64 x,.bool true,.slice p 1 c])/\w'.ownsRow w.heap.size 3 1 (.slice p 1 c) 1 (ics [(T.x1 k:Int)])/\Below w.heap.size w w':=by
 have HN:=hid (fun w H=>Zbv t g v T m w H h)
 have HT:=hid (fun w H=>Zca t g v T m k w H h hk)
 have HG:=fun x (hx:x<T.B.length) w (H:CT w t g v T m)=>Ze1 g (x*20) (T.bk x) k w (H.tb.bk x hx)
 have HS:=hid (fun w H=>Zb1 t g v T m k w H hs hf)
 have HH:=hid H
 have hl:=H.tb.tlt
 have HG1:=HG _ (h.x1_lt k)
 have HG2:=HG _ (h.x2_lt k)
 rw [h1] at HG1
 try rw [h2] at HG2
 have HG1:=hid HG1
 have HG2:=hid HG2
 have hx1:=h.x1_lt k
 have hx2:=h.x2_lt k
 generalize hX1:T.x1 k=x1 at *
 generalize hX2:T.x2 k=x2 at *
 clear hX1 hX2 HG
 clear H h hs h1
 try clear h2
 unfold kyV at *
 simp only [Option.getD_some,Option.isSome_some,Option.getD_none,Option.isSome_none] at *
 go_enter Tryz.func68,Tryz.ntmps68
 go_wp2_with fail
 refine (HN.out _ (HH.out.below (by go_grown))).mono ?_
 rintro e w1 ⟨rfl,hb1⟩
 have hw1:Below w.heap.size w w1:=Below.trans (by go_grown) (hb1.mono (by go_size))
 have d0:w1.cell? ⟨w.heap.size,0,none⟩=some (.int .u64 (k.h:Int)):=by
  rw [hb1.cell (by simp<;>omega)]
  first|assumption|(simp [go_sem];done)|(simp [go_sem, *];done)
 have d1:w1.cell? ⟨w.heap.size,1,none⟩=some (.int .u64 (k.l:Int)):=by
  rw [hb1.cell (by simp<;>omega)]
  first|assumption|(simp [go_sem];done)|(simp [go_sem, *];done)
 have d2:w1.cell? ⟨w.heap.size,2,none⟩=some (.int .i64 k.n):=by
  rw [hb1.cell (by simp<;>omega)]
  first|assumption|(simp [go_sem];done)|(simp [go_sem, *];done)
 have hz1:w.heap.size<w1.heap.size:=by
  have hs:=hb1.size
  try simp only [World.size_alloc,World.size_setCell] at hs
  omega
 clear hb1
 go_wp2_with fail
 refine (HT.out _ (HH.out.below hw1)).mono ?_
 rintro e w2 ⟨rfl,hb2⟩
 have hw2:=hw1.trans (hb2.mono hw1.size)
 have HH2:=hid (HH.out.below hw2)
 have c1:=HH2.out.tb.c1
 have hl2:=HH2.out.tb.tlt
 have d0:=(hb2.cell (p:=⟨w.heap.size,0,none⟩) hz1).trans d0
 have d1:=(hb2.cell (p:=⟨w.heap.size,1,none⟩) hz1).trans d1
 have d2:=(hb2.cell (p:=⟨w.heap.size,2,none⟩) hz1).trans d2
 have hz2:=Nat.lt_of_lt_of_le hz1 hb2.size
 have i1:(0:Int)<=(x1:Int):=by omega
 have i2:(x1:Int)<(T.B.length:Int):=by omega
 clear hb2
 go_wp2_with fail
 have kg:=Zaa
 refine Zab (by kernel_rfl) (by kernel_rfl) ?_
 repeat (any_goals (first|go_big_quiet_step ((exact Calls.regrown_of (HG1.out _ (HH2.out.below (below_regrown _ _ _)))))|quiet_step ((exact Calls.regrown_of (HG1.out _ (HH2.out.below (below_regrown _ _ _)))))))
 refine wpQuiet_nil ?_
 clear kg
 intro w3 hb3
 obtain ⟨hc3,hf3⟩:=Zaf hb3
 have HH3:=hid (HH2.out.below hb3)
 have hw3:=hw2.trans (hb3.mono hw2.size)
 clear hc3 hf3 hb3
 have hz3:=hw3.size
 go_wp2
 go_ret3
 refine ⟨_,_,rfl,Zcl (B:=w.heap.size) hz3 (by exact heap_alloc_new w3 _) (by omega) (by unfold maxLen;omega) rfl rfl,by go_grown⟩
set_option maxRecDepth 100000 in
theorem Zpc (t g:Nat) (v:Value) (T:Tab) (m x:Int) (k:Ky) (w:World) (H:CT w t g v T m) (h:Num T) (hk:k.good) (hs:Sorted T.st) (hf:T.st.length<1048576) (h1:getC (T.bk (T.x1 k)) k=none) (h2:getC (T.bk (T.x2 k)) k=some x) :
 Calls Tryz.prog 68 #[.pointer (some ⟨t,0,none⟩),kyV k] w fun e w'=>∃p c,e = .returned (.tuple #[.int .i64 x,.bool true,.slice p 2 c])/\w'.ownsRow w.heap.size 3 1 (.slice p 2 c) 2 (ics [(T.x1 k:Int),(T.x2 k:Int)])/\Below w.heap.size w w':=by
 have HN:=hid (fun w H=>Zbv t g v T m w H h)
 have HT:=hid (fun w H=>Zca t g v T m k w H h hk)
 have HG:=fun x (hx:x<T.B.length) w (H:CT w t g v T m)=>Ze1 g (x*20) (T.bk x) k w (H.tb.bk x hx)
 have HS:=hid (fun w H=>Zb1 t g v T m k w H hs hf)
 have HH:=hid H
 have hl:=H.tb.tlt
 have HG1:=HG _ (h.x1_lt k)
 have HG2:=HG _ (h.x2_lt k)
 rw [h1] at HG1
 try rw [h2] at HG2
 have HG1:=hid HG1
 have HG2:=hid HG2
 have hx1:=h.x1_lt k
 have hx2:=h.x2_lt k
 generalize hX1:T.x1 k=x1 at *
 generalize hX2:T.x2 k=x2 at *
 clear hX1 hX2 HG
 clear H h hs h1
 try clear h2
 unfold kyV at *
 simp only [Option.getD_some,Option.isSome_some,Option.getD_none,Option.isSome_none] at *
 go_enter Tryz.func68,Tryz.ntmps68
 go_wp2_with fail
 refine (HN.out _ (HH.out.below (by go_grown))).mono ?_
 rintro e w1 ⟨rfl,hb1⟩
 have hw1:Below w.heap.size w w1:=Below.trans (by go_grown) (hb1.mono (by go_size))
 have d0:w1.cell? ⟨w.heap.size,0,none⟩=some (.int .u64 (k.h:Int)):=by
  rw [hb1.cell (by simp<;>omega)]
  first|assumption|(simp [go_sem];done)|(simp [go_sem, *];done)
 have d1:w1.cell? ⟨w.heap.size,1,none⟩=some (.int .u64 (k.l:Int)):=by
  rw [hb1.cell (by simp<;>omega)]
  first|assumption|(simp [go_sem];done)|(simp [go_sem, *];done)
 have d2:w1.cell? ⟨w.heap.size,2,none⟩=some (.int .i64 k.n):=by
  rw [hb1.cell (by simp<;>omega)]
  first|assumption|(simp [go_sem];done)|(simp [go_sem, *];done)
 have hz1:w.heap.size<w1.heap.size:=by
  have hs:=hb1.size
  try simp only [World.size_alloc,World.size_setCell] at hs
  omega
 clear hb1
 go_wp2_with fail
 refine (HT.out _ (HH.out.below hw1)).mono ?_
 rintro e w2 ⟨rfl,hb2⟩
 have hw2:=hw1.trans (hb2.mono hw1.size)
 have HH2:=hid (HH.out.below hw2)
 have c1:=HH2.out.tb.c1
 have hl2:=HH2.out.tb.tlt
 have d0:=(hb2.cell (p:=⟨w.heap.size,0,none⟩) hz1).trans d0
 have d1:=(hb2.cell (p:=⟨w.heap.size,1,none⟩) hz1).trans d1
 have d2:=(hb2.cell (p:=⟨w.heap.size,2,none⟩) hz1).trans d2
 have hz2:=Nat.lt_of_lt_of_le hz1 hb2.size
 have i1:(0:Int)<=(x1:Int):=by omega
 have i2:(x1:Int)<(T.B.length:Int):=by omega
 clear hb2
 go_wp2_with fail
 have kg:=Zaa
 refine Zab (by kernel_rfl) (by kernel_rfl) ?_
 repeat (any_goals (first|go_big_quiet_step ((exact Calls.regrown_of (HG1.out _ (HH2.out.below (below_regrown _ _ _)))))|quiet_step ((exact Calls.regrown_of (HG1.out _ (HH2.out.below (below_regrown _ _ _)))))))
 refine wpQuiet_nil ?_
 clear kg
 intro w3 hb3
 obtain ⟨hc3,hf3⟩:=Zaf hb3
 have HH3:=hid (HH2.out.below hb3)
 have hw3:=hw2.trans (hb3.mono hw2.size)
 have hz3:=Nat.lt_of_lt_of_le hz2 hb3.size
 have hl3:=Nat.lt_of_lt_of_le hl2 hb3.size
 have c1:=(hc3 _ _ hl2).trans c1
 have d0:=(hc3 _ _ hz2).trans d0
 have d1:=(hc3 _ _ hz2).trans d1
 have d2:=(hc3 _ _ hz2).trans d2
 have j1:(0:Int)<=(x2:Int):=by omega
 have j2:(x2:Int)<(T.B.length:Int):=by omega
 clear hc3 hf3 hb3 hl2 hz2 HH2 hw2
 go_wp2_with fail
 generalize hW4:World.alloc w3 _=w4 at *
 have hb34:Below w3.heap.size w3 w4:=by rw [<-hW4];go_grown
 have hw4:=hw3.trans (hb34.mono hw3.size)
 have hg4:w4.heap[w3.heap.size]? = some (.cells #[.int .i64 (x1:Int),.int .i64 (x2:Int)] 3 (0,0)):=by rw [<-hW4];exact heap_alloc_new w3 _
 have HH4:=hid (HH3.out.below hb34)
 have c1:=(hb34.cell (p:=⟨t,1,none⟩) hl3).trans c1
 have d0:=(hb34.cell (p:=⟨w.heap.size,0,none⟩) hz3).trans d0
 have d1:=(hb34.cell (p:=⟨w.heap.size,1,none⟩) hz3).trans d1
 have d2:=(hb34.cell (p:=⟨w.heap.size,2,none⟩) hz3).trans d2
 have hz4:=Nat.lt_of_lt_of_le hz3 hb34.size
 have hl4:=Nat.lt_of_lt_of_le hl3 hb34.size
 have hg4l:=(Array.getElem?_eq_some_iff.1 hg4).1
 clear hW4 hb34 HH3
 have kg:=Zaa
 refine Zab (by kernel_rfl) (by kernel_rfl) ?_
 repeat (any_goals (first|go_big_quiet_step ((exact Calls.regrown_of (HG2.out _ (HH4.out.below (below_regrown _ _ _)))))|quiet_step ((exact Calls.regrown_of (HG2.out _ (HH4.out.below (below_regrown _ _ _)))))))
 refine wpQuiet_nil ?_
 clear kg
 intro w5 hb5
 obtain ⟨hc5,hf5⟩:=Zaf hb5
 have HH5:=hid (HH4.out.below hb5)
 have hw5:=hw4.trans (hb5.mono hw4.size)
 have hg5:=(hb5.block _ hg4l).trans hg4
 have hz5:=hw3.size
 have hG5:=hid hg5
 clear hc5 hf5 hb5 hg4 hg5
 go_wp2
 go_ret3
 refine ⟨_,_,rfl,Zcl (B:=w.heap.size) hz5 hG5.out (by omega) (by unfold maxLen;omega) rfl rfl,by go_grown⟩
set_option maxRecDepth 100000 in
theorem Zvx (t g:Nat) (v:Value) (T:Tab) (m:Int) (k:Ky) (w:World) (H:CT w t g v T m) (h:Num T) (hk:k.good) (hs:Sorted T.st) (hf:T.st.length<1048576) (h1:getC (T.bk (T.x1 k)) k=none) (h2:getC (T.bk (T.x2 k)) k=none) (h3:Zaw T.st k=none) :
 Calls Tryz.prog 68 #[.pointer (some ⟨t,0,none⟩),kyV k] w fun e w'=>∃p c,e = .returned (.tuple #[.int .i64 0,.bool false,.slice p 2 c])/\w'.ownsRow w.heap.size 3 1 (.slice p 2 c) 2 (ics [(T.x1 k:Int),(T.x2 k:Int)])/\Below w.heap.size w w':=by
 have HN:=hid (fun w H=>Zbv t g v T m w H h)
 have HT:=hid (fun w H=>Zca t g v T m k w H h hk)
 have HG:=fun x (hx:x<T.B.length) w (H:CT w t g v T m)=>Ze1 g (x*20) (T.bk x) k w (H.tb.bk x hx)
 have HS:=hid (fun w H=>Zb1 t g v T m k w H hs hf)
 have HH:=hid H
 have hl:=H.tb.tlt
 have HG1:=HG _ (h.x1_lt k)
 have HG2:=HG _ (h.x2_lt k)
 rw [h1] at HG1
 try rw [h2] at HG2
 have HG1:=hid HG1
 have HG2:=hid HG2
 have hx1:=h.x1_lt k
 have hx2:=h.x2_lt k
 generalize hX1:T.x1 k=x1 at *
 generalize hX2:T.x2 k=x2 at *
 clear hX1 hX2 HG
 rw [Zgr h3] at HS
 have hge:¬(0:Int) <= -1:=by omega
 clear H h hs h1
 try clear h2
 unfold kyV at *
 simp only [Option.getD_some,Option.isSome_some,Option.getD_none,Option.isSome_none] at *
 go_enter Tryz.func68,Tryz.ntmps68
 go_wp2_with fail
 refine (HN.out _ (HH.out.below (by go_grown))).mono ?_
 rintro e w1 ⟨rfl,hb1⟩
 have hw1:Below w.heap.size w w1:=Below.trans (by go_grown) (hb1.mono (by go_size))
 have d0:w1.cell? ⟨w.heap.size,0,none⟩=some (.int .u64 (k.h:Int)):=by
  rw [hb1.cell (by simp<;>omega)]
  first|assumption|(simp [go_sem];done)|(simp [go_sem, *];done)
 have d1:w1.cell? ⟨w.heap.size,1,none⟩=some (.int .u64 (k.l:Int)):=by
  rw [hb1.cell (by simp<;>omega)]
  first|assumption|(simp [go_sem];done)|(simp [go_sem, *];done)
 have d2:w1.cell? ⟨w.heap.size,2,none⟩=some (.int .i64 k.n):=by
  rw [hb1.cell (by simp<;>omega)]
  first|assumption|(simp [go_sem];done)|(simp [go_sem, *];done)
 have hz1:w.heap.size<w1.heap.size:=by
  have hs:=hb1.size
  try simp only [World.size_alloc,World.size_setCell] at hs
  omega
 clear hb1
 go_wp2_with fail
 refine (HT.out _ (HH.out.below hw1)).mono ?_
 rintro e w2 ⟨rfl,hb2⟩
 have hw2:=hw1.trans (hb2.mono hw1.size)
 have HH2:=hid (HH.out.below hw2)
 have c1:=HH2.out.tb.c1
 have hl2:=HH2.out.tb.tlt
 have d0:=(hb2.cell (p:=⟨w.heap.size,0,none⟩) hz1).trans d0
 have d1:=(hb2.cell (p:=⟨w.heap.size,1,none⟩) hz1).trans d1
 have d2:=(hb2.cell (p:=⟨w.heap.size,2,none⟩) hz1).trans d2
 have hz2:=Nat.lt_of_lt_of_le hz1 hb2.size
 have i1:(0:Int)<=(x1:Int):=by omega
 have i2:(x1:Int)<(T.B.length:Int):=by omega
 clear hb2
 go_wp2_with fail
 have kg:=Zaa
 refine Zab (by kernel_rfl) (by kernel_rfl) ?_
 repeat (any_goals (first|go_big_quiet_step ((exact Calls.regrown_of (HG1.out _ (HH2.out.below (below_regrown _ _ _)))))|quiet_step ((exact Calls.regrown_of (HG1.out _ (HH2.out.below (below_regrown _ _ _)))))))
 refine wpQuiet_nil ?_
 clear kg
 intro w3 hb3
 obtain ⟨hc3,hf3⟩:=Zaf hb3
 have HH3:=hid (HH2.out.below hb3)
 have hw3:=hw2.trans (hb3.mono hw2.size)
 have hz3:=Nat.lt_of_lt_of_le hz2 hb3.size
 have hl3:=Nat.lt_of_lt_of_le hl2 hb3.size
 have c1:=(hc3 _ _ hl2).trans c1
 have d0:=(hc3 _ _ hz2).trans d0
 have d1:=(hc3 _ _ hz2).trans d1
 have d2:=(hc3 _ _ hz2).trans d2
 have j1:(0:Int)<=(x2:Int):=by omega
 have j2:(x2:Int)<(T.B.length:Int):=by omega
 clear hc3 hf3 hb3 hl2 hz2 HH2 hw2
 go_wp2_with fail
 generalize hW4:World.alloc w3 _=w4 at *
 have hb34:Below w3.heap.size w3 w4:=by rw [<-hW4];go_grown
 have hw4:=hw3.trans (hb34.mono hw3.size)
 have hg4:w4.heap[w3.heap.size]? = some (.cells #[.int .i64 (x1:Int),.int .i64 (x2:Int)] 3 (0,0)):=by rw [<-hW4];exact heap_alloc_new w3 _
 have HH4:=hid (HH3.out.below hb34)
 have c1:=(hb34.cell (p:=⟨t,1,none⟩) hl3).trans c1
 have d0:=(hb34.cell (p:=⟨w.heap.size,0,none⟩) hz3).trans d0
 have d1:=(hb34.cell (p:=⟨w.heap.size,1,none⟩) hz3).trans d1
 have d2:=(hb34.cell (p:=⟨w.heap.size,2,none⟩) hz3).trans d2
 have hz4:=Nat.lt_of_lt_of_le hz3 hb34.size
 have hl4:=Nat.lt_of_lt_of_le hl3 hb34.size
 have hg4l:=(Array.getElem?_eq_some_iff.1 hg4).1
 clear hW4 hb34 HH3
 have kg:=Zaa
 refine Zab (by kernel_rfl) (by kernel_rfl) ?_
 repeat (any_goals (first|go_big_quiet_step ((exact Calls.regrown_of (HG2.out _ (HH4.out.below (below_regrown _ _ _)))))|quiet_step ((exact Calls.regrown_of (HG2.out _ (HH4.out.below (below_regrown _ _ _)))))))
 refine wpQuiet_nil ?_
 clear kg
 intro w5 hb5
 obtain ⟨hc5,hf5⟩:=Zaf hb5
 have HH5:=hid (HH4.out.below hb5)
 have hw5:=hw4.trans (hb5.mono hw4.size)
 have hg5:=(hb5.block _ hg4l).trans hg4
 have hl5:=HH5.out.tb.tlt
 have d0:=(hc5 _ _ hz4).trans d0
 have d1:=(hc5 _ _ hz4).trans d1
 have d2:=(hc5 _ _ hz4).trans d2
 have hz5:=Nat.lt_of_lt_of_le hz4 hb5.size
 have hg5l:=Nat.lt_of_lt_of_le hg4l hb5.size
 have hG5:=hid hg5
 clear hc5 hf5 hb5 hg4 hg5
 go_wp2_with fail
 refine (HS.out _ HH5.out).mono ?_
 rintro e w6 ⟨rfl,hb6⟩
 have HH6:=hid (HH5.out.below hb6)
 have hw6:=hw5.trans (hb6.mono hw5.size)
 have hG6:=hid ((hb6.block _ hg5l).trans hG5.out)
 have hz6:=Nat.lt_of_lt_of_le hz5 hb6.size
 have hl6:=HH6.out.tb.tlt
 have c2:=HH6.out.tb.c2
 have hz7:=hw3.size
 go_wp2
 go_ret3
 refine ⟨_,_,rfl,Zcl (B:=w.heap.size) hz7 hG6.out (by omega) (by unfold maxLen;omega) rfl rfl,by go_grown⟩
set_option maxRecDepth 100000 in
theorem Zri (t g:Nat) (v:Value) (T:Tab) (m:Int) (k:Ky) (i:Nat) (hi:i<T.st.length) (w:World) (H:CT w t g v T m) (h:Num T) (hk:k.good) (hs:Sorted T.st) (hf:T.st.length<1048576) (h1:getC (T.bk (T.x1 k)) k=none) (h2:getC (T.bk (T.x2 k)) k=none) (h3:Zaw T.st k=some i) :
 Calls Tryz.prog 68 #[.pointer (some ⟨t,0,none⟩),kyV k] w fun e w'=>∃p c,e = .returned (.tuple #[.int .i64 T.st[i].v,.bool true,.slice p 2 c])/\w'.ownsRow w.heap.size 3 1 (.slice p 2 c) 2 (ics [(T.x1 k:Int),(T.x2 k:Int)])/\Below w.heap.size w w':=by
 obtain ⟨pv,cv,hv⟩:=Zag H.tb.own
 have ho:=H.tb.own
 rw [hv] at ho
 obtain ⟨gr,o,rfl,hgr,r0,r1,r2,r3⟩:=(Row.of_own ho).rt hi
 have HR:=hid r3
 have HV:=hid hv
 clear r0 r1 r2 r3 ho hv
 have HN:=hid (fun w H=>Zbv t g v T m w H h)
 have HT:=hid (fun w H=>Zca t g v T m k w H h hk)
 have HG:=fun x (hx:x<T.B.length) w (H:CT w t g v T m)=>Ze1 g (x*20) (T.bk x) k w (H.tb.bk x hx)
 have HS:=hid (fun w H=>Zb1 t g v T m k w H hs hf)
 have HH:=hid H
 have hl:=H.tb.tlt
 have HG1:=HG _ (h.x1_lt k)
 have HG2:=HG _ (h.x2_lt k)
 rw [h1] at HG1
 try rw [h2] at HG2
 have HG1:=hid HG1
 have HG2:=hid HG2
 have hx1:=h.x1_lt k
 have hx2:=h.x2_lt k
 generalize hX1:T.x1 k=x1 at *
 generalize hX2:T.x2 k=x2 at *
 clear hX1 hX2 HG
 rw [Ziz h3] at HS
 have hge:(0:Int)<=(i:Int):=by omega
 have hii:(i:Int)<(T.st.length:Int):=by omega
 generalize hX:T.st[i].v=x at *
 clear hX
 clear H h hs h1
 try clear h2
 unfold kyV at *
 simp only [Option.getD_some,Option.isSome_some,Option.getD_none,Option.isSome_none] at *
 go_enter Tryz.func68,Tryz.ntmps68
 go_wp2_with fail
 refine (HN.out _ (HH.out.below (by go_grown))).mono ?_
 rintro e w1 ⟨rfl,hb1⟩
 have hw1:Below w.heap.size w w1:=Below.trans (by go_grown) (hb1.mono (by go_size))
 have d0:w1.cell? ⟨w.heap.size,0,none⟩=some (.int .u64 (k.h:Int)):=by
  rw [hb1.cell (by simp<;>omega)]
  first|assumption|(simp [go_sem];done)|(simp [go_sem, *];done)
 have d1:w1.cell? ⟨w.heap.size,1,none⟩=some (.int .u64 (k.l:Int)):=by
  rw [hb1.cell (by simp<;>omega)]
  first|assumption|(simp [go_sem];done)|(simp [go_sem, *];done)
 have d2:w1.cell? ⟨w.heap.size,2,none⟩=some (.int .i64 k.n):=by
  rw [hb1.cell (by simp<;>omega)]
  first|assumption|(simp [go_sem];done)|(simp [go_sem, *];done)
 have hz1:w.heap.size<w1.heap.size:=by
  have hs:=hb1.size
  try simp only [World.size_alloc,World.size_setCell] at hs
  omega
 clear hb1
 go_wp2_with fail
 refine (HT.out _ (HH.out.below hw1)).mono ?_
 rintro e w2 ⟨rfl,hb2⟩
 have hw2:=hw1.trans (hb2.mono hw1.size)
 have HH2:=hid (HH.out.below hw2)
 have c1:=HH2.out.tb.c1
 have hl2:=HH2.out.tb.tlt
 have d0:=(hb2.cell (p:=⟨w.heap.size,0,none⟩) hz1).trans d0
 have d1:=(hb2.cell (p:=⟨w.heap.size,1,none⟩) hz1).trans d1
 have d2:=(hb2.cell (p:=⟨w.heap.size,2,none⟩) hz1).trans d2
 have hz2:=Nat.lt_of_lt_of_le hz1 hb2.size
 have i1:(0:Int)<=(x1:Int):=by omega
 have i2:(x1:Int)<(T.B.length:Int):=by omega
 clear hb2
 go_wp2_with fail
 have kg:=Zaa
 refine Zab (by kernel_rfl) (by kernel_rfl) ?_
 repeat (any_goals (first|go_big_quiet_step ((exact Calls.regrown_of (HG1.out _ (HH2.out.below (below_regrown _ _ _)))))|quiet_step ((exact Calls.regrown_of (HG1.out _ (HH2.out.below (below_regrown _ _ _)))))))
 refine wpQuiet_nil ?_
 clear kg
 intro w3 hb3
 obtain ⟨hc3,hf3⟩:=Zaf hb3
 have HH3:=hid (HH2.out.below hb3)
 have hw3:=hw2.trans (hb3.mono hw2.size)
 have hz3:=Nat.lt_of_lt_of_le hz2 hb3.size
 have hl3:=Nat.lt_of_lt_of_le hl2 hb3.size
 have c1:=(hc3 _ _ hl2).trans c1
 have d0:=(hc3 _ _ hz2).trans d0
 have d1:=(hc3 _ _ hz2).trans d1
 have d2:=(hc3 _ _ hz2).trans d2
 have j1:(0:Int)<=(x2:Int):=by omega
 have j2:(x2:Int)<(T.B.length:Int):=by omega
 clear hc3 hf3 hb3 hl2 hz2 HH2 hw2
 go_wp2_with fail
 generalize hW4:World.alloc w3 _=w4 at *
 have hb34:Below w3.heap.size w3 w4:=by rw [<-hW4];go_grown
 have hw4:=hw3.trans (hb34.mono hw3.size)
 have hg4:w4.heap[w3.heap.size]? = some (.cells #[.int .i64 (x1:Int),.int .i64 (x2:Int)] 3 (0,0)):=by rw [<-hW4];exact heap_alloc_new w3 _
 have HH4:=hid (HH3.out.below hb34)
 have c1:=(hb34.cell (p:=⟨t,1,none⟩) hl3).trans c1
 have d0:=(hb34.cell (p:=⟨w.heap.size,0,none⟩) hz3).trans d0
 have d1:=(hb34.cell (p:=⟨w.heap.size,1,none⟩) hz3).trans d1
 have d2:=(hb34.cell (p:=⟨w.heap.size,2,none⟩) hz3).trans d2
 have hz4:=Nat.lt_of_lt_of_le hz3 hb34.size
 have hl4:=Nat.lt_of_lt_of_le hl3 hb34.size
 have hg4l:=(Array.getElem?_eq_some_iff.1 hg4).1
 clear hW4 hb34 HH3
 have kg:=Zaa
 refine Zab (by kernel_rfl) (by kernel_rfl) ?_
 repeat (any_goals (first|go_big_quiet_step ((exact Calls.regrown_of (HG2.out _ (HH4.out.below (below_regrown _ _ _)))))|quiet_step ((exact Calls.regrown_of (HG2.out _ (HH4.out.below (below_regrown _ _ _)))))))
 refine wpQuiet_nil ?_
 clear kg
 intro w5 hb5
 obtain ⟨hc5,hf5⟩:=Zaf hb5
 have HH5:=hid (HH4.out.below hb5)
 have hw5:=hw4.trans (hb5.mono hw4.size)
 have hg5:=(hb5.block _ hg4l).trans hg4
 have hl5:=HH5.out.tb.tlt
 have d0:=(hc5 _ _ hz4).trans d0
 have d1:=(hc5 _ _ hz4).trans d1
 have d2:=(hc5 _ _ hz4).trans d2
 have hz5:=Nat.lt_of_lt_of_le hz4 hb5.size
 have hg5l:=Nat.lt_of_lt_of_le hg4l hb5.size
 have hG5:=hid hg5
 clear hc5 hf5 hb5 hg4 hg5
 go_wp2_with fail
 refine (HS.out _ HH5.out).mono ?_
 rintro e w6 ⟨rfl,hb6⟩
 have HH6:=hid (HH5.out.below hb6)
 have hw6:=hw5.trans (hb6.mono hw5.size)
 have hG6:=hid ((hb6.block _ hg5l).trans hG5.out)
 have hz6:=Nat.lt_of_lt_of_le hz5 hb6.size
 have hl6:=HH6.out.tb.tlt
 have c2:=HH6.out.tb.c2
 have hz7:=hw3.size
 have hgr6:=Nat.lt_of_lt_of_le hgr hw6.size
 rw [HV.out] at c2
 have r3:=(hw6.cell (p:=⟨gr,o+i*4+3,none⟩) hgr).trans HR.out
 go_wp2
 go_ret3
 refine ⟨_,_,rfl,Zcl (B:=w.heap.size) hz7 hG6.out (by omega) (by unfold maxLen;omega) rfl rfl,by go_grown⟩
theorem Zzk (t g:Nat) (v:Value) (T:Tab) (m:Int) (k:Ky) (w:World) (H:CT w t g v T m) (h:Num T) (hk:k.good) (hs:Sorted T.st) (hf:T.st.length<1048576) :
 Calls Tryz.prog 68 #[.pointer (some ⟨t,0,none⟩),kyV k] w fun e w'=>∃p c,e = .returned (.tuple #[.int .i64 ((getT T k).getD 0),.bool (getT T k).isSome,.slice p (Zjs T k).length c])/\w'.ownsRow w.heap.size 3 1 (.slice p (Zjs T k).length c) (Zjs T k).length (ics (Zjs T k))/\Below w.heap.size w w':=by
 unfold getT Zjs
 cases h1:getC (T.bk (T.x1 k)) k with
 | some x=>exact Zrj t g v T m x k w H h hk hs hf h1
 | none=>
  cases h2:getC (T.bk (T.x2 k)) k with
  | some x=>exact Zpc t g v T m x k w H h hk hs hf h1 h2
  | none=>
   cases h3:Zaw T.st k with
   | none=>
    rw [Zzq h3]
    exact Zvx t g v T m k w H h hk hs hf h1 h2 h3
   | some i=>
    obtain ⟨hi,e⟩:=Zzp h3
    rw [e]
    exact Zri t g v T m k i hi w H h hk hs hf h1 h2 h3
set_option maxRecDepth 100000 in
theorem Z4j (hi lo:Nat) (n m:Int) (ha:W64 hi) (hb:W64 lo) :
 Zp3 45 #[.agg #[.int .u64 hi,.int .u64 lo,.int .i64 n],.int .i64 m] (Zd7 hi lo n m):=by
 intro w
 have hr:=Zjf hi lo n ha hb
 by_cases hcond:Zan hi lo n=true/\n<=m/\m<=128/\m-n<=8
 ·obtain ⟨hr0,hr1,hr2⟩:=(Za1 hi lo n hb).1 hcond.1
  rw [hcond.1] at hr
  rw [Zh5 hcond]
  obtain ⟨-,h1,h2,h3⟩:=hcond
  obtain ⟨a,rfl⟩:=Int.eq_ofNat_of_zero_le hr0
  obtain ⟨b,rfl⟩:=Int.eq_ofNat_of_zero_le (show 0<=m by omega)
  rw [Int.toNat_natCast] at hr2 ⊢
  rw [Int.toNat_natCast]
  have hab:a<=b:=by omega
  have hb1:b<=128:=by omega
  have hb8:b<=a+8:=by omega
  have d1:decide ((b:Int)<(a:Int))=false:=by simp;omega
  have d2:decide ((128:Int)<(b:Int))=false:=by simp;omega
  have d3:decide ((8:Int)<(b:Int)-(a:Int))=false:=by simp;omega
  have d4:IntKind.i64.wrap ((b:Int)-(a:Int))=(b:Int)-(a:Int):=by rw [IntWalk.i64_in _ (by omega)]
  have d5:decide (b<a)=false:=by simp;omega
  have hV:=ha.val hb
  have e1:=Ztf hi lo hb
  have e2:=Zyv hi lo hb
  generalize val hi lo=V at hr2 hV e1 e2 ⊢
  have HV:=hid (And.intro hr2 (And.intro hV (And.intro e1 e2)))
  have HR:=hid hr
  clear hV e1 e2
  clear hr hr0 hr1 hr2 h1 h2 h3
  go_enter Tryz.func45,Tryz.ntmps45
  go_wp2_with fail
  refine (HR.out _).mono ?_
  rintro e0 w0 ⟨rfl,hb0⟩
  have hw0:Below w.heap.size w w0:=by
   refine Below.trans ?_ (hb0.mono ?_)
   ·go_grown
   ·go_size
  have c0:w0.cell? ⟨w.heap.size,0,none⟩=some (.int .u64 hi):=by
   rw [hb0.cell (by simp<;>omega)]
   first|assumption|(simp [go_sem];done)|(simp [go_sem, *];done)
  have c1:w0.cell? ⟨w.heap.size,1,none⟩=some (.int .u64 lo):=by
   rw [hb0.cell (by simp<;>omega)]
   first|assumption|(simp [go_sem];done)|(simp [go_sem, *];done)
  have c2:w0.cell? ⟨w.heap.size,2,none⟩=some (.int .i64 a):=by
   rw [hb0.cell (by simp<;>omega)]
   first|assumption|(simp [go_sem];done)|(simp [go_sem, *];done)
  have z0:w.heap.size<w0.heap.size:=by
   have hs:=hb0.size
   try simp only [World.size_alloc,World.size_setCell] at hs
   omega
  have hownA:(w0.alloc (.cells #[.int .u64 hi,.int .u64 lo,.int .i64 b] 39)).ownsRow w.heap.size 39 3 (.slice (some ⟨w0.heap.size,0,none⟩) 1 1) 1 [.int .u64 hi,.int .u64 lo,.int .i64 b]:=
   World.ownsRow_lit _ _ 1 (by omega) (by unfold maxLen;omega) rfl
  go_wp2
  go_loopw [5,6] (fun l i wr=>∃(s q:Nat) (p:Option Addr) (X:List Nat),a<=s/\s<=b/\i = .int .i64 s/\l = .slice p X.length q/\X.length<=256/\Hid (X=Zfs V a s)/\wr.ownsRow w.heap.size 39 3 (.slice p X.length q) X.length (pcs (pfs X b))/\Below w.heap.size w wr) (fun _ i _=>b-(intOf i).toNat)
  case atStart=>
   refine ⟨a,1,some ⟨w0.heap.size,0,none⟩,[V],Nat.le_refl _,hab,rfl,rfl,by simp,hid (Zy1 V a).symm,?_,by go_grown⟩
   have:=HV.out.2.2
   have e:pcs (pfs [V] b)=[.int .u64 hi,.int .u64 lo,.int .i64 b]:=by simp [pcs,pfs,Zge,this.1,this.2]
   rw [e]
   exact hownA
  case round=>
   clear hownA
   rename World=>wo
   obtain ⟨s,q,p,X,hs1,hs2,rfl,rfl,hX,hXe,hown,hw1⟩:=hrel
   have hz1:=hw1.size
   by_cases hlt:s<b
   ·go_wp2
    go_loopw [7,8] (fun o i wq=>∃(k q2:Nat) (p2:Option Addr) (Y:List Nat),k<=X.length/\i = .int .i64 k/\o = .slice p2 Y.length q2/\Y.length<=512/\Hid (Y=dblN s (X.take k))/\wq.ownsRow wo.heap.size 39 3 (.slice p2 Y.length q2) Y.length (pcs (pfs Y b))/\Below wo.heap.size wo wq) (fun _ i _=>X.length-(intOf i).toNat)
    case atStart=>exact ⟨0,0,none,[],Nat.zero_le _,rfl,rfl,by simp,hid (by simp [dblN]),World.ownsRow_nil _ _ _ _,Below.refl _ _⟩
    case round=>
     obtain ⟨k,q2,p2,Y,hk,rfl,rfl,hY,hYe,hown2,hw2⟩:=hrel
     have hz2:=hw2.size
     have hw12:=hw1.trans (hw2.mono hz1)
     have hz12:w.heap.size<=wr.heap.size:=by omega
     have hownX:=own_below hown hw2
     by_cases hkl:k<X.length
     ·obtain ⟨x,hx⟩:∃x,x=X[k]:=⟨_,rfl⟩
      obtain ⟨y,hy⟩:∃y,y=x+2^(127-s):=⟨_,rfl⟩
      have hxw:=Z4t V a s hs1 (by omega) HV.out.2.1 HV.out.1 x (by rw [hx,<-hXe.out];exact List.getElem_mem hkl)
      obtain ⟨y1,y2,y3⟩:=Z16 x s (by omega) hxw.1 hxw.2
      rw [<-hy] at y1 y2 y3
      have hW:Zak Tryz.prog 65 #[.agg #[.int .u64 (hiW x:Nat),.int .u64 (loW x:Nat)],.int .i64 (s:Int)] (.agg #[.int .u64 (hiW y:Nat),.int .u64 (loW y:Nat)]):=by
       have:=Zr7 (hiW x) (loW x) s hxw.1.hi W128.lo (by omega)
       unfold onHi onLo at this
       rwa [y1,y2] at this
      obtain ⟨g,o,e,hgo,c0,c1,c2⟩:=(Row.of_own hown).at_pfs hkl
      subst e
      rw [<-hx] at c0 c1
      have hg:g<wr.heap.size:=Nat.lt_of_lt_of_le hgo hz2
      have c0:=(hw2.cell (p:=⟨g,o+k*3,none⟩) hgo).trans c0
      have c1:=(hw2.cell (p:=⟨g,o+k*3+1,none⟩) hgo).trans c1
      have c2:=(hw2.cell (p:=⟨g,o+k*3+2,none⟩) hgo).trans c2
      have hYe2:Y++[x,y]=dblN s (X.take (k+1)):=by rw [Zm4 s X k hkl,hYe.out,hy,hx]
      have hYl:Y.length=2*k:=by rw [hYe.out,Z6q,List.length_take];omega
      have hYl':Y.length<=510:=by omega
      have HW:=hid hW
      have HY2:=hid hYe2
      obtain ⟨j0,hj0,jz0,jz1,jz2⟩:=info_parts Z8f
      have i1:(0:Int)<=(k:Int):=by omega
      have i2:(k:Int)<(X.length:Int):=by omega
      clear hW hYe2 hYe hYl hx hy y1 y2 hxw
      go_wp2_with fail
      go_region_held3 (fun w'=>w'.cell? ⟨g,o+k*3,none⟩=some (.int .u64 (hiW x:Nat))/\w'.cell? ⟨g,o+k*3+1,none⟩=some (.int .u64 (loW x:Nat))/\w'.cell? ⟨g,o+k*3+2,none⟩=some (.int .i64 b))
       (first
        | go_keep
        | exact ⟨(hb3.cell (p:=⟨g,o+k*3,none⟩) hg).trans c0,(hb3.cell (p:=⟨g,o+k*3+1,none⟩) hg).trans c1,(hb3.cell (p:=⟨g,o+k*3+2,none⟩) hg).trans c2⟩
        | exact ⟨Zmt (w0:=wr.drew) hb3 ((own_below (w:=wr.drew) hown2 hb3).alloc _) hg4 hgo hg c0,Zmt (w0:=wr.drew) hb3 ((own_below (w:=wr.drew) hown2 hb3).alloc _) hg4 hgo hg c1,Zmt (w0:=wr.drew) hb3 ((own_below (w:=wr.drew) hown2 hb3).alloc _) hg4 hgo hg c2⟩)
       (first
        | (go_at_call 65;refine (HW.out _).mono ?_;rintro e w3 ⟨rfl,hb3⟩)
        | (refine step_append_lies _ (by rfl) _ _ _ (by rfl) wo.heap.size 39 j0 _ 3 24 Tryz.underlying89 hj0 jz0 jz1 jz2 rfl (by omega) (.slice p2 Y.length q2) Y.length (pcs (pfs Y b)) (by rfl) ((own_below (w:=wr.drew) hown2 hb3).alloc _) ⟨w3.heap.size,0,none⟩ 2 2 (Zge ⟨x,b⟩++Zge ⟨y,b⟩) (by rfl) (by rfl) (Zeq w3 _ _) (by simp [Zge,Value.oneCell']) (by omega) (by unfold maxLen;omega) (by omega) (by have:=hb3.size;simp at this ⊢;omega) _ rfl ?_;intro g4 q4 w4 hown4 hg4 hat4 hlt4))
      have hb3':Below wo.heap.size wo w3:=hw2.drew.trans (hb3.mono hz2)
      have hb4:Below wo.heap.size wo w4:=(hb3'.alloc hb3'.size _).grown hg4 (by have:=hb3'.size;simp;omega) (fun j hj=>(hown2.lt j hj).1)
      have hownN:w4.ownsRow wo.heap.size 39 3 (.slice (some ⟨g4,0,none⟩) (Y++[x,y]).length q4) (Y++[x,y]).length (pcs (pfs (Y++[x,y]) b)):=by
       have e1:pcs (pfs (Y++[x,y]) b)=pcs (pfs Y b)++(Zge ⟨x,b⟩++Zge ⟨y,b⟩):=by simp [Zu6,Zk7,pfs,pcs]
       rw [e1,List.length_append]
       exact hown4
      have hLe:(Y++[x,y]).length=Y.length+2:=by simp
      have HLE:=hid hLe
      clear hLe hown4 hg4 hb3 hb3' hown2 hownX hat4
      go_wp2
      go_roundw
      case rel=>exact ⟨k+1,q4,some ⟨g4,0,none⟩,Y++[x,y],by omega,by go_num,by rw [HLE.out],by rw [HLE.out];omega,HY2,hownN,hb4⟩
      case measure=>simp [intOf];omega
     ·have hkX:k=X.length:=by omega
      clear hownX
      have hE:Hid (Y=Zfs V a (s+1)):=by
       have:=Z3n V a (s-a) (by omega)
       rw [show a+(s-a)=s by omega,<-hXe.out] at this
       rw [hYe.out,hkX,List.take_length,this];exact hid rfl
      have hYl:Y.length<=256:=by
       rw [hE.out,Zms]
       exact Nat.pow_le_pow_right (by decide) (by omega:s+1-a<=8)
      have hownN:=Za4 hown2 hz1
      clear hXe hYe hkX hown2
      go_wp2
      go_roundw
      case rel=>exact ⟨s+1,q2,p2,Y,by omega,by omega,by go_num,rfl,hYl,hE,hownN,hw12⟩
      case measure=>simp [intOf];omega
   ·have hsb:s=b:=by omega
    subst hsb
    go_wp2
    go_ret
    rw [<-hXe.out]
    refine ⟨p,q,?_,?_,hw1⟩
    ·rw [Zh0];rfl
    ·rw [Zh0];exact hown
 ·rw [Zlg hcond]
  cases hR:Zan hi lo n
  ·rw [hR] at hr
   have HR:=hid hr
   clear hr hR hcond
   go_enter Tryz.func45,Tryz.ntmps45
   go_wp2_with fail
   refine (HR.out _).mono ?_
   rintro e0 w0 ⟨rfl,hb0⟩
   have hw0:Below w.heap.size w w0:=by
    refine Below.trans ?_ (hb0.mono ?_)
    ·go_grown
    ·go_size
   have c2:w0.cell? ⟨w.heap.size,2,none⟩=some (.int .i64 n):=by
    rw [hb0.cell (by simp<;>omega)]
    first|assumption|(simp [go_sem];done)|(simp [go_sem, *];done)
   go_wp2
   all_goals
    go_ret
    exact ⟨none,0,rfl,World.ownsRow_nil _ _ _ _,by go_grown⟩
  ·have hrv:=(Za1 hi lo n hb).1 hR
   rw [hR] at hr
   have HR:=hid hr
   have n0:0<=n:=hrv.1
   have n1:n<=128:=hrv.2.1
   have hc2:n<=m->m<=128->8<m-n:=fun h1 h2=>by
    have:¬(m-n<=8):=fun h3=>hcond ⟨hR,h1,h2,h3⟩
    omega
   clear hr hR hcond hrv
   by_cases h1:n<=m
   ·by_cases h2:m<=128
    ·have h3:=hc2 h1 h2
     clear hc2
     go_enter Tryz.func45,Tryz.ntmps45
     go_wp2_with fail
     refine (HR.out _).mono ?_
     rintro e0 w0 ⟨rfl,hb0⟩
     have hw0:Below w.heap.size w w0:=by
      refine Below.trans ?_ (hb0.mono ?_)
      ·go_grown
      ·go_size
     have c2:w0.cell? ⟨w.heap.size,2,none⟩=some (.int .i64 n):=by
      rw [hb0.cell (by simp<;>omega)]
      first|assumption|(simp [go_sem];done)|(simp [go_sem, *];done)
     go_wp2
     all_goals
      go_ret
      exact ⟨none,0,rfl,World.ownsRow_nil _ _ _ _,by go_grown⟩
    ·clear hc2
     go_enter Tryz.func45,Tryz.ntmps45
     go_wp2_with fail
     refine (HR.out _).mono ?_
     rintro e0 w0 ⟨rfl,hb0⟩
     have hw0:Below w.heap.size w w0:=by
      refine Below.trans ?_ (hb0.mono ?_)
      ·go_grown
      ·go_size
     have c2:w0.cell? ⟨w.heap.size,2,none⟩=some (.int .i64 n):=by
      rw [hb0.cell (by simp<;>omega)]
      first|assumption|(simp [go_sem];done)|(simp [go_sem, *];done)
     go_wp2
     all_goals
      go_ret
      exact ⟨none,0,rfl,World.ownsRow_nil _ _ _ _,by go_grown⟩
   ·clear hc2
    go_enter Tryz.func45,Tryz.ntmps45
    go_wp2_with fail
    refine (HR.out _).mono ?_
    rintro e0 w0 ⟨rfl,hb0⟩
    have hw0:Below w.heap.size w w0:=by
     refine Below.trans ?_ (hb0.mono ?_)
     ·go_grown
     ·go_size
    have c2:w0.cell? ⟨w.heap.size,2,none⟩=some (.int .i64 n):=by
     rw [hb0.cell (by simp<;>omega)]
     first|assumption|(simp [go_sem];done)|(simp [go_sem, *];done)
    go_wp2
    all_goals
     go_ret
     exact ⟨none,0,rfl,World.ownsRow_nil _ _ _ _,by go_grown⟩
theorem Z3i (lo hi f s:Nat) (k:Int) (C:List Nat) (h l:Nat) (n:Int) (w:World) (H:Fil w lo hi f s k C) (wh:W64 h) (wl:W64 l) :
 Calls Tryz.prog 103 #[.pointer (some ⟨f,0,none⟩),.agg #[.int .u64 h,.int .u64 l,.int .i64 n]] w fun e w'=>e = .returned (.tuple #[]) /\
  Fil w' lo hi f s k (addL C (plc s h l n k C.length))/\Touch (In lo hi) w w':=by
 have hP:∀wx,Fil wx lo hi f s k C->Calls Tryz.prog 88 #[.pointer (some ⟨f,0,none⟩),.agg #[.int .u64 h,.int .u64 l,.int .i64 n]] wx fun e w'=>∃p c,e = .returned (.slice p (plc s h l n k C.length).length c) /\
  w'.ownsRow wx.heap.size 3 1 (.slice p (plc s h l n k C.length).length c) (plc s h l n k C.length).length (ics (plc s h l n k C.length))/\Below wx.heap.size wx w':=fun wx H=>Zgg lo hi f s k C h l n wx H wh wl
 have hL16:=Zqv s h l n k C.length
 generalize plc s h l n k C.length=L at *
 have HP:=hid hP
 have HC:=hid H
 clear hP H
 go_enter Tryz.func103,Tryz.ntmps103
 go_wp2_with fail
 refine (HP.out _ (HC.out.below (by go_grown))).mono ?_
 rintro e w1 ⟨p,c,rfl,hown,hb1⟩
 have hw1:Below w.heap.size w w1:=Below.trans (by go_grown) (hb1.mono (by go_size))
 have hown2:=Za4 (B':=w.heap.size) hown (by go_size)
 have HC1:=hid (HC.out.below hw1)
 have htop:hi<=w.heap.size:=by
  obtain ⟨g1,h1,g2,h2,H⟩:=HC.out
  exact H.top
 obtain ⟨g1,h1,g2,h2,H⟩:=HC1.out
 clear hown hb1 HC1 HP
 go_wp2
 go_loopw [10] (fun i10 wr=>∃i:Nat,i<=L.length/\i10 = .int .i64 i/\FilB wr lo hi f g1 h1 g2 h2 s k (addL C (L.take i)) (onsC (addL C (L.take i)))/\wr.ownsRow w.heap.size 3 1 (.slice p L.length c) L.length (ics L)/\Touch (In lo hi) w wr) (fun i10 _=>L.length-(intOf i10).toNat)
 case atStart=>exact ⟨0,Nat.zero_le _,rfl,H,hown2,Touch.of_below hw1 (fun k h1 h2=>absurd h1 (by omega))⟩
 case round=>
  clear H hown2 hw1
  obtain ⟨i,hi2,rfl,H,hown,ht⟩:=hrel
  have hz:=ht.size
  by_cases hlt:i<L.length
  ·obtain ⟨gr,orr,rfl,hgr,d0⟩:=(IRow.of_own hown).at hlt
   have hsn:=Z0s C L i hlt
   have hlow:=(hown.lt gr rfl).1
   generalize hx:L[i]=x at *
   generalize hA:addL C (L.take i)=A at *
   have HSN:=hid hsn
   clear hx hA hsn
   have c2:=H.c2
   have hl:=H.lt
   have HH:=hid H
   have HO:=hid hown
   clear H hown
   go_wp2_with fail
   refine (Z7m _ _ _ _ x _ HH.out.cs).mono ?_
   rintro e w2 ⟨rfl,hN2,hg2⟩
   obtain ⟨H2,ht2⟩:=HH.out.turnC hN2 (Zqc _ _) hg2
   have hown2:=Touch.own HO.out ht2 (fun j e hj=>by cases e;exact absurd (show gr<hi from hj.2) (by omega))
   have ht3:=ht.trans ht2
   have c3:=H2.c3
   have hl2:=H2.lt
   have HH2:=hid H2
   have HO2:=hid hown2
   clear H2 hown2 hN2 hg2 ht2 ht c2
   go_wp2_with fail
   refine (Zt1 _ _ _ _ x _ _ HH2.out.bs).mono ?_
   rintro e w3 ⟨rfl,hN3,hg3⟩
   obtain ⟨H3,ht4⟩:=HH2.out.turnD hN3 (Zsg _ _ _) hg3
   have hown3:=Touch.own HO2.out ht4 (fun j e hj=>by cases e;exact absurd (show gr<hi from hj.2) (by omega))
   have ht5:=ht3.trans ht4
   rw [Z72,<-HSN.out] at H3
   clear hN3 hg3 ht3 ht4
   go_wp2
   go_roundw
   case rel=>exact ⟨i+1,by omega,by go_num,H3,hown3,ht5⟩
   case measure=>simp [intOf];omega
  ·go_wp2
   go_end0
   rw [List.take_of_length_le (by omega)] at H
   exact ⟨rfl,⟨_,_,_,_,H⟩,ht⟩
end Go.Proofs.YtgfjmgebecmbiaaGreat

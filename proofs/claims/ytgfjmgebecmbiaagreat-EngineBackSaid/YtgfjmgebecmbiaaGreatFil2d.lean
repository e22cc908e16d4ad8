/-
  What New of a counting filter makes. No condition but those that stand in each.
-/
import Derived.Test.YtgfjmgebecmbiaaGreatW12b
import Derived.Test.YtgfjmgebecmbiaaGreatReg6
import Derived.Test.YtgfjmgebecmbiaaGreatReg2
import Derived.Test.YtgfjmgebecmbiaaGreatRT1
import Derived.Test.YtgfjmgebecmbiaaGreatW6b
import Derived.Deep.RegionHeld3
import Derived.Deep.AppendLies
set_option linter.unusedSimpArgs false
set_option linter.unusedVariables false
namespace Go.Proofs.YtgfjmgebecmbiaaGreat
open Go.RowKit Go.Sort M
theorem find_some {l:List Rt} {k:Ky} {i:Nat} (h:findS l k=some i):∃hi:i<l.length,(l.find? fun r=>decide (r.k=k))=some l[i]:=by
 unfold findS at h
 rw [List.findIdx?_eq_some_iff_getElem] at h
 obtain ⟨hi,h1,h2⟩:=h
 refine ⟨hi,?_⟩
 rw [List.find?_eq_some_iff_getElem]
 exact ⟨h1,i,hi,rfl,fun j hj=>by have:=h2 j hj;simpa using this⟩
theorem find_none {l:List Rt} {k:Ky} (h:findS l k=none):(l.find? fun r=>decide (r.k=k))=none:=by
 unfold findS at h
 rw [List.findIdx?_eq_none_iff] at h
 rw [List.find?_eq_none]
 intro x hx
 rw [h x hx]
 decide
set_option maxRecDepth 100000 in
set_option maxHeartbeats 2000000 in
theorem get12_first (t g:Nat) (v:Value) (T:Tab) (m x:Int) (k:Ky) (w:World) (H:CT w t g v T m) (h:Num T) (hk:k.good) (hs:Sorted T.st) (hf:T.st.length<1048576) (h1:getC (T.bk (T.x1 k)) k=some x) :
 Calls Tryz.prog 68 #[.pointer (some ⟨t,0,none⟩),kyV k] w fun e w'=>∃p c,e = .returned (.tuple #[.int .i64 x,.bool true,.slice p 1 c])/\w'.ownsRow w.heap.size 3 1 (.slice p 1 c) 1 (ics [(T.x1 k:Int)])/\Below w.heap.size w w':=by
 have HN:=Lib.hid (fun w H=>none_any t g v T m w H h)
 have HT:=Lib.hid (fun w H=>two_any t g v T m k w H h hk)
 have HG:=fun x (hx:x<T.B.length) w (H:CT w t g v T m)=>get11_any g (x*20) (T.bk x) k w (H.tb.bk x hx)
 have HS:=Lib.hid (fun w H=>stashed_any t g v T m k w H hs hf)
 have HH:=Lib.hid H
 have hl:=H.tb.tlt
 have HG1:=HG _ (h.x1_lt k)
 have HG2:=HG _ (h.x2_lt k)
 rw [h1] at HG1
 try rw [h2] at HG2
 have HG1:=Lib.hid HG1
 have HG2:=Lib.hid HG2
 have hx1:=h.x1_lt k
 have hx2:=h.x2_lt k
 generalize hX1:T.x1 k=x1 at *
 generalize hX2:T.x2 k=x2 at *
 clear hX1 hX2 HG
 clear H h hs h1
 try clear h2
 unfold kyV at *
 simp only [Option.getD_some,Option.isSome_some,Option.getD_none,Option.isSome_none] at *
 go_enter Tryz.func68,Tryz.ntmps68
 go_wp2_with fail
 refine (HN.out _ (HH.out.below (by go_grown))).mono ?_
 rintro e w1 ⟨rfl,hb1⟩
 have hw1:Below w.heap.size w w1:=Below.trans (by go_grown) (hb1.mono (by go_size))
 have d0:w1.cell? ⟨w.heap.size,0,none⟩=some (.int .u64 (k.h:Int)):=by
  rw [hb1.cell (by simp<;>omega)]
  first|assumption|(simp [go_sem];done)|(simp [go_sem, *];done)
 have d1:w1.cell? ⟨w.heap.size,1,none⟩=some (.int .u64 (k.l:Int)):=by
  rw [hb1.cell (by simp<;>omega)]
  first|assumption|(simp [go_sem];done)|(simp [go_sem, *];done)
 have d2:w1.cell? ⟨w.heap.size,2,none⟩=some (.int .i64 k.n):=by
  rw [hb1.cell (by simp<;>omega)]
  first|assumption|(simp [go_sem];done)|(simp [go_sem, *];done)
 have hz1:w.heap.size<w1.heap.size:=by
  have hs:=hb1.size
  try simp only [World.size_alloc,World.size_setCell] at hs
  omega
 clear hb1
 go_wp2_with fail
 refine (HT.out _ (HH.out.below hw1)).mono ?_
 rintro e w2 ⟨rfl,hb2⟩
 have hw2:=hw1.trans (hb2.mono hw1.size)
 have HH2:=Lib.hid (HH.out.below hw2)
 have c1:=HH2.out.tb.c1
 have hl2:=HH2.out.tb.tlt
 have d0:=(hb2.cell (p:=⟨w.heap.size,0,none⟩) hz1).trans d0
 have d1:=(hb2.cell (p:=⟨w.heap.size,1,none⟩) hz1).trans d1
 have d2:=(hb2.cell (p:=⟨w.heap.size,2,none⟩) hz1).trans d2
 have hz2:=Nat.lt_of_lt_of_le hz1 hb2.size
 have i1:(0:Int)<=(x1:Int):=by omega
 have i2:(x1:Int)<(T.B.length:Int):=by omega
 clear hb2
 go_wp2_with fail
 have kg:=cell_grow
 refine region_whole (by kernel_rfl) (by kernel_rfl) ?_
 repeat (any_goals (first|go_big_quiet_step ((exact Calls.regrown_of (HG1.out _ (HH2.out.below (below_regrown _ _ _)))))|quiet_step ((exact Calls.regrown_of (HG1.out _ (HH2.out.below (below_regrown _ _ _)))))))
 refine wpQuiet_nil ?_
 clear kg
 intro w3 hb3
 obtain ⟨hc3,hf3⟩:=bcell hb3
 have HH3:=Lib.hid (HH2.out.below hb3)
 have hw3:=hw2.trans (hb3.mono hw2.size)
 clear hc3 hf3 hb3
 have hz3:=hw3.size
 go_wp2
 go_ret3
 refine ⟨_,_,rfl,own_made (B:=w.heap.size) hz3 (by exact heap_alloc_new w3 _) (by omega) (by unfold maxLen;omega) rfl rfl,by go_grown⟩
set_option maxRecDepth 100000 in
set_option maxHeartbeats 2000000 in
theorem get12_second (t g:Nat) (v:Value) (T:Tab) (m x:Int) (k:Ky) (w:World) (H:CT w t g v T m) (h:Num T) (hk:k.good) (hs:Sorted T.st) (hf:T.st.length<1048576) (h1:getC (T.bk (T.x1 k)) k=none) (h2:getC (T.bk (T.x2 k)) k=some x) :
 Calls Tryz.prog 68 #[.pointer (some ⟨t,0,none⟩),kyV k] w fun e w'=>∃p c,e = .returned (.tuple #[.int .i64 x,.bool true,.slice p 2 c])/\w'.ownsRow w.heap.size 3 1 (.slice p 2 c) 2 (ics [(T.x1 k:Int),(T.x2 k:Int)])/\Below w.heap.size w w':=by
 have HN:=Lib.hid (fun w H=>none_any t g v T m w H h)
 have HT:=Lib.hid (fun w H=>two_any t g v T m k w H h hk)
 have HG:=fun x (hx:x<T.B.length) w (H:CT w t g v T m)=>get11_any g (x*20) (T.bk x) k w (H.tb.bk x hx)
 have HS:=Lib.hid (fun w H=>stashed_any t g v T m k w H hs hf)
 have HH:=Lib.hid H
 have hl:=H.tb.tlt
 have HG1:=HG _ (h.x1_lt k)
 have HG2:=HG _ (h.x2_lt k)
 rw [h1] at HG1
 try rw [h2] at HG2
 have HG1:=Lib.hid HG1
 have HG2:=Lib.hid HG2
 have hx1:=h.x1_lt k
 have hx2:=h.x2_lt k
 generalize hX1:T.x1 k=x1 at *
 generalize hX2:T.x2 k=x2 at *
 clear hX1 hX2 HG
 clear H h hs h1
 try clear h2
 unfold kyV at *
 simp only [Option.getD_some,Option.isSome_some,Option.getD_none,Option.isSome_none] at *
 go_enter Tryz.func68,Tryz.ntmps68
 go_wp2_with fail
 refine (HN.out _ (HH.out.below (by go_grown))).mono ?_
 rintro e w1 ⟨rfl,hb1⟩
 have hw1:Below w.heap.size w w1:=Below.trans (by go_grown) (hb1.mono (by go_size))
 have d0:w1.cell? ⟨w.heap.size,0,none⟩=some (.int .u64 (k.h:Int)):=by
  rw [hb1.cell (by simp<;>omega)]
  first|assumption|(simp [go_sem];done)|(simp [go_sem, *];done)
 have d1:w1.cell? ⟨w.heap.size,1,none⟩=some (.int .u64 (k.l:Int)):=by
  rw [hb1.cell (by simp<;>omega)]
  first|assumption|(simp [go_sem];done)|(simp [go_sem, *];done)
 have d2:w1.cell? ⟨w.heap.size,2,none⟩=some (.int .i64 k.n):=by
  rw [hb1.cell (by simp<;>omega)]
  first|assumption|(simp [go_sem];done)|(simp [go_sem, *];done)
 have hz1:w.heap.size<w1.heap.size:=by
  have hs:=hb1.size
  try simp only [World.size_alloc,World.size_setCell] at hs
  omega
 clear hb1
 go_wp2_with fail
 refine (HT.out _ (HH.out.below hw1)).mono ?_
 rintro e w2 ⟨rfl,hb2⟩
 have hw2:=hw1.trans (hb2.mono hw1.size)
 have HH2:=Lib.hid (HH.out.below hw2)
 have c1:=HH2.out.tb.c1
 have hl2:=HH2.out.tb.tlt
 have d0:=(hb2.cell (p:=⟨w.heap.size,0,none⟩) hz1).trans d0
 have d1:=(hb2.cell (p:=⟨w.heap.size,1,none⟩) hz1).trans d1
 have d2:=(hb2.cell (p:=⟨w.heap.size,2,none⟩) hz1).trans d2
 have hz2:=Nat.lt_of_lt_of_le hz1 hb2.size
 have i1:(0:Int)<=(x1:Int):=by omega
 have i2:(x1:Int)<(T.B.length:Int):=by omega
 clear hb2
 go_wp2_with fail
 have kg:=cell_grow
 refine region_whole (by kernel_rfl) (by kernel_rfl) ?_
 repeat (any_goals (first|go_big_quiet_step ((exact Calls.regrown_of (HG1.out _ (HH2.out.below (below_regrown _ _ _)))))|quiet_step ((exact Calls.regrown_of (HG1.out _ (HH2.out.below (below_regrown _ _ _)))))))
 refine wpQuiet_nil ?_
 clear kg
 intro w3 hb3
 obtain ⟨hc3,hf3⟩:=bcell hb3
 have HH3:=Lib.hid (HH2.out.below hb3)
 have hw3:=hw2.trans (hb3.mono hw2.size)
 have hz3:=Nat.lt_of_lt_of_le hz2 hb3.size
 have hl3:=Nat.lt_of_lt_of_le hl2 hb3.size
 have c1:=(hc3 _ _ hl2).trans c1
 have d0:=(hc3 _ _ hz2).trans d0
 have d1:=(hc3 _ _ hz2).trans d1
 have d2:=(hc3 _ _ hz2).trans d2
 have j1:(0:Int)<=(x2:Int):=by omega
 have j2:(x2:Int)<(T.B.length:Int):=by omega
 clear hc3 hf3 hb3 hl2 hz2 HH2 hw2
 go_wp2_with fail
 generalize hW4:World.alloc w3 _=w4 at *
 have hb34:Below w3.heap.size w3 w4:=by rw [<-hW4];go_grown
 have hw4:=hw3.trans (hb34.mono hw3.size)
 have hg4:w4.heap[w3.heap.size]? = some (.cells #[.int .i64 (x1:Int),.int .i64 (x2:Int)] 3 (0,0)):=by rw [<-hW4];exact heap_alloc_new w3 _
 have HH4:=Lib.hid (HH3.out.below hb34)
 have c1:=(hb34.cell (p:=⟨t,1,none⟩) hl3).trans c1
 have d0:=(hb34.cell (p:=⟨w.heap.size,0,none⟩) hz3).trans d0
 have d1:=(hb34.cell (p:=⟨w.heap.size,1,none⟩) hz3).trans d1
 have d2:=(hb34.cell (p:=⟨w.heap.size,2,none⟩) hz3).trans d2
 have hz4:=Nat.lt_of_lt_of_le hz3 hb34.size
 have hl4:=Nat.lt_of_lt_of_le hl3 hb34.size
 have hg4l:=(Array.getElem?_eq_some_iff.1 hg4).1
 clear hW4 hb34 HH3
 have kg:=cell_grow
 refine region_whole (by kernel_rfl) (by kernel_rfl) ?_
 repeat (any_goals (first|go_big_quiet_step ((exact Calls.regrown_of (HG2.out _ (HH4.out.below (below_regrown _ _ _)))))|quiet_step ((exact Calls.regrown_of (HG2.out _ (HH4.out.below (below_regrown _ _ _)))))))
 refine wpQuiet_nil ?_
 clear kg
 intro w5 hb5
 obtain ⟨hc5,hf5⟩:=bcell hb5
 have HH5:=Lib.hid (HH4.out.below hb5)
 have hw5:=hw4.trans (hb5.mono hw4.size)
 have hg5:=(hb5.block _ hg4l).trans hg4
 have hz5:=hw3.size
 have hG5:=Lib.hid hg5
 clear hc5 hf5 hb5 hg4 hg5
 go_wp2
 go_ret3
 refine ⟨_,_,rfl,own_made (B:=w.heap.size) hz5 hG5.out (by omega) (by unfold maxLen;omega) rfl rfl,by go_grown⟩
set_option maxRecDepth 100000 in
set_option maxHeartbeats 2000000 in
theorem get12_none (t g:Nat) (v:Value) (T:Tab) (m:Int) (k:Ky) (w:World) (H:CT w t g v T m) (h:Num T) (hk:k.good) (hs:Sorted T.st) (hf:T.st.length<1048576) (h1:getC (T.bk (T.x1 k)) k=none) (h2:getC (T.bk (T.x2 k)) k=none) (h3:findS T.st k=none) :
 Calls Tryz.prog 68 #[.pointer (some ⟨t,0,none⟩),kyV k] w fun e w'=>∃p c,e = .returned (.tuple #[.int .i64 0,.bool false,.slice p 2 c])/\w'.ownsRow w.heap.size 3 1 (.slice p 2 c) 2 (ics [(T.x1 k:Int),(T.x2 k:Int)])/\Below w.heap.size w w':=by
 have HN:=Lib.hid (fun w H=>none_any t g v T m w H h)
 have HT:=Lib.hid (fun w H=>two_any t g v T m k w H h hk)
 have HG:=fun x (hx:x<T.B.length) w (H:CT w t g v T m)=>get11_any g (x*20) (T.bk x) k w (H.tb.bk x hx)
 have HS:=Lib.hid (fun w H=>stashed_any t g v T m k w H hs hf)
 have HH:=Lib.hid H
 have hl:=H.tb.tlt
 have HG1:=HG _ (h.x1_lt k)
 have HG2:=HG _ (h.x2_lt k)
 rw [h1] at HG1
 try rw [h2] at HG2
 have HG1:=Lib.hid HG1
 have HG2:=Lib.hid HG2
 have hx1:=h.x1_lt k
 have hx2:=h.x2_lt k
 generalize hX1:T.x1 k=x1 at *
 generalize hX2:T.x2 k=x2 at *
 clear hX1 hX2 HG
 rw [stI_none h3] at HS
 have hge:¬(0:Int) <= -1:=by omega
 clear H h hs h1
 try clear h2
 unfold kyV at *
 simp only [Option.getD_some,Option.isSome_some,Option.getD_none,Option.isSome_none] at *
 go_enter Tryz.func68,Tryz.ntmps68
 go_wp2_with fail
 refine (HN.out _ (HH.out.below (by go_grown))).mono ?_
 rintro e w1 ⟨rfl,hb1⟩
 have hw1:Below w.heap.size w w1:=Below.trans (by go_grown) (hb1.mono (by go_size))
 have d0:w1.cell? ⟨w.heap.size,0,none⟩=some (.int .u64 (k.h:Int)):=by
  rw [hb1.cell (by simp<;>omega)]
  first|assumption|(simp [go_sem];done)|(simp [go_sem, *];done)
 have d1:w1.cell? ⟨w.heap.size,1,none⟩=some (.int .u64 (k.l:Int)):=by
  rw [hb1.cell (by simp<;>omega)]
  first|assumption|(simp [go_sem];done)|(simp [go_sem, *];done)
 have d2:w1.cell? ⟨w.heap.size,2,none⟩=some (.int .i64 k.n):=by
  rw [hb1.cell (by simp<;>omega)]
  first|assumption|(simp [go_sem];done)|(simp [go_sem, *];done)
 have hz1:w.heap.size<w1.heap.size:=by
  have hs:=hb1.size
  try simp only [World.size_alloc,World.size_setCell] at hs
  omega
 clear hb1
 go_wp2_with fail
 refine (HT.out _ (HH.out.below hw1)).mono ?_
 rintro e w2 ⟨rfl,hb2⟩
 have hw2:=hw1.trans (hb2.mono hw1.size)
 have HH2:=Lib.hid (HH.out.below hw2)
 have c1:=HH2.out.tb.c1
 have hl2:=HH2.out.tb.tlt
 have d0:=(hb2.cell (p:=⟨w.heap.size,0,none⟩) hz1).trans d0
 have d1:=(hb2.cell (p:=⟨w.heap.size,1,none⟩) hz1).trans d1
 have d2:=(hb2.cell (p:=⟨w.heap.size,2,none⟩) hz1).trans d2
 have hz2:=Nat.lt_of_lt_of_le hz1 hb2.size
 have i1:(0:Int)<=(x1:Int):=by omega
 have i2:(x1:Int)<(T.B.length:Int):=by omega
 clear hb2
 go_wp2_with fail
 have kg:=cell_grow
 refine region_whole (by kernel_rfl) (by kernel_rfl) ?_
 repeat (any_goals (first|go_big_quiet_step ((exact Calls.regrown_of (HG1.out _ (HH2.out.below (below_regrown _ _ _)))))|quiet_step ((exact Calls.regrown_of (HG1.out _ (HH2.out.below (below_regrown _ _ _)))))))
 refine wpQuiet_nil ?_
 clear kg
 intro w3 hb3
 obtain ⟨hc3,hf3⟩:=bcell hb3
 have HH3:=Lib.hid (HH2.out.below hb3)
 have hw3:=hw2.trans (hb3.mono hw2.size)
 have hz3:=Nat.lt_of_lt_of_le hz2 hb3.size
 have hl3:=Nat.lt_of_lt_of_le hl2 hb3.size
 have c1:=(hc3 _ _ hl2).trans c1
 have d0:=(hc3 _ _ hz2).trans d0
 have d1:=(hc3 _ _ hz2).trans d1
 have d2:=(hc3 _ _ hz2).trans d2
 have j1:(0:Int)<=(x2:Int):=by omega
 have j2:(x2:Int)<(T.B.length:Int):=by omega
 clear hc3 hf3 hb3 hl2 hz2 HH2 hw2
 go_wp2_with fail
 generalize hW4:World.alloc w3 _=w4 at *
 have hb34:Below w3.heap.size w3 w4:=by rw [<-hW4];go_grown
 have hw4:=hw3.trans (hb34.mono hw3.size)
 have hg4:w4.heap[w3.heap.size]? = some (.cells #[.int .i64 (x1:Int),.int .i64 (x2:Int)] 3 (0,0)):=by rw [<-hW4];exact heap_alloc_new w3 _
 have HH4:=Lib.hid (HH3.out.below hb34)
 have c1:=(hb34.cell (p:=⟨t,1,none⟩) hl3).trans c1
 have d0:=(hb34.cell (p:=⟨w.heap.size,0,none⟩) hz3).trans d0
 have d1:=(hb34.cell (p:=⟨w.heap.size,1,none⟩) hz3).trans d1
 have d2:=(hb34.cell (p:=⟨w.heap.size,2,none⟩) hz3).trans d2
 have hz4:=Nat.lt_of_lt_of_le hz3 hb34.size
 have hl4:=Nat.lt_of_lt_of_le hl3 hb34.size
 have hg4l:=(Array.getElem?_eq_some_iff.1 hg4).1
 clear hW4 hb34 HH3
 have kg:=cell_grow
 refine region_whole (by kernel_rfl) (by kernel_rfl) ?_
 repeat (any_goals (first|go_big_quiet_step ((exact Calls.regrown_of (HG2.out _ (HH4.out.below (below_regrown _ _ _)))))|quiet_step ((exact Calls.regrown_of (HG2.out _ (HH4.out.below (below_regrown _ _ _)))))))
 refine wpQuiet_nil ?_
 clear kg
 intro w5 hb5
 obtain ⟨hc5,hf5⟩:=bcell hb5
 have HH5:=Lib.hid (HH4.out.below hb5)
 have hw5:=hw4.trans (hb5.mono hw4.size)
 have hg5:=(hb5.block _ hg4l).trans hg4
 have hl5:=HH5.out.tb.tlt
 have d0:=(hc5 _ _ hz4).trans d0
 have d1:=(hc5 _ _ hz4).trans d1
 have d2:=(hc5 _ _ hz4).trans d2
 have hz5:=Nat.lt_of_lt_of_le hz4 hb5.size
 have hg5l:=Nat.lt_of_lt_of_le hg4l hb5.size
 have hG5:=Lib.hid hg5
 clear hc5 hf5 hb5 hg4 hg5
 go_wp2_with fail
 refine (HS.out _ HH5.out).mono ?_
 rintro e w6 ⟨rfl,hb6⟩
 have HH6:=Lib.hid (HH5.out.below hb6)
 have hw6:=hw5.trans (hb6.mono hw5.size)
 have hG6:=Lib.hid ((hb6.block _ hg5l).trans hG5.out)
 have hz6:=Nat.lt_of_lt_of_le hz5 hb6.size
 have hl6:=HH6.out.tb.tlt
 have c2:=HH6.out.tb.c2
 have hz7:=hw3.size
 go_wp2
 go_ret3
 refine ⟨_,_,rfl,own_made (B:=w.heap.size) hz7 hG6.out (by omega) (by unfold maxLen;omega) rfl rfl,by go_grown⟩
set_option maxRecDepth 100000 in
set_option maxHeartbeats 2000000 in
theorem get12_stash (t g:Nat) (v:Value) (T:Tab) (m:Int) (k:Ky) (i:Nat) (hi:i<T.st.length) (w:World) (H:CT w t g v T m) (h:Num T) (hk:k.good) (hs:Sorted T.st) (hf:T.st.length<1048576) (h1:getC (T.bk (T.x1 k)) k=none) (h2:getC (T.bk (T.x2 k)) k=none) (h3:findS T.st k=some i) :
 Calls Tryz.prog 68 #[.pointer (some ⟨t,0,none⟩),kyV k] w fun e w'=>∃p c,e = .returned (.tuple #[.int .i64 T.st[i].v,.bool true,.slice p 2 c])/\w'.ownsRow w.heap.size 3 1 (.slice p 2 c) 2 (ics [(T.x1 k:Int),(T.x2 k:Int)])/\Below w.heap.size w w':=by
 obtain ⟨pv,cv,hv⟩:=own_slice H.tb.own
 have ho:=H.tb.own
 rw [hv] at ho
 obtain ⟨gr,o,rfl,hgr,r0,r1,r2,r3⟩:=(Row.of_own ho).rt hi
 have HR:=Lib.hid r3
 have HV:=Lib.hid hv
 clear r0 r1 r2 r3 ho hv
 have HN:=Lib.hid (fun w H=>none_any t g v T m w H h)
 have HT:=Lib.hid (fun w H=>two_any t g v T m k w H h hk)
 have HG:=fun x (hx:x<T.B.length) w (H:CT w t g v T m)=>get11_any g (x*20) (T.bk x) k w (H.tb.bk x hx)
 have HS:=Lib.hid (fun w H=>stashed_any t g v T m k w H hs hf)
 have HH:=Lib.hid H
 have hl:=H.tb.tlt
 have HG1:=HG _ (h.x1_lt k)
 have HG2:=HG _ (h.x2_lt k)
 rw [h1] at HG1
 try rw [h2] at HG2
 have HG1:=Lib.hid HG1
 have HG2:=Lib.hid HG2
 have hx1:=h.x1_lt k
 have hx2:=h.x2_lt k
 generalize hX1:T.x1 k=x1 at *
 generalize hX2:T.x2 k=x2 at *
 clear hX1 hX2 HG
 rw [stI_some h3] at HS
 have hge:(0:Int)<=(i:Int):=by omega
 have hii:(i:Int)<(T.st.length:Int):=by omega
 generalize hX:T.st[i].v=x at *
 clear hX
 clear H h hs h1
 try clear h2
 unfold kyV at *
 simp only [Option.getD_some,Option.isSome_some,Option.getD_none,Option.isSome_none] at *
 go_enter Tryz.func68,Tryz.ntmps68
 go_wp2_with fail
 refine (HN.out _ (HH.out.below (by go_grown))).mono ?_
 rintro e w1 ⟨rfl,hb1⟩
 have hw1:Below w.heap.size w w1:=Below.trans (by go_grown) (hb1.mono (by go_size))
 have d0:w1.cell? ⟨w.heap.size,0,none⟩=some (.int .u64 (k.h:Int)):=by
  rw [hb1.cell (by simp<;>omega)]
  first|assumption|(simp [go_sem];done)|(simp [go_sem, *];done)
 have d1:w1.cell? ⟨w.heap.size,1,none⟩=some (.int .u64 (k.l:Int)):=by
  rw [hb1.cell (by simp<;>omega)]
  first|assumption|(simp [go_sem];done)|(simp [go_sem, *];done)
 have d2:w1.cell? ⟨w.heap.size,2,none⟩=some (.int .i64 k.n):=by
  rw [hb1.cell (by simp<;>omega)]
  first|assumption|(simp [go_sem];done)|(simp [go_sem, *];done)
 have hz1:w.heap.size<w1.heap.size:=by
  have hs:=hb1.size
  try simp only [World.size_alloc,World.size_setCell] at hs
  omega
 clear hb1
 go_wp2_with fail
 refine (HT.out _ (HH.out.below hw1)).mono ?_
 rintro e w2 ⟨rfl,hb2⟩
 have hw2:=hw1.trans (hb2.mono hw1.size)
 have HH2:=Lib.hid (HH.out.below hw2)
 have c1:=HH2.out.tb.c1
 have hl2:=HH2.out.tb.tlt
 have d0:=(hb2.cell (p:=⟨w.heap.size,0,none⟩) hz1).trans d0
 have d1:=(hb2.cell (p:=⟨w.heap.size,1,none⟩) hz1).trans d1
 have d2:=(hb2.cell (p:=⟨w.heap.size,2,none⟩) hz1).trans d2
 have hz2:=Nat.lt_of_lt_of_le hz1 hb2.size
 have i1:(0:Int)<=(x1:Int):=by omega
 have i2:(x1:Int)<(T.B.length:Int):=by omega
 clear hb2
 go_wp2_with fail
 have kg:=cell_grow
 refine region_whole (by kernel_rfl) (by kernel_rfl) ?_
 repeat (any_goals (first|go_big_quiet_step ((exact Calls.regrown_of (HG1.out _ (HH2.out.below (below_regrown _ _ _)))))|quiet_step ((exact Calls.regrown_of (HG1.out _ (HH2.out.below (below_regrown _ _ _)))))))
 refine wpQuiet_nil ?_
 clear kg
 intro w3 hb3
 obtain ⟨hc3,hf3⟩:=bcell hb3
 have HH3:=Lib.hid (HH2.out.below hb3)
 have hw3:=hw2.trans (hb3.mono hw2.size)
 have hz3:=Nat.lt_of_lt_of_le hz2 hb3.size
 have hl3:=Nat.lt_of_lt_of_le hl2 hb3.size
 have c1:=(hc3 _ _ hl2).trans c1
 have d0:=(hc3 _ _ hz2).trans d0
 have d1:=(hc3 _ _ hz2).trans d1
 have d2:=(hc3 _ _ hz2).trans d2
 have j1:(0:Int)<=(x2:Int):=by omega
 have j2:(x2:Int)<(T.B.length:Int):=by omega
 clear hc3 hf3 hb3 hl2 hz2 HH2 hw2
 go_wp2_with fail
 generalize hW4:World.alloc w3 _=w4 at *
 have hb34:Below w3.heap.size w3 w4:=by rw [<-hW4];go_grown
 have hw4:=hw3.trans (hb34.mono hw3.size)
 have hg4:w4.heap[w3.heap.size]? = some (.cells #[.int .i64 (x1:Int),.int .i64 (x2:Int)] 3 (0,0)):=by rw [<-hW4];exact heap_alloc_new w3 _
 have HH4:=Lib.hid (HH3.out.below hb34)
 have c1:=(hb34.cell (p:=⟨t,1,none⟩) hl3).trans c1
 have d0:=(hb34.cell (p:=⟨w.heap.size,0,none⟩) hz3).trans d0
 have d1:=(hb34.cell (p:=⟨w.heap.size,1,none⟩) hz3).trans d1
 have d2:=(hb34.cell (p:=⟨w.heap.size,2,none⟩) hz3).trans d2
 have hz4:=Nat.lt_of_lt_of_le hz3 hb34.size
 have hl4:=Nat.lt_of_lt_of_le hl3 hb34.size
 have hg4l:=(Array.getElem?_eq_some_iff.1 hg4).1
 clear hW4 hb34 HH3
 have kg:=cell_grow
 refine region_whole (by kernel_rfl) (by kernel_rfl) ?_
 repeat (any_goals (first|go_big_quiet_step ((exact Calls.regrown_of (HG2.out _ (HH4.out.below (below_regrown _ _ _)))))|quiet_step ((exact Calls.regrown_of (HG2.out _ (HH4.out.below (below_regrown _ _ _)))))))
 refine wpQuiet_nil ?_
 clear kg
 intro w5 hb5
 obtain ⟨hc5,hf5⟩:=bcell hb5
 have HH5:=Lib.hid (HH4.out.below hb5)
 have hw5:=hw4.trans (hb5.mono hw4.size)
 have hg5:=(hb5.block _ hg4l).trans hg4
 have hl5:=HH5.out.tb.tlt
 have d0:=(hc5 _ _ hz4).trans d0
 have d1:=(hc5 _ _ hz4).trans d1
 have d2:=(hc5 _ _ hz4).trans d2
 have hz5:=Nat.lt_of_lt_of_le hz4 hb5.size
 have hg5l:=Nat.lt_of_lt_of_le hg4l hb5.size
 have hG5:=Lib.hid hg5
 clear hc5 hf5 hb5 hg4 hg5
 go_wp2_with fail
 refine (HS.out _ HH5.out).mono ?_
 rintro e w6 ⟨rfl,hb6⟩
 have HH6:=Lib.hid (HH5.out.below hb6)
 have hw6:=hw5.trans (hb6.mono hw5.size)
 have hG6:=Lib.hid ((hb6.block _ hg5l).trans hG5.out)
 have hz6:=Nat.lt_of_lt_of_le hz5 hb6.size
 have hl6:=HH6.out.tb.tlt
 have c2:=HH6.out.tb.c2
 have hz7:=hw3.size
 have hgr6:=Nat.lt_of_lt_of_le hgr hw6.size
 rw [HV.out] at c2
 have r3:=(hw6.cell (p:=⟨gr,o+i*4+3,none⟩) hgr).trans HR.out
 go_wp2
 go_ret3
 refine ⟨_,_,rfl,own_made (B:=w.heap.size) hz7 hG6.out (by omega) (by unfold maxLen;omega) rfl rfl,by go_grown⟩
theorem get12_any (t g:Nat) (v:Value) (T:Tab) (m:Int) (k:Ky) (w:World) (H:CT w t g v T m) (h:Num T) (hk:k.good) (hs:Sorted T.st) (hf:T.st.length<1048576) :
 Calls Tryz.prog 68 #[.pointer (some ⟨t,0,none⟩),kyV k] w fun e w'=>∃p c,e = .returned (.tuple #[.int .i64 ((getT T k).getD 0),.bool (getT T k).isSome,.slice p (readT T k).length c])/\w'.ownsRow w.heap.size 3 1 (.slice p (readT T k).length c) (readT T k).length (ics (readT T k))/\Below w.heap.size w w':=by
 unfold getT readT
 cases h1:getC (T.bk (T.x1 k)) k with
 | some x=>exact get12_first t g v T m x k w H h hk hs hf h1
 | none=>
  cases h2:getC (T.bk (T.x2 k)) k with
  | some x=>exact get12_second t g v T m x k w H h hk hs hf h1 h2
  | none=>
   cases h3:findS T.st k with
   | none=>
    rw [find_none h3]
    exact get12_none t g v T m k w H h hk hs hf h1 h2 h3
   | some i=>
    obtain ⟨hi,e⟩:=find_some h3
    rw [e]
    exact get12_stash t g v T m k i hi w H h hk hs hf h1 h2 h3
set_option maxHeartbeats 2000000 in
theorem fadd_any (lo hi f s:Nat) (k:Int) (C:List Nat) (h l:Nat) (n:Int) (w:World) (H:Fil w lo hi f s k C) (wh:W64 h) (wl:W64 l) :
 Calls Tryz.prog 103 #[.pointer (some ⟨f,0,none⟩),.agg #[.int .u64 h,.int .u64 l,.int .i64 n]] w fun e w'=>e = .returned (.tuple #[]) /\
  Fil w' lo hi f s k (addL C (plc s h l n k C.length))/\Touch (In lo hi) w w':=by
 have hP:∀wx,Fil wx lo hi f s k C->Calls Tryz.prog 88 #[.pointer (some ⟨f,0,none⟩),.agg #[.int .u64 h,.int .u64 l,.int .i64 n]] wx fun e w'=>∃p c,e = .returned (.slice p (plc s h l n k C.length).length c) /\
  w'.ownsRow wx.heap.size 3 1 (.slice p (plc s h l n k C.length).length c) (plc s h l n k C.length).length (ics (plc s h l n k C.length))/\Below wx.heap.size wx w':=fun wx H=>fplaces_any lo hi f s k C h l n wx H wh wl
 have hL16:=plc_len s h l n k C.length
 generalize plc s h l n k C.length=L at *
 have HP:=Lib.hid hP
 have HC:=Lib.hid H
 clear hP H
 go_enter Tryz.func103,Tryz.ntmps103
 go_wp2_with fail
 refine (HP.out _ (HC.out.below (by go_grown))).mono ?_
 rintro e w1 ⟨p,c,rfl,hown,hb1⟩
 have hw1:Below w.heap.size w w1:=Below.trans (by go_grown) (hb1.mono (by go_size))
 have hown2:=own_le (B':=w.heap.size) hown (by go_size)
 have HC1:=Lib.hid (HC.out.below hw1)
 have htop:hi<=w.heap.size:=by
  obtain ⟨g1,h1,g2,h2,H⟩:=HC.out
  exact H.top
 obtain ⟨g1,h1,g2,h2,H⟩:=HC1.out
 clear hown hb1 HC1 HP
 go_wp2
 go_loopw [10] (fun i10 wr=>∃i:Nat,i<=L.length/\i10 = .int .i64 i/\FilB wr lo hi f g1 h1 g2 h2 s k (addL C (L.take i)) (onsC (addL C (L.take i)))/\wr.ownsRow w.heap.size 3 1 (.slice p L.length c) L.length (ics L)/\Touch (In lo hi) w wr) (fun i10 _=>L.length-(intOf i10).toNat)
 case atStart=>exact ⟨0,Nat.zero_le _,rfl,H,hown2,Touch.of_below hw1 (fun k h1 h2=>absurd h1 (by omega))⟩
 case round=>
  clear H hown2 hw1
  obtain ⟨i,hi2,rfl,H,hown,ht⟩:=hrel
  have hz:=ht.size
  by_cases hlt:i<L.length
  ·obtain ⟨gr,orr,rfl,hgr,d0⟩:=(IRow.of_own hown).at hlt
   have hsn:=addL_snoc C L i hlt
   have hlow:=(hown.lt gr rfl).1
   generalize hx:L[i]=x at *
   generalize hA:addL C (L.take i)=A at *
   have HSN:=Lib.hid hsn
   clear hx hA hsn
   have c2:=H.c2
   have hl:=H.lt
   have HH:=Lib.hid H
   have HO:=Lib.hid hown
   clear H hown
   go_wp2_with fail
   refine (up_any _ _ _ _ x _ HH.out.cs).mono ?_
   rintro e w2 ⟨rfl,hN2,hg2⟩
   obtain ⟨H2,ht2⟩:=HH.out.turnC hN2 (upL_len _ _) hg2
   have hown2:=Touch.own HO.out ht2 (fun j e hj=>by cases e;exact absurd (show gr<hi from hj.2) (by omega))
   have ht3:=ht.trans ht2
   have c3:=H2.c3
   have hl2:=H2.lt
   have HH2:=Lib.hid H2
   have HO2:=Lib.hid hown2
   clear H2 hown2 hN2 hg2 ht2 ht c2
   go_wp2_with fail
   refine (bset_any _ _ _ _ x _ _ HH2.out.bs).mono ?_
   rintro e w3 ⟨rfl,hN3,hg3⟩
   obtain ⟨H3,ht4⟩:=HH2.out.turnD hN3 (setB_len _ _ _) hg3
   have hown3:=Touch.own HO2.out ht4 (fun j e hj=>by cases e;exact absurd (show gr<hi from hj.2) (by omega))
   have ht5:=ht3.trans ht4
   rw [ons_up,<-HSN.out] at H3
   clear hN3 hg3 ht3 ht4
   go_wp2
   go_roundw
   case rel=>exact ⟨i+1,by omega,by go_num,H3,hown3,ht5⟩
   case measure=>simp [intOf];omega
  ·go_wp2
   go_end0
   rw [List.take_of_length_le (by omega)] at H
   exact ⟨rfl,⟨_,_,_,_,H⟩,ht⟩
set_option maxHeartbeats 2000000 in
theorem frem_any (lo hi f s:Nat) (k:Int) (C:List Nat) (h l:Nat) (n:Int) (w:World) (H:Fil w lo hi f s k C) (wh:W64 h) (wl:W64 l) :
 Calls Tryz.prog 101 #[.pointer (some ⟨f,0,none⟩),.agg #[.int .u64 h,.int .u64 l,.int .i64 n]] w fun e w'=>e = .returned (.tuple #[]) /\
  Fil w' lo hi f s k (remL C (plc s h l n k C.length))/\Touch (In lo hi) w w':=by
 have hP:∀wx,Fil wx lo hi f s k C->Calls Tryz.prog 88 #[.pointer (some ⟨f,0,none⟩),.agg #[.int .u64 h,.int .u64 l,.int .i64 n]] wx fun e w'=>∃p c,e = .returned (.slice p (plc s h l n k C.length).length c) /\
  w'.ownsRow wx.heap.size 3 1 (.slice p (plc s h l n k C.length).length c) (plc s h l n k C.length).length (ics (plc s h l n k C.length))/\Below wx.heap.size wx w':=fun wx H=>fplaces_any lo hi f s k C h l n wx H wh wl
 have hL16:=plc_len s h l n k C.length
 generalize plc s h l n k C.length=L at *
 have HP:=Lib.hid hP
 have HC:=Lib.hid H
 clear hP H
 go_enter Tryz.func101,Tryz.ntmps101
 go_wp2_with fail
 refine (HP.out _ (HC.out.below (by go_grown))).mono ?_
 rintro e w1 ⟨p,c,rfl,hown,hb1⟩
 have hw1:Below w.heap.size w w1:=Below.trans (by go_grown) (hb1.mono (by go_size))
 have hown2:=own_le (B':=w.heap.size) hown (by go_size)
 have HC1:=Lib.hid (HC.out.below hw1)
 have htop:hi<=w.heap.size:=by
  obtain ⟨g1,h1,g2,h2,H⟩:=HC.out
  exact H.top
 obtain ⟨g1,h1,g2,h2,H⟩:=HC1.out
 clear hown hb1 HC1 HP
 go_wp2
 go_loopw [10] (fun i10 wr=>∃i:Nat,i<=L.length/\i10 = .int .i64 i/\FilB wr lo hi f g1 h1 g2 h2 s k (remL C (L.take i)) (onsC (remL C (L.take i)))/\wr.ownsRow w.heap.size 3 1 (.slice p L.length c) L.length (ics L)/\Touch (In lo hi) w wr) (fun i10 _=>L.length-(intOf i10).toNat)
 case atStart=>exact ⟨0,Nat.zero_le _,rfl,H,hown2,Touch.of_below hw1 (fun k h1 h2=>absurd h1 (by omega))⟩
 case round=>
  clear H hown2 hw1
  obtain ⟨i,hi2,rfl,H,hown,ht⟩:=hrel
  have hz:=ht.size
  by_cases hlt:i<L.length
  ·obtain ⟨gr,orr,rfl,hgr,d0⟩:=(IRow.of_own hown).at hlt
   have hsn:=remL_snoc C L i hlt
   have hlow:=(hown.lt gr rfl).1
   generalize hx:L[i]=x at *
   generalize hA:remL C (L.take i)=A at *
   have HSN:=Lib.hid hsn
   clear hx hA hsn
   have c2:=H.c2
   have hl:=H.lt
   have HH:=Lib.hid H
   have HO:=Lib.hid hown
   clear H hown
   go_wp2_with fail
   refine (down_any _ _ _ _ x _ HH.out.cs).mono ?_
   rintro e w2 ⟨rfl,hN2,hg2⟩
   obtain ⟨H2,ht2⟩:=HH.out.turnC hN2 (downL_len _ _) hg2
   have hown2:=Touch.own HO.out ht2 (fun j e hj=>by cases e;exact absurd (show gr<hi from hj.2) (by omega))
   have ht3:=ht.trans ht2
   have c2:=H2.c2
   have c3:=H2.c3
   have hl2:=H2.lt
   obtain ⟨v,hv⟩:∃v:Nat,v=getN (downL A x) x:=⟨_,rfl⟩
   have hgt:∀wx,Below w2.heap.size w2 wx->Calls Tryz.prog 131 #[.pointer (some ⟨g1,0,none⟩),.int .i64 x] wx fun e w'=>e = .returned (.int .i64 (v:Int))/\Below wx.heap.size wx w':=by
    intro wx hb
    rw [hv]
    exact get_any _ _ _ _ x _ (H2.cs.below hb)
   have HG:=Lib.hid hgt
   have hod:=ons_down A x
   rw [<-hv] at hod
   have HOD:=Lib.hid hod
   have HH2:=Lib.hid H2
   have HO2:=Lib.hid hown2
   clear H2 hown2 hN2 hg2 ht2 ht hgt hv hod
   go_wp2_with fail
   have kg:=cell_grow
   refine region_tail 12 (by kernel_rfl) (by kernel_rfl) ?_
   simp only [List.take_succ_cons,List.take_zero,List.drop_succ_cons,List.drop_zero]
   repeat (any_goals (first|go_big_quiet_step ((exact Calls.regrown_of (HG.out _ (below_regrown _ _ _))))|quiet_step ((exact Calls.regrown_of (HG.out _ (below_regrown _ _ _))))))
   refine wpQuiet_nil ?_
   clear kg
   intro w3 hb3
   obtain ⟨hc3,hf3⟩:=bcell hb3
   have HH3:=Lib.hid (HH2.out.below hb3)
   have hown3:=Touch.own HO2.out (Touch.quiet hb3 (S:=In lo hi)) (fun j e hj=>by cases e;exact absurd (show gr<hi from hj.2) (by omega))
   have HO3:=Lib.hid hown3
   have ht3b:=ht3.trans (Touch.quiet hb3)
   clear HH2 HO2 hown3 hb3
   go_wp2_with fail
   refine (bset_any _ _ _ _ x _ _ HH3.out.bs).mono ?_
   rintro e w4 ⟨rfl,hN3,hg3⟩
   obtain ⟨H3,ht4⟩:=HH3.out.turnD hN3 (setB_len _ _ _) hg3
   have hown3:=Touch.own HO3.out ht4 (fun j e hj=>by cases e;exact absurd (show gr<hi from hj.2) (by omega))
   have ht5:=ht3b.trans ht4
   rw [show ((v:Int) != 0)=decide (v≠0) by rw [Bool.eq_iff_iff];simp,HOD.out,<-HSN.out] at H3
   clear hN3 hg3 ht3 ht4
   go_wp2
   go_roundw
   case rel=>exact ⟨i+1,by omega,by go_num,H3,hown3,ht5⟩
   case measure=>simp [intOf];omega
  ·go_wp2
   go_end0
   rw [List.take_of_length_le (by omega)] at H
   exact ⟨rfl,⟨_,_,_,_,H⟩,ht⟩
set_option maxHeartbeats 2000000 in
theorem fmay_any (lo hi f s:Nat) (k:Int) (C:List Nat) (h l:Nat) (n:Int) (w:World) (H:Fil w lo hi f s k C) (wh:W64 h) (wl:W64 l) (hm:1<=C.length) :
 Calls Tryz.prog 67 #[.pointer (some ⟨f,0,none⟩),.agg #[.int .u64 h,.int .u64 l,.int .i64 n]] w fun e w'=>e = .returned (.bool (mayL C (plc s h l n k C.length)))/\Below w.heap.size w w':=by
 have hP:∀wx,Fil wx lo hi f s k C->Calls Tryz.prog 88 #[.pointer (some ⟨f,0,none⟩),.agg #[.int .u64 h,.int .u64 l,.int .i64 n]] wx fun e w'=>∃p c,e = .returned (.slice p (plc s h l n k C.length).length c) /\
  w'.ownsRow wx.heap.size 3 1 (.slice p (plc s h l n k C.length).length c) (plc s h l n k C.length).length (ics (plc s h l n k C.length))/\Below wx.heap.size wx w':=fun wx H=>fplaces_any lo hi f s k C h l n wx H wh wl
 have hL16:=plc_len s h l n k C.length
 have HLN:Hid (∀wx,Fil wx lo hi f s k C->Calls Tryz.prog 87 #[.pointer (some ⟨f,0,none⟩)] wx fun e w'=>e = .returned (.int .i64 (C.length:Int))/\Below wx.heap.size wx w'):=Lib.hid (fun wx H=>flen_any lo hi f s k C wx H)
 generalize plc s h l n k C.length=L at *
 have HP:=Lib.hid hP
 have HC:=Lib.hid H
 clear hP H
 go_enter Tryz.func67,Tryz.ntmps67
 go_wp2_with fail
 refine (HLN.out _ (HC.out.below (by go_grown))).mono ?_
 rintro e w0 ⟨rfl,hb0⟩
 have hw0:Below w.heap.size w w0:=Below.trans (by go_grown) (hb0.mono (by go_size))
 have hz0:=hw0.size
 have b0:w0.cell? ⟨w.heap.size,0,none⟩=some (.int .u64 h):=by
  rw [hb0.cell (by simp<;>omega)]
  first|assumption|(simp [go_sem];done)|(simp [go_sem, *];done)
 have b1:w0.cell? ⟨w.heap.size,1,none⟩=some (.int .u64 l):=by
  rw [hb0.cell (by simp<;>omega)]
  first|assumption|(simp [go_sem];done)|(simp [go_sem, *];done)
 have b2:w0.cell? ⟨w.heap.size,2,none⟩=some (.int .i64 n):=by
  rw [hb0.cell (by simp<;>omega)]
  first|assumption|(simp [go_sem];done)|(simp [go_sem, *];done)
 have hzb:w.heap.size<w0.heap.size:=by have:=hb0.size;simp at this;omega
 go_wp2_with fail
 refine (HP.out _ (HC.out.below (by go_grown))).mono ?_
 rintro e w1 ⟨p,c,rfl,hown,hb1⟩
 have hw1:Below w.heap.size w w1:=hw0.trans (hb1.mono hz0)
 have hown2:=own_le (B':=w.heap.size) hown hz0
 obtain ⟨g1,h1,g2,h2,H⟩:=HC.out.below hw1
 clear hown hb1 HP hb0 hw0 hz0 HLN
 have c3:=H.c3
 have hl:=H.lt
 have hz1:=hw1.size
 have HB:=Lib.hid H.bs
 have HRW:=Lib.hid (IRow.of_own hown2)
 clear H hown2
 go_wp2
 go_loopw [14] (fun i14 wr=>∃i:Nat,i<=L.length/\i14 = .int .i64 i/\Hid (∀j (hj:j<L.length),j<i->getN C L[j]≠0)/\Below w1.heap.size w1 wr) (fun i14 _=>L.length-(intOf i14).toNat)
 case atStart=>exact ⟨0,Nat.zero_le _,rfl,Lib.hid (fun j _ h=>absurd h (by omega)),Below.refl _ _⟩
 case round=>
  obtain ⟨i,hi2,rfl,hall,hb⟩:=hrel
  have hz:=hb.size
  have hc3:=(hb.cell (p:=⟨f,3,none⟩) hl).trans c3
  by_cases hlt:i<L.length
  ·obtain ⟨gr,orr,rfl,hgr,d0⟩:=(HRW.out.below hb).at hlt
   generalize hx:L[i]=x at *
   by_cases hg:getN C x=0
   ·have hno:=mayL_no hlt (by rw [hx];exact hg)
    have HNO:=Lib.hid hno
    have HGE:Hid (getB (onsC C) x=false):=Lib.hid (by rw [getB_ons];simp [hg])
    clear hx hg hno
    go_wp2_with fail
    refine (bget_any _ _ _ _ x _ (HB.out.below hb)).mono ?_
    rintro e w2 ⟨rfl,hb2⟩
    rw [HGE.out]
    go_wp2
    go_ret
    exact ⟨ret_bool HNO.out.symm,hw1.trans ((hb.trans (hb2.mono hz)).mono hz1)⟩
   ·have HGE:Hid (getB (onsC C) x=true):=Lib.hid (by rw [getB_ons];simp [hg])
    have HN2:Hid (∀j (hj:j<L.length),j<i+1->getN C L[j]≠0):=by
     intro j hj hji
     by_cases e:j=i
     ·subst e
      rw [hx]
      exact hg
     ·exact hall.out j hj (by omega)
    clear hx hg hall
    go_wp2_with fail
    refine (bget_any _ _ _ _ x _ (HB.out.below hb)).mono ?_
    rintro e w2 ⟨rfl,hb2⟩
    rw [HGE.out]
    have hbb:=hb.trans (hb2.mono hz)
    go_wp2
    go_roundw
    case rel=>exact ⟨i+1,by omega,by go_num,HN2,hbb⟩
    case measure=>simp [intOf];omega
  ·go_wp2
   go_ret
   exact ⟨ret_bool (mayL_yes (fun j hj=>hall.out j hj (by omega))).symm,hw1.trans (hb.mono hz1)⟩
set_option maxHeartbeats 2000000 in
theorem fnew_bad (s:Nat) (k m:Int) (h:¬(1<=k/\k<=16/\1<=m/\m<=65536)) (w:World) :
 Calls Tryz.prog 52 #[.int .u64 s,.int .i64 k,.int .i64 m] w fun e w'=>e = .returned (.tuple #[.pointer none,.int .i64 1])/\Below w.heap.size w w':=by
 by_cases k0:k<1
 ·go_enter Tryz.func52,Tryz.ntmps52
  go_wp2
  go_ret2
  exact ⟨rfl,by go_grown⟩
 ·by_cases k1:16<k
  ·go_enter Tryz.func52,Tryz.ntmps52
   go_wp2
   go_ret2
   exact ⟨rfl,by go_grown⟩
  ·by_cases m0:m<1
   ·go_enter Tryz.func52,Tryz.ntmps52
    go_wp2
    go_ret2
    exact ⟨rfl,by go_grown⟩
   ·have m1:65536<m:=by omega
    clear h
    go_enter Tryz.func52,Tryz.ntmps52
    go_wp2
    go_ret2
    exact ⟨rfl,by go_grown⟩
set_option maxHeartbeats 2000000 in
theorem fnew_any (s:Nat) (k m:Int) (ws:W64 s) (k0:1<=k) (k1:k<=16) (m0:1<=m) (m1:m<=65536) (w:World) :
 Calls Tryz.prog 52 #[.int .u64 s,.int .i64 k,.int .i64 m] w fun e w'=>∃f,e = .returned (.tuple #[.pointer (some ⟨f,0,none⟩),.int .i64 0])/\Fil w' w.heap.size w'.heap.size f s k (List.replicate m.toNat 0)/\Below w.heap.size w w':=by
 have hm:min m.toNat 65536=m.toNat:=by omega
 have HM:=Lib.hid hm
 clear hm
 go_enter Tryz.func52,Tryz.ntmps52
 go_wp2_with fail
 refine (new_any m (by omega) (by omega) _).mono ?_
 rintro e w1 ⟨v,rfl,⟨g1,h1,rfl,N1⟩,hb1⟩
 have hw1:Below w.heap.size w w1:=Below.trans (by go_grown) (hb1.mono (by go_size))
 have hz1:=hw1.size
 have N1':=N1.le (B':=w.heap.size) (by go_size)
 rw [HM.out] at N1'
 clear N1 hb1
 go_wp2_with fail
 refine (bnew_any m (by omega) (by omega) _).mono ?_
 rintro e w2 ⟨v,rfl,⟨g2,h2,rfl,N2⟩,hb2⟩
 have hw2:Below w.heap.size w w2:=hw1.trans (hb2.mono hz1)
 have hz2:=hb2.size
 rw [HM.out] at N2
 have HN1:=Lib.hid N1'
 have HN2:=Lib.hid N2
 have HB2:=Lib.hid hb2
 clear N1' N2 hb2
 go_wp2
 go_ret2
 have a1:=HN1.out.lt
 have a2:=HN1.out.low2
 have b1:=HN2.out.low
 have b2:=HN2.out.lt
 have b3:=HN2.out.low2
 refine ⟨w2.heap.size,rfl,⟨g1,h1,g2,h2,?_⟩,by go_grown⟩
 refine ⟨by simp [go_sem],by simp [go_sem],by simp [go_sem],by simp [go_sem],(HN1.out.below HB2.out).kept (World.grownBy_alloc _ _ none) (by simp) (by simp),?_,by simp [onsC],by simp,⟨by omega,by simp⟩,⟨by simp;omega,by simp;omega⟩,⟨by simp;omega,by simp;omega⟩,⟨by omega,by omega,by omega⟩,⟨by omega,by omega,by omega⟩,ws⟩
 rw [onsC_zero]
 exact (HN2.out.le hz1).kept (World.grownBy_alloc _ _ none) (by simp) (by simp)
end Go.Proofs.YtgfjmgebecmbiaaGreat

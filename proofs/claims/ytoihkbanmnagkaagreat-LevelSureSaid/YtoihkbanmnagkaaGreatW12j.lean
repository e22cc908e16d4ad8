/-
  What Get of a table hands back: the value, whether it is there, and which buckets were read. No condition but that the table's cells lie in memory, and that its stash is in order.
-/
import Derived.Test.YtoihkbanmnagkaaGreatW11b
import Derived.Test.YtoihkbanmnagkaaGreatMade
set_option linter.unusedSimpArgs false
set_option linter.unusedVariables false
namespace Go.Proofs.YtoihkbanmnagkaaGreat
open Go.RowKit Go.Sort M

theorem find_some {l : List Rt} {k : Ky} {i : Nat} (h : findS l k = some i) : ∃ hi : i < l.length, (l.find? fun r => decide (r.k = k)) = some l[i] := by
  unfold findS at h
  rw [List.findIdx?_eq_some_iff_getElem] at h
  obtain ⟨hi, h1, h2⟩ := h
  refine ⟨hi, ?_⟩
  rw [List.find?_eq_some_iff_getElem]
  exact ⟨h1, i, hi, rfl, fun j hj => by have := h2 j hj; simpa using this⟩
theorem find_none {l : List Rt} {k : Ky} (h : findS l k = none) : (l.find? fun r => decide (r.k = k)) = none := by
  unfold findS at h
  rw [List.findIdx?_eq_none_iff] at h
  rw [List.find?_eq_none]
  intro x hx
  rw [h x hx]
  decide
set_option maxRecDepth 100000 in
set_option maxHeartbeats 2000000 in
theorem get12_first (t g : Nat) (v : Value) (T : Tab) (m x : Int) (k : Ky) (w : World) (H : CT w t g v T m) (h : Num T) (hk : k.good) (hs : Sorted T.st) (hf : T.st.length < 1048576) (h1 : getC (T.bk (T.x1 k)) k = some x) :
    Calls Tryz.prog 37 #[.pointer (some ⟨t, 0, none⟩), kyV k] w fun e w' => ∃ p c, e = .returned (.tuple #[.int .i64 x, .bool true, .slice p 1 c]) ∧ w'.ownsRow w.heap.size 3 1 (.slice p 1 c) 1 (ics [(T.x1 k : Int)]) ∧ Below w.heap.size w w' := by
  have HN := Lib.hid (fun w H => none_any t g v T m w H h)
  have HT := Lib.hid (fun w H => two_any t g v T m k w H h hk)
  have HG := fun x (hx : x < T.B.length) w (H : CT w t g v T m) => get11_any g (x * 20) (T.bk x) k w (H.tb.bk x hx)
  have HS := Lib.hid (fun w H => stashed_any t g v T m k w H hs hf)
  have HH := Lib.hid H
  have hl := H.tb.tlt
  have HG1 := HG _ (h.x1_lt k)
  have HG2 := HG _ (h.x2_lt k)
  rw [h1] at HG1
  try rw [h2] at HG2
  have HG1 := Lib.hid HG1
  have HG2 := Lib.hid HG2
  have hx1 := h.x1_lt k
  have hx2 := h.x2_lt k
  generalize hX1 : T.x1 k = x1 at *
  generalize hX2 : T.x2 k = x2 at *
  clear hX1 hX2 HG
  clear H h hs h1
  try clear h2
  unfold kyV at *
  simp only [Option.getD_some, Option.isSome_some, Option.getD_none, Option.isSome_none] at *
  go_enter Tryz.func37, Tryz.ntmps37
  go_wp2_with fail
  refine (HN.out _ (HH.out.below (by go_grown))).mono ?_
  rintro e w1 ⟨rfl, hb1⟩
  have hw1 : Below w.heap.size w w1 := Below.trans (by go_grown) (hb1.mono (by go_size))
  have d0 : w1.cell? ⟨w.heap.size, 0, none⟩ = some (.int .u64 (k.h : Int)) := by
    rw [hb1.cell (by simp <;> omega)]
    first | assumption | (simp [go_sem]; done) | (simp [go_sem, *]; done)
  have d1 : w1.cell? ⟨w.heap.size, 1, none⟩ = some (.int .u64 (k.l : Int)) := by
    rw [hb1.cell (by simp <;> omega)]
    first | assumption | (simp [go_sem]; done) | (simp [go_sem, *]; done)
  have d2 : w1.cell? ⟨w.heap.size, 2, none⟩ = some (.int .i64 k.n) := by
    rw [hb1.cell (by simp <;> omega)]
    first | assumption | (simp [go_sem]; done) | (simp [go_sem, *]; done)
  have hz1 : w.heap.size < w1.heap.size := by
    have hs := hb1.size
    try simp only [World.size_alloc, World.size_setCell] at hs
    omega
  clear hb1
  go_wp2_with fail
  refine (HT.out _ (HH.out.below hw1)).mono ?_
  rintro e w2 ⟨rfl, hb2⟩
  have hw2 := hw1.trans (hb2.mono hw1.size)
  have HH2 := Lib.hid (HH.out.below hw2)
  have c1 := HH2.out.tb.c1
  have hl2 := HH2.out.tb.tlt
  have d0 := (hb2.cell (p := ⟨w.heap.size, 0, none⟩) hz1).trans d0
  have d1 := (hb2.cell (p := ⟨w.heap.size, 1, none⟩) hz1).trans d1
  have d2 := (hb2.cell (p := ⟨w.heap.size, 2, none⟩) hz1).trans d2
  have hz2 := Nat.lt_of_lt_of_le hz1 hb2.size
  have i1 : (0 : Int) ≤ (x1 : Int) := by omega
  have i2 : (x1 : Int) < (T.B.length : Int) := by omega
  clear hb2
  go_wp2_with fail
  have kg := cell_grow
  refine region_whole (by kernel_rfl) (by kernel_rfl) ?_
  repeat (any_goals (first | go_big_quiet_step ((exact Calls.regrown_of (HG1.out _ (HH2.out.below (below_regrown _ _ _))))) | quiet_step ((exact Calls.regrown_of (HG1.out _ (HH2.out.below (below_regrown _ _ _)))))))
  refine wpQuiet_nil ?_
  clear kg
  intro w3 hb3
  obtain ⟨hc3, hf3⟩ := bcell hb3
  have HH3 := Lib.hid (HH2.out.below hb3)
  have hw3 := hw2.trans (hb3.mono hw2.size)
  clear hc3 hf3 hb3
  have hz3 := hw3.size
  go_wp2
  go_ret3
  refine ⟨_, _, rfl, own_made (B := w.heap.size) hz3 (by exact heap_alloc_new w3 _) (by omega) (by unfold maxLen; omega) rfl rfl, by go_grown⟩
set_option maxRecDepth 100000 in
set_option maxHeartbeats 2000000 in
theorem get12_second (t g : Nat) (v : Value) (T : Tab) (m x : Int) (k : Ky) (w : World) (H : CT w t g v T m) (h : Num T) (hk : k.good) (hs : Sorted T.st) (hf : T.st.length < 1048576) (h1 : getC (T.bk (T.x1 k)) k = none) (h2 : getC (T.bk (T.x2 k)) k = some x) :
    Calls Tryz.prog 37 #[.pointer (some ⟨t, 0, none⟩), kyV k] w fun e w' => ∃ p c, e = .returned (.tuple #[.int .i64 x, .bool true, .slice p 2 c]) ∧ w'.ownsRow w.heap.size 3 1 (.slice p 2 c) 2 (ics [(T.x1 k : Int), (T.x2 k : Int)]) ∧ Below w.heap.size w w' := by
  have HN := Lib.hid (fun w H => none_any t g v T m w H h)
  have HT := Lib.hid (fun w H => two_any t g v T m k w H h hk)
  have HG := fun x (hx : x < T.B.length) w (H : CT w t g v T m) => get11_any g (x * 20) (T.bk x) k w (H.tb.bk x hx)
  have HS := Lib.hid (fun w H => stashed_any t g v T m k w H hs hf)
  have HH := Lib.hid H
  have hl := H.tb.tlt
  have HG1 := HG _ (h.x1_lt k)
  have HG2 := HG _ (h.x2_lt k)
  rw [h1] at HG1
  try rw [h2] at HG2
  have HG1 := Lib.hid HG1
  have HG2 := Lib.hid HG2
  have hx1 := h.x1_lt k
  have hx2 := h.x2_lt k
  generalize hX1 : T.x1 k = x1 at *
  generalize hX2 : T.x2 k = x2 at *
  clear hX1 hX2 HG
  clear H h hs h1
  try clear h2
  unfold kyV at *
  simp only [Option.getD_some, Option.isSome_some, Option.getD_none, Option.isSome_none] at *
  go_enter Tryz.func37, Tryz.ntmps37
  go_wp2_with fail
  refine (HN.out _ (HH.out.below (by go_grown))).mono ?_
  rintro e w1 ⟨rfl, hb1⟩
  have hw1 : Below w.heap.size w w1 := Below.trans (by go_grown) (hb1.mono (by go_size))
  have d0 : w1.cell? ⟨w.heap.size, 0, none⟩ = some (.int .u64 (k.h : Int)) := by
    rw [hb1.cell (by simp <;> omega)]
    first | assumption | (simp [go_sem]; done) | (simp [go_sem, *]; done)
  have d1 : w1.cell? ⟨w.heap.size, 1, none⟩ = some (.int .u64 (k.l : Int)) := by
    rw [hb1.cell (by simp <;> omega)]
    first | assumption | (simp [go_sem]; done) | (simp [go_sem, *]; done)
  have d2 : w1.cell? ⟨w.heap.size, 2, none⟩ = some (.int .i64 k.n) := by
    rw [hb1.cell (by simp <;> omega)]
    first | assumption | (simp [go_sem]; done) | (simp [go_sem, *]; done)
  have hz1 : w.heap.size < w1.heap.size := by
    have hs := hb1.size
    try simp only [World.size_alloc, World.size_setCell] at hs
    omega
  clear hb1
  go_wp2_with fail
  refine (HT.out _ (HH.out.below hw1)).mono ?_
  rintro e w2 ⟨rfl, hb2⟩
  have hw2 := hw1.trans (hb2.mono hw1.size)
  have HH2 := Lib.hid (HH.out.below hw2)
  have c1 := HH2.out.tb.c1
  have hl2 := HH2.out.tb.tlt
  have d0 := (hb2.cell (p := ⟨w.heap.size, 0, none⟩) hz1).trans d0
  have d1 := (hb2.cell (p := ⟨w.heap.size, 1, none⟩) hz1).trans d1
  have d2 := (hb2.cell (p := ⟨w.heap.size, 2, none⟩) hz1).trans d2
  have hz2 := Nat.lt_of_lt_of_le hz1 hb2.size
  have i1 : (0 : Int) ≤ (x1 : Int) := by omega
  have i2 : (x1 : Int) < (T.B.length : Int) := by omega
  clear hb2
  go_wp2_with fail
  have kg := cell_grow
  refine region_whole (by kernel_rfl) (by kernel_rfl) ?_
  repeat (any_goals (first | go_big_quiet_step ((exact Calls.regrown_of (HG1.out _ (HH2.out.below (below_regrown _ _ _))))) | quiet_step ((exact Calls.regrown_of (HG1.out _ (HH2.out.below (below_regrown _ _ _)))))))
  refine wpQuiet_nil ?_
  clear kg
  intro w3 hb3
  obtain ⟨hc3, hf3⟩ := bcell hb3
  have HH3 := Lib.hid (HH2.out.below hb3)
  have hw3 := hw2.trans (hb3.mono hw2.size)
  have hz3 := Nat.lt_of_lt_of_le hz2 hb3.size
  have hl3 := Nat.lt_of_lt_of_le hl2 hb3.size
  have c1 := (hc3 _ _ hl2).trans c1
  have d0 := (hc3 _ _ hz2).trans d0
  have d1 := (hc3 _ _ hz2).trans d1
  have d2 := (hc3 _ _ hz2).trans d2
  have j1 : (0 : Int) ≤ (x2 : Int) := by omega
  have j2 : (x2 : Int) < (T.B.length : Int) := by omega
  clear hc3 hf3 hb3 hl2 hz2 HH2 hw2
  go_wp2_with fail
  generalize hW4 : World.alloc w3 _ = w4 at *
  have hb34 : Below w3.heap.size w3 w4 := by rw [← hW4]; go_grown
  have hw4 := hw3.trans (hb34.mono hw3.size)
  have hg4 : w4.heap[w3.heap.size]? = some (.cells #[.int .i64 (x1 : Int), .int .i64 (x2 : Int)] 3 (0, 0)) := by rw [← hW4]; exact heap_alloc_new w3 _
  have HH4 := Lib.hid (HH3.out.below hb34)
  have c1 := (hb34.cell (p := ⟨t, 1, none⟩) hl3).trans c1
  have d0 := (hb34.cell (p := ⟨w.heap.size, 0, none⟩) hz3).trans d0
  have d1 := (hb34.cell (p := ⟨w.heap.size, 1, none⟩) hz3).trans d1
  have d2 := (hb34.cell (p := ⟨w.heap.size, 2, none⟩) hz3).trans d2
  have hz4 := Nat.lt_of_lt_of_le hz3 hb34.size
  have hl4 := Nat.lt_of_lt_of_le hl3 hb34.size
  have hg4l := (Array.getElem?_eq_some_iff.1 hg4).1
  clear hW4 hb34 HH3
  have kg := cell_grow
  refine region_whole (by kernel_rfl) (by kernel_rfl) ?_
  repeat (any_goals (first | go_big_quiet_step ((exact Calls.regrown_of (HG2.out _ (HH4.out.below (below_regrown _ _ _))))) | quiet_step ((exact Calls.regrown_of (HG2.out _ (HH4.out.below (below_regrown _ _ _)))))))
  refine wpQuiet_nil ?_
  clear kg
  intro w5 hb5
  obtain ⟨hc5, hf5⟩ := bcell hb5
  have HH5 := Lib.hid (HH4.out.below hb5)
  have hw5 := hw4.trans (hb5.mono hw4.size)
  have hg5 := (hb5.block _ hg4l).trans hg4
  have hz5 := hw3.size
  have hG5 := Lib.hid hg5
  clear hc5 hf5 hb5 hg4 hg5
  go_wp2
  go_ret3
  refine ⟨_, _, rfl, own_made (B := w.heap.size) hz5 hG5.out (by omega) (by unfold maxLen; omega) rfl rfl, by go_grown⟩
set_option maxRecDepth 100000 in
set_option maxHeartbeats 2000000 in
theorem get12_none (t g : Nat) (v : Value) (T : Tab) (m : Int) (k : Ky) (w : World) (H : CT w t g v T m) (h : Num T) (hk : k.good) (hs : Sorted T.st) (hf : T.st.length < 1048576) (h1 : getC (T.bk (T.x1 k)) k = none) (h2 : getC (T.bk (T.x2 k)) k = none) (h3 : findS T.st k = none) :
    Calls Tryz.prog 37 #[.pointer (some ⟨t, 0, none⟩), kyV k] w fun e w' => ∃ p c, e = .returned (.tuple #[.int .i64 0, .bool false, .slice p 2 c]) ∧ w'.ownsRow w.heap.size 3 1 (.slice p 2 c) 2 (ics [(T.x1 k : Int), (T.x2 k : Int)]) ∧ Below w.heap.size w w' := by
  have HN := Lib.hid (fun w H => none_any t g v T m w H h)
  have HT := Lib.hid (fun w H => two_any t g v T m k w H h hk)
  have HG := fun x (hx : x < T.B.length) w (H : CT w t g v T m) => get11_any g (x * 20) (T.bk x) k w (H.tb.bk x hx)
  have HS := Lib.hid (fun w H => stashed_any t g v T m k w H hs hf)
  have HH := Lib.hid H
  have hl := H.tb.tlt
  have HG1 := HG _ (h.x1_lt k)
  have HG2 := HG _ (h.x2_lt k)
  rw [h1] at HG1
  try rw [h2] at HG2
  have HG1 := Lib.hid HG1
  have HG2 := Lib.hid HG2
  have hx1 := h.x1_lt k
  have hx2 := h.x2_lt k
  generalize hX1 : T.x1 k = x1 at *
  generalize hX2 : T.x2 k = x2 at *
  clear hX1 hX2 HG
  rw [stI_none h3] at HS
  have hge : ¬ (0 : Int) ≤ -1 := by omega
  clear H h hs h1
  try clear h2
  unfold kyV at *
  simp only [Option.getD_some, Option.isSome_some, Option.getD_none, Option.isSome_none] at *
  go_enter Tryz.func37, Tryz.ntmps37
  go_wp2_with fail
  refine (HN.out _ (HH.out.below (by go_grown))).mono ?_
  rintro e w1 ⟨rfl, hb1⟩
  have hw1 : Below w.heap.size w w1 := Below.trans (by go_grown) (hb1.mono (by go_size))
  have d0 : w1.cell? ⟨w.heap.size, 0, none⟩ = some (.int .u64 (k.h : Int)) := by
    rw [hb1.cell (by simp <;> omega)]
    first | assumption | (simp [go_sem]; done) | (simp [go_sem, *]; done)
  have d1 : w1.cell? ⟨w.heap.size, 1, none⟩ = some (.int .u64 (k.l : Int)) := by
    rw [hb1.cell (by simp <;> omega)]
    first | assumption | (simp [go_sem]; done) | (simp [go_sem, *]; done)
  have d2 : w1.cell? ⟨w.heap.size, 2, none⟩ = some (.int .i64 k.n) := by
    rw [hb1.cell (by simp <;> omega)]
    first | assumption | (simp [go_sem]; done) | (simp [go_sem, *]; done)
  have hz1 : w.heap.size < w1.heap.size := by
    have hs := hb1.size
    try simp only [World.size_alloc, World.size_setCell] at hs
    omega
  clear hb1
  go_wp2_with fail
  refine (HT.out _ (HH.out.below hw1)).mono ?_
  rintro e w2 ⟨rfl, hb2⟩
  have hw2 := hw1.trans (hb2.mono hw1.size)
  have HH2 := Lib.hid (HH.out.below hw2)
  have c1 := HH2.out.tb.c1
  have hl2 := HH2.out.tb.tlt
  have d0 := (hb2.cell (p := ⟨w.heap.size, 0, none⟩) hz1).trans d0
  have d1 := (hb2.cell (p := ⟨w.heap.size, 1, none⟩) hz1).trans d1
  have d2 := (hb2.cell (p := ⟨w.heap.size, 2, none⟩) hz1).trans d2
  have hz2 := Nat.lt_of_lt_of_le hz1 hb2.size
  have i1 : (0 : Int) ≤ (x1 : Int) := by omega
  have i2 : (x1 : Int) < (T.B.length : Int) := by omega
  clear hb2
  go_wp2_with fail
  have kg := cell_grow
  refine region_whole (by kernel_rfl) (by kernel_rfl) ?_
  repeat (any_goals (first | go_big_quiet_step ((exact Calls.regrown_of (HG1.out _ (HH2.out.below (below_regrown _ _ _))))) | quiet_step ((exact Calls.regrown_of (HG1.out _ (HH2.out.below (below_regrown _ _ _)))))))
  refine wpQuiet_nil ?_
  clear kg
  intro w3 hb3
  obtain ⟨hc3, hf3⟩ := bcell hb3
  have HH3 := Lib.hid (HH2.out.below hb3)
  have hw3 := hw2.trans (hb3.mono hw2.size)
  have hz3 := Nat.lt_of_lt_of_le hz2 hb3.size
  have hl3 := Nat.lt_of_lt_of_le hl2 hb3.size
  have c1 := (hc3 _ _ hl2).trans c1
  have d0 := (hc3 _ _ hz2).trans d0
  have d1 := (hc3 _ _ hz2).trans d1
  have d2 := (hc3 _ _ hz2).trans d2
  have j1 : (0 : Int) ≤ (x2 : Int) := by omega
  have j2 : (x2 : Int) < (T.B.length : Int) := by omega
  clear hc3 hf3 hb3 hl2 hz2 HH2 hw2
  go_wp2_with fail
  generalize hW4 : World.alloc w3 _ = w4 at *
  have hb34 : Below w3.heap.size w3 w4 := by rw [← hW4]; go_grown
  have hw4 := hw3.trans (hb34.mono hw3.size)
  have hg4 : w4.heap[w3.heap.size]? = some (.cells #[.int .i64 (x1 : Int), .int .i64 (x2 : Int)] 3 (0, 0)) := by rw [← hW4]; exact heap_alloc_new w3 _
  have HH4 := Lib.hid (HH3.out.below hb34)
  have c1 := (hb34.cell (p := ⟨t, 1, none⟩) hl3).trans c1
  have d0 := (hb34.cell (p := ⟨w.heap.size, 0, none⟩) hz3).trans d0
  have d1 := (hb34.cell (p := ⟨w.heap.size, 1, none⟩) hz3).trans d1
  have d2 := (hb34.cell (p := ⟨w.heap.size, 2, none⟩) hz3).trans d2
  have hz4 := Nat.lt_of_lt_of_le hz3 hb34.size
  have hl4 := Nat.lt_of_lt_of_le hl3 hb34.size
  have hg4l := (Array.getElem?_eq_some_iff.1 hg4).1
  clear hW4 hb34 HH3
  have kg := cell_grow
  refine region_whole (by kernel_rfl) (by kernel_rfl) ?_
  repeat (any_goals (first | go_big_quiet_step ((exact Calls.regrown_of (HG2.out _ (HH4.out.below (below_regrown _ _ _))))) | quiet_step ((exact Calls.regrown_of (HG2.out _ (HH4.out.below (below_regrown _ _ _)))))))
  refine wpQuiet_nil ?_
  clear kg
  intro w5 hb5
  obtain ⟨hc5, hf5⟩ := bcell hb5
  have HH5 := Lib.hid (HH4.out.below hb5)
  have hw5 := hw4.trans (hb5.mono hw4.size)
  have hg5 := (hb5.block _ hg4l).trans hg4
  have hl5 := HH5.out.tb.tlt
  have d0 := (hc5 _ _ hz4).trans d0
  have d1 := (hc5 _ _ hz4).trans d1
  have d2 := (hc5 _ _ hz4).trans d2
  have hz5 := Nat.lt_of_lt_of_le hz4 hb5.size
  have hg5l := Nat.lt_of_lt_of_le hg4l hb5.size
  have hG5 := Lib.hid hg5
  clear hc5 hf5 hb5 hg4 hg5
  go_wp2_with fail
  refine (HS.out _ HH5.out).mono ?_
  rintro e w6 ⟨rfl, hb6⟩
  have HH6 := Lib.hid (HH5.out.below hb6)
  have hw6 := hw5.trans (hb6.mono hw5.size)
  have hG6 := Lib.hid ((hb6.block _ hg5l).trans hG5.out)
  have hz6 := Nat.lt_of_lt_of_le hz5 hb6.size
  have hl6 := HH6.out.tb.tlt
  have c2 := HH6.out.tb.c2
  have hz7 := hw3.size
  go_wp2
  go_ret3
  refine ⟨_, _, rfl, own_made (B := w.heap.size) hz7 hG6.out (by omega) (by unfold maxLen; omega) rfl rfl, by go_grown⟩
set_option maxRecDepth 100000 in
set_option maxHeartbeats 2000000 in
theorem get12_stash (t g : Nat) (v : Value) (T : Tab) (m : Int) (k : Ky) (i : Nat) (hi : i < T.st.length) (w : World) (H : CT w t g v T m) (h : Num T) (hk : k.good) (hs : Sorted T.st) (hf : T.st.length < 1048576) (h1 : getC (T.bk (T.x1 k)) k = none) (h2 : getC (T.bk (T.x2 k)) k = none) (h3 : findS T.st k = some i) :
    Calls Tryz.prog 37 #[.pointer (some ⟨t, 0, none⟩), kyV k] w fun e w' => ∃ p c, e = .returned (.tuple #[.int .i64 T.st[i].v, .bool true, .slice p 2 c]) ∧ w'.ownsRow w.heap.size 3 1 (.slice p 2 c) 2 (ics [(T.x1 k : Int), (T.x2 k : Int)]) ∧ Below w.heap.size w w' := by
  obtain ⟨pv, cv, hv⟩ := own_slice H.tb.own
  have ho := H.tb.own
  rw [hv] at ho
  obtain ⟨gr, o, rfl, hgr, r0, r1, r2, r3⟩ := (Row.of_own ho).rt hi
  have HR := Lib.hid r3
  have HV := Lib.hid hv
  clear r0 r1 r2 r3 ho hv
  have HN := Lib.hid (fun w H => none_any t g v T m w H h)
  have HT := Lib.hid (fun w H => two_any t g v T m k w H h hk)
  have HG := fun x (hx : x < T.B.length) w (H : CT w t g v T m) => get11_any g (x * 20) (T.bk x) k w (H.tb.bk x hx)
  have HS := Lib.hid (fun w H => stashed_any t g v T m k w H hs hf)
  have HH := Lib.hid H
  have hl := H.tb.tlt
  have HG1 := HG _ (h.x1_lt k)
  have HG2 := HG _ (h.x2_lt k)
  rw [h1] at HG1
  try rw [h2] at HG2
  have HG1 := Lib.hid HG1
  have HG2 := Lib.hid HG2
  have hx1 := h.x1_lt k
  have hx2 := h.x2_lt k
  generalize hX1 : T.x1 k = x1 at *
  generalize hX2 : T.x2 k = x2 at *
  clear hX1 hX2 HG
  rw [stI_some h3] at HS
  have hge : (0 : Int) ≤ (i : Int) := by omega
  have hii : (i : Int) < (T.st.length : Int) := by omega
  generalize hX : T.st[i].v = x at *
  clear hX
  clear H h hs h1
  try clear h2
  unfold kyV at *
  simp only [Option.getD_some, Option.isSome_some, Option.getD_none, Option.isSome_none] at *
  go_enter Tryz.func37, Tryz.ntmps37
  go_wp2_with fail
  refine (HN.out _ (HH.out.below (by go_grown))).mono ?_
  rintro e w1 ⟨rfl, hb1⟩
  have hw1 : Below w.heap.size w w1 := Below.trans (by go_grown) (hb1.mono (by go_size))
  have d0 : w1.cell? ⟨w.heap.size, 0, none⟩ = some (.int .u64 (k.h : Int)) := by
    rw [hb1.cell (by simp <;> omega)]
    first | assumption | (simp [go_sem]; done) | (simp [go_sem, *]; done)
  have d1 : w1.cell? ⟨w.heap.size, 1, none⟩ = some (.int .u64 (k.l : Int)) := by
    rw [hb1.cell (by simp <;> omega)]
    first | assumption | (simp [go_sem]; done) | (simp [go_sem, *]; done)
  have d2 : w1.cell? ⟨w.heap.size, 2, none⟩ = some (.int .i64 k.n) := by
    rw [hb1.cell (by simp <;> omega)]
    first | assumption | (simp [go_sem]; done) | (simp [go_sem, *]; done)
  have hz1 : w.heap.size < w1.heap.size := by
    have hs := hb1.size
    try simp only [World.size_alloc, World.size_setCell] at hs
    omega
  clear hb1
  go_wp2_with fail
  refine (HT.out _ (HH.out.below hw1)).mono ?_
  rintro e w2 ⟨rfl, hb2⟩
  have hw2 := hw1.trans (hb2.mono hw1.size)
  have HH2 := Lib.hid (HH.out.below hw2)
  have c1 := HH2.out.tb.c1
  have hl2 := HH2.out.tb.tlt
  have d0 := (hb2.cell (p := ⟨w.heap.size, 0, none⟩) hz1).trans d0
  have d1 := (hb2.cell (p := ⟨w.heap.size, 1, none⟩) hz1).trans d1
  have d2 := (hb2.cell (p := ⟨w.heap.size, 2, none⟩) hz1).trans d2
  have hz2 := Nat.lt_of_lt_of_le hz1 hb2.size
  have i1 : (0 : Int) ≤ (x1 : Int) := by omega
  have i2 : (x1 : Int) < (T.B.length : Int) := by omega
  clear hb2
  go_wp2_with fail
  have kg := cell_grow
  refine region_whole (by kernel_rfl) (by kernel_rfl) ?_
  repeat (any_goals (first | go_big_quiet_step ((exact Calls.regrown_of (HG1.out _ (HH2.out.below (below_regrown _ _ _))))) | quiet_step ((exact Calls.regrown_of (HG1.out _ (HH2.out.below (below_regrown _ _ _)))))))
  refine wpQuiet_nil ?_
  clear kg
  intro w3 hb3
  obtain ⟨hc3, hf3⟩ := bcell hb3
  have HH3 := Lib.hid (HH2.out.below hb3)
  have hw3 := hw2.trans (hb3.mono hw2.size)
  have hz3 := Nat.lt_of_lt_of_le hz2 hb3.size
  have hl3 := Nat.lt_of_lt_of_le hl2 hb3.size
  have c1 := (hc3 _ _ hl2).trans c1
  have d0 := (hc3 _ _ hz2).trans d0
  have d1 := (hc3 _ _ hz2).trans d1
  have d2 := (hc3 _ _ hz2).trans d2
  have j1 : (0 : Int) ≤ (x2 : Int) := by omega
  have j2 : (x2 : Int) < (T.B.length : Int) := by omega
  clear hc3 hf3 hb3 hl2 hz2 HH2 hw2
  go_wp2_with fail
  generalize hW4 : World.alloc w3 _ = w4 at *
  have hb34 : Below w3.heap.size w3 w4 := by rw [← hW4]; go_grown
  have hw4 := hw3.trans (hb34.mono hw3.size)
  have hg4 : w4.heap[w3.heap.size]? = some (.cells #[.int .i64 (x1 : Int), .int .i64 (x2 : Int)] 3 (0, 0)) := by rw [← hW4]; exact heap_alloc_new w3 _
  have HH4 := Lib.hid (HH3.out.below hb34)
  have c1 := (hb34.cell (p := ⟨t, 1, none⟩) hl3).trans c1
  have d0 := (hb34.cell (p := ⟨w.heap.size, 0, none⟩) hz3).trans d0
  have d1 := (hb34.cell (p := ⟨w.heap.size, 1, none⟩) hz3).trans d1
  have d2 := (hb34.cell (p := ⟨w.heap.size, 2, none⟩) hz3).trans d2
  have hz4 := Nat.lt_of_lt_of_le hz3 hb34.size
  have hl4 := Nat.lt_of_lt_of_le hl3 hb34.size
  have hg4l := (Array.getElem?_eq_some_iff.1 hg4).1
  clear hW4 hb34 HH3
  have kg := cell_grow
  refine region_whole (by kernel_rfl) (by kernel_rfl) ?_
  repeat (any_goals (first | go_big_quiet_step ((exact Calls.regrown_of (HG2.out _ (HH4.out.below (below_regrown _ _ _))))) | quiet_step ((exact Calls.regrown_of (HG2.out _ (HH4.out.below (below_regrown _ _ _)))))))
  refine wpQuiet_nil ?_
  clear kg
  intro w5 hb5
  obtain ⟨hc5, hf5⟩ := bcell hb5
  have HH5 := Lib.hid (HH4.out.below hb5)
  have hw5 := hw4.trans (hb5.mono hw4.size)
  have hg5 := (hb5.block _ hg4l).trans hg4
  have hl5 := HH5.out.tb.tlt
  have d0 := (hc5 _ _ hz4).trans d0
  have d1 := (hc5 _ _ hz4).trans d1
  have d2 := (hc5 _ _ hz4).trans d2
  have hz5 := Nat.lt_of_lt_of_le hz4 hb5.size
  have hg5l := Nat.lt_of_lt_of_le hg4l hb5.size
  have hG5 := Lib.hid hg5
  clear hc5 hf5 hb5 hg4 hg5
  go_wp2_with fail
  refine (HS.out _ HH5.out).mono ?_
  rintro e w6 ⟨rfl, hb6⟩
  have HH6 := Lib.hid (HH5.out.below hb6)
  have hw6 := hw5.trans (hb6.mono hw5.size)
  have hG6 := Lib.hid ((hb6.block _ hg5l).trans hG5.out)
  have hz6 := Nat.lt_of_lt_of_le hz5 hb6.size
  have hl6 := HH6.out.tb.tlt
  have c2 := HH6.out.tb.c2
  have hz7 := hw3.size
  have hgr6 := Nat.lt_of_lt_of_le hgr hw6.size
  rw [HV.out] at c2
  have r3 := (hw6.cell (p := ⟨gr, o + i * 4 + 3, none⟩) hgr).trans HR.out
  go_wp2
  go_ret3
  refine ⟨_, _, rfl, own_made (B := w.heap.size) hz7 hG6.out (by omega) (by unfold maxLen; omega) rfl rfl, by go_grown⟩
/-- Get of the table. -/
theorem get12_any (t g : Nat) (v : Value) (T : Tab) (m : Int) (k : Ky) (w : World) (H : CT w t g v T m) (h : Num T) (hk : k.good) (hs : Sorted T.st) (hf : T.st.length < 1048576) :
    Calls Tryz.prog 37 #[.pointer (some ⟨t, 0, none⟩), kyV k] w fun e w' => ∃ p c, e = .returned (.tuple #[.int .i64 ((getT T k).getD 0), .bool (getT T k).isSome, .slice p (readT T k).length c]) ∧ w'.ownsRow w.heap.size 3 1 (.slice p (readT T k).length c) (readT T k).length (ics (readT T k)) ∧ Below w.heap.size w w' := by
  unfold getT readT
  cases h1 : getC (T.bk (T.x1 k)) k with
  | some x => exact get12_first t g v T m x k w H h hk hs hf h1
  | none =>
    cases h2 : getC (T.bk (T.x2 k)) k with
    | some x => exact get12_second t g v T m x k w H h hk hs hf h1 h2
    | none =>
      cases h3 : findS T.st k with
      | none =>
        rw [find_none h3]
        exact get12_none t g v T m k w H h hk hs hf h1 h2 h3
      | some i =>
        obtain ⟨hi, e⟩ := find_some h3
        rw [e]
        exact get12_stash t g v T m k i hi w H h hk hs hf h1 h2 h3
end Go.Proofs.YtoihkbanmnagkaaGreat

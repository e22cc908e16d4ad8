/-
  What Get of the reference's table hands back. No condition but that the table's cells lie in memory.
-/
import Derived.Test.YtoihkbanmnagkaaGreatRT1
import Derived.Test.YtoihkbanmnagkaaGreatW12j
import Derived.Test.YtoihkbanmnagkaaGreatRef12
set_option linter.unusedSimpArgs false
set_option linter.unusedVariables false
namespace Go.Proofs.YtoihkbanmnagkaaGreat
open Go.RowKit Go.Sort M

set_option maxRecDepth 100000 in
set_option maxHeartbeats 2000000 in
theorem rget12_first (t g : Nat) (pv : Option Addr) (cv : Nat) (T : Tab) (x : Int) (k : Ky) (w : World) (H : Tb RBk w t g (.slice pv T.st.length cv) T) (h : Num T) (hk : k.good) (hf : T.st.length < 1048576) (h1 : getC (T.bk (T.x1 k)) k = some x) :
    Calls Tryz.prog 30 #[.pointer (some ⟨t, 0, none⟩), kyV k] w fun e w' => ∃ p c, e = .returned (.tuple #[.int .i64 x, .bool true, .slice p 1 c]) ∧ w'.ownsRow w.heap.size 3 1 (.slice p 1 c) 1 (ics [(T.x1 k : Int)]) ∧ Below w.heap.size w w' := by
  have HB := Lib.hid (rtwo_fact T k h hk)
  have HG := fun x (hx : x < T.B.length) w (H : Tb RBk w t g (.slice pv T.st.length cv) T) => rget11_any g (x * 20) (T.bk x) k w (H.bk x hx)
  have HS := Lib.hid (fun w (H : Tb RBk w t g (.slice pv T.st.length cv) T) => find12_any pv cv T.st k w (Row.of_own H.own) hf)
  have HH := Lib.hid H
  have hl := H.tlt
  have c0 := H.c0
  have c1 := H.c1
  have HG1 := HG _ (h.x1_lt k)
  have HG2 := HG _ (h.x2_lt k)
  rw [h1] at HG1
  try rw [h2] at HG2
  have HG1 := Lib.hid HG1
  have HG2 := Lib.hid HG2
  have hx1 := h.x1_lt k
  have hx2 := h.x2_lt k
  generalize hX1 : T.x1 k = x1 at *
  generalize hX2 : T.x2 k = x2 at *
  clear hX1 hX2 HG
  clear H h h1
  try clear h2
  unfold kyV at *
  simp only [Option.getD_some, Option.isSome_some, Option.getD_none, Option.isSome_none] at *
  go_enter Tryz.func30, Tryz.ntmps30
  go_wp2_with fail
  have kg := cell_grow
  refine region_whole (by kernel_rfl) (by kernel_rfl) ?_
  repeat (any_goals (first | go_big_quiet_step ((exact HB.out.at _ _ _)) | quiet_step ((exact HB.out.at _ _ _))))
  refine wpQuiet_nil ?_
  clear kg
  intro w1 hb1
  obtain ⟨hc1, hf1⟩ := bcell hb1
  have hw1 : Below w.heap.size w w1 := by
    refine Below.trans ?_ (hb1.mono ?_)
    · go_grown
    · first | omega | go_size
  have d0 : w1.cell? ⟨w.heap.size, 0, none⟩ = some (.int .u64 (k.h : Int)) := by
    rw [hb1.cell (by simp <;> omega)]
    first | assumption | (simp [go_sem]; done) | (simp [go_sem, *]; done)
  have d1 : w1.cell? ⟨w.heap.size, 1, none⟩ = some (.int .u64 (k.l : Int)) := by
    rw [hb1.cell (by simp <;> omega)]
    first | assumption | (simp [go_sem]; done) | (simp [go_sem, *]; done)
  have d2 : w1.cell? ⟨w.heap.size, 2, none⟩ = some (.int .i64 k.n) := by
    rw [hb1.cell (by simp <;> omega)]
    first | assumption | (simp [go_sem]; done) | (simp [go_sem, *]; done)
  have hz1 : w.heap.size < w1.heap.size := by
    have hs := hb1.size
    try simp only [World.size_alloc, World.size_setCell] at hs
    omega
  have HH2 := Lib.hid (HH.out.below bk_rbk hw1)
  have c1 := HH2.out.c1
  have hl2 := HH2.out.tlt
  have i1 : (0 : Int) ≤ (x1 : Int) := by omega
  have i2 : (x1 : Int) < (T.B.length : Int) := by omega
  clear hc1 hf1 hb1 c0
  go_wp2_with fail
  have kg := cell_grow
  refine region_whole (by kernel_rfl) (by kernel_rfl) ?_
  repeat (any_goals (first | go_big_quiet_step ((exact Calls.regrown_of (HG1.out _ (HH2.out.below bk_rbk (below_regrown _ _ _))))) | quiet_step ((exact Calls.regrown_of (HG1.out _ (HH2.out.below bk_rbk (below_regrown _ _ _)))))))
  refine wpQuiet_nil ?_
  clear kg
  intro w3 hb3
  obtain ⟨hc3, hf3⟩ := bcell hb3
  have HH3 := Lib.hid (HH2.out.below bk_rbk hb3)
  have hw3 := hw1.trans (hb3.mono hw1.size)
  clear hc3 hf3 hb3
  have hz3 := hw3.size
  go_wp2
  go_ret3
  refine ⟨_, _, rfl, own_made (B := w.heap.size) hz3 (by exact heap_alloc_new w3 _) (by omega) (by unfold maxLen; omega) rfl rfl, by go_grown⟩
set_option maxRecDepth 100000 in
set_option maxHeartbeats 2000000 in
theorem rget12_second (t g : Nat) (pv : Option Addr) (cv : Nat) (T : Tab) (x : Int) (k : Ky) (w : World) (H : Tb RBk w t g (.slice pv T.st.length cv) T) (h : Num T) (hk : k.good) (hf : T.st.length < 1048576) (h1 : getC (T.bk (T.x1 k)) k = none) (h2 : getC (T.bk (T.x2 k)) k = some x) :
    Calls Tryz.prog 30 #[.pointer (some ⟨t, 0, none⟩), kyV k] w fun e w' => ∃ p c, e = .returned (.tuple #[.int .i64 x, .bool true, .slice p 2 c]) ∧ w'.ownsRow w.heap.size 3 1 (.slice p 2 c) 2 (ics [(T.x1 k : Int), (T.x2 k : Int)]) ∧ Below w.heap.size w w' := by
  have HB := Lib.hid (rtwo_fact T k h hk)
  have HG := fun x (hx : x < T.B.length) w (H : Tb RBk w t g (.slice pv T.st.length cv) T) => rget11_any g (x * 20) (T.bk x) k w (H.bk x hx)
  have HS := Lib.hid (fun w (H : Tb RBk w t g (.slice pv T.st.length cv) T) => find12_any pv cv T.st k w (Row.of_own H.own) hf)
  have HH := Lib.hid H
  have hl := H.tlt
  have c0 := H.c0
  have c1 := H.c1
  have HG1 := HG _ (h.x1_lt k)
  have HG2 := HG _ (h.x2_lt k)
  rw [h1] at HG1
  try rw [h2] at HG2
  have HG1 := Lib.hid HG1
  have HG2 := Lib.hid HG2
  have hx1 := h.x1_lt k
  have hx2 := h.x2_lt k
  generalize hX1 : T.x1 k = x1 at *
  generalize hX2 : T.x2 k = x2 at *
  clear hX1 hX2 HG
  clear H h h1
  try clear h2
  unfold kyV at *
  simp only [Option.getD_some, Option.isSome_some, Option.getD_none, Option.isSome_none] at *
  go_enter Tryz.func30, Tryz.ntmps30
  go_wp2_with fail
  have kg := cell_grow
  refine region_whole (by kernel_rfl) (by kernel_rfl) ?_
  repeat (any_goals (first | go_big_quiet_step ((exact HB.out.at _ _ _)) | quiet_step ((exact HB.out.at _ _ _))))
  refine wpQuiet_nil ?_
  clear kg
  intro w1 hb1
  obtain ⟨hc1, hf1⟩ := bcell hb1
  have hw1 : Below w.heap.size w w1 := by
    refine Below.trans ?_ (hb1.mono ?_)
    · go_grown
    · first | omega | go_size
  have d0 : w1.cell? ⟨w.heap.size, 0, none⟩ = some (.int .u64 (k.h : Int)) := by
    rw [hb1.cell (by simp <;> omega)]
    first | assumption | (simp [go_sem]; done) | (simp [go_sem, *]; done)
  have d1 : w1.cell? ⟨w.heap.size, 1, none⟩ = some (.int .u64 (k.l : Int)) := by
    rw [hb1.cell (by simp <;> omega)]
    first | assumption | (simp [go_sem]; done) | (simp [go_sem, *]; done)
  have d2 : w1.cell? ⟨w.heap.size, 2, none⟩ = some (.int .i64 k.n) := by
    rw [hb1.cell (by simp <;> omega)]
    first | assumption | (simp [go_sem]; done) | (simp [go_sem, *]; done)
  have hz1 : w.heap.size < w1.heap.size := by
    have hs := hb1.size
    try simp only [World.size_alloc, World.size_setCell] at hs
    omega
  have HH2 := Lib.hid (HH.out.below bk_rbk hw1)
  have c1 := HH2.out.c1
  have hl2 := HH2.out.tlt
  have i1 : (0 : Int) ≤ (x1 : Int) := by omega
  have i2 : (x1 : Int) < (T.B.length : Int) := by omega
  clear hc1 hf1 hb1 c0
  go_wp2_with fail
  have kg := cell_grow
  refine region_whole (by kernel_rfl) (by kernel_rfl) ?_
  repeat (any_goals (first | go_big_quiet_step ((exact Calls.regrown_of (HG1.out _ (HH2.out.below bk_rbk (below_regrown _ _ _))))) | quiet_step ((exact Calls.regrown_of (HG1.out _ (HH2.out.below bk_rbk (below_regrown _ _ _)))))))
  refine wpQuiet_nil ?_
  clear kg
  intro w3 hb3
  obtain ⟨hc3, hf3⟩ := bcell hb3
  have HH3 := Lib.hid (HH2.out.below bk_rbk hb3)
  have hw3 := hw1.trans (hb3.mono hw1.size)
  have hz3 := Nat.lt_of_lt_of_le hz1 hb3.size
  have hl3 := Nat.lt_of_lt_of_le hl2 hb3.size
  have c1 := (hc3 _ _ hl2).trans c1
  have d0 := (hc3 _ _ hz1).trans d0
  have d1 := (hc3 _ _ hz1).trans d1
  have d2 := (hc3 _ _ hz1).trans d2
  have j1 : (0 : Int) ≤ (x2 : Int) := by omega
  have j2 : (x2 : Int) < (T.B.length : Int) := by omega
  clear hc3 hf3 hb3 hl2 hz1 HH2 hw1
  go_wp2_with fail
  have kg := cell_grow
  refine region_whole (by kernel_rfl) (by kernel_rfl) ?_
  repeat (any_goals (first | go_big_quiet_step ((exact Calls.regrown_of (HG2.out _ (HH3.out.below bk_rbk (below_regrown _ _ _))))) | quiet_step ((exact Calls.regrown_of (HG2.out _ (HH3.out.below bk_rbk (below_regrown _ _ _)))))))
  refine wpQuiet_nil ?_
  clear kg
  intro w5 hb5
  obtain ⟨hc5, hf5⟩ := bcell hb5
  have HH5 := Lib.hid (HH3.out.below bk_rbk hb5)
  have hw5 := hw3.trans (hb5.mono hw3.size)
  have hz5 := hw5.size
  clear hc5 hf5 hb5
  go_wp2
  go_ret3
  refine ⟨_, _, rfl, own_made (B := w.heap.size) hz5 (by exact heap_alloc_new w5 _) (by omega) (by unfold maxLen; omega) rfl rfl, by go_grown⟩
set_option maxRecDepth 100000 in
set_option maxHeartbeats 2000000 in
theorem rget12_none (t g : Nat) (pv : Option Addr) (cv : Nat) (T : Tab) (k : Ky) (w : World) (H : Tb RBk w t g (.slice pv T.st.length cv) T) (h : Num T) (hk : k.good) (hf : T.st.length < 1048576) (h1 : getC (T.bk (T.x1 k)) k = none) (h2 : getC (T.bk (T.x2 k)) k = none) (h3 : findS T.st k = none) :
    Calls Tryz.prog 30 #[.pointer (some ⟨t, 0, none⟩), kyV k] w fun e w' => ∃ p c, e = .returned (.tuple #[.int .i64 0, .bool false, .slice p 2 c]) ∧ w'.ownsRow w.heap.size 3 1 (.slice p 2 c) 2 (ics [(T.x1 k : Int), (T.x2 k : Int)]) ∧ Below w.heap.size w w' := by
  have HB := Lib.hid (rtwo_fact T k h hk)
  have HG := fun x (hx : x < T.B.length) w (H : Tb RBk w t g (.slice pv T.st.length cv) T) => rget11_any g (x * 20) (T.bk x) k w (H.bk x hx)
  have HS := Lib.hid (fun w (H : Tb RBk w t g (.slice pv T.st.length cv) T) => find12_any pv cv T.st k w (Row.of_own H.own) hf)
  have HH := Lib.hid H
  have hl := H.tlt
  have c0 := H.c0
  have c1 := H.c1
  have HG1 := HG _ (h.x1_lt k)
  have HG2 := HG _ (h.x2_lt k)
  rw [h1] at HG1
  try rw [h2] at HG2
  have HG1 := Lib.hid HG1
  have HG2 := Lib.hid HG2
  have hx1 := h.x1_lt k
  have hx2 := h.x2_lt k
  generalize hX1 : T.x1 k = x1 at *
  generalize hX2 : T.x2 k = x2 at *
  clear hX1 hX2 HG
  rw [stI_none h3] at HS
  have hge : ¬ (0 : Int) ≤ -1 := by omega
  clear H h h1
  try clear h2
  unfold kyV at *
  simp only [Option.getD_some, Option.isSome_some, Option.getD_none, Option.isSome_none] at *
  go_enter Tryz.func30, Tryz.ntmps30
  go_wp2_with fail
  have kg := cell_grow
  refine region_whole (by kernel_rfl) (by kernel_rfl) ?_
  repeat (any_goals (first | go_big_quiet_step ((exact HB.out.at _ _ _)) | quiet_step ((exact HB.out.at _ _ _))))
  refine wpQuiet_nil ?_
  clear kg
  intro w1 hb1
  obtain ⟨hc1, hf1⟩ := bcell hb1
  have hw1 : Below w.heap.size w w1 := by
    refine Below.trans ?_ (hb1.mono ?_)
    · go_grown
    · first | omega | go_size
  have d0 : w1.cell? ⟨w.heap.size, 0, none⟩ = some (.int .u64 (k.h : Int)) := by
    rw [hb1.cell (by simp <;> omega)]
    first | assumption | (simp [go_sem]; done) | (simp [go_sem, *]; done)
  have d1 : w1.cell? ⟨w.heap.size, 1, none⟩ = some (.int .u64 (k.l : Int)) := by
    rw [hb1.cell (by simp <;> omega)]
    first | assumption | (simp [go_sem]; done) | (simp [go_sem, *]; done)
  have d2 : w1.cell? ⟨w.heap.size, 2, none⟩ = some (.int .i64 k.n) := by
    rw [hb1.cell (by simp <;> omega)]
    first | assumption | (simp [go_sem]; done) | (simp [go_sem, *]; done)
  have hz1 : w.heap.size < w1.heap.size := by
    have hs := hb1.size
    try simp only [World.size_alloc, World.size_setCell] at hs
    omega
  have HH2 := Lib.hid (HH.out.below bk_rbk hw1)
  have c1 := HH2.out.c1
  have hl2 := HH2.out.tlt
  have i1 : (0 : Int) ≤ (x1 : Int) := by omega
  have i2 : (x1 : Int) < (T.B.length : Int) := by omega
  clear hc1 hf1 hb1 c0
  go_wp2_with fail
  have kg := cell_grow
  refine region_whole (by kernel_rfl) (by kernel_rfl) ?_
  repeat (any_goals (first | go_big_quiet_step ((exact Calls.regrown_of (HG1.out _ (HH2.out.below bk_rbk (below_regrown _ _ _))))) | quiet_step ((exact Calls.regrown_of (HG1.out _ (HH2.out.below bk_rbk (below_regrown _ _ _)))))))
  refine wpQuiet_nil ?_
  clear kg
  intro w3 hb3
  obtain ⟨hc3, hf3⟩ := bcell hb3
  have HH3 := Lib.hid (HH2.out.below bk_rbk hb3)
  have hw3 := hw1.trans (hb3.mono hw1.size)
  have hz3 := Nat.lt_of_lt_of_le hz1 hb3.size
  have hl3 := Nat.lt_of_lt_of_le hl2 hb3.size
  have c1 := (hc3 _ _ hl2).trans c1
  have d0 := (hc3 _ _ hz1).trans d0
  have d1 := (hc3 _ _ hz1).trans d1
  have d2 := (hc3 _ _ hz1).trans d2
  have j1 : (0 : Int) ≤ (x2 : Int) := by omega
  have j2 : (x2 : Int) < (T.B.length : Int) := by omega
  clear hc3 hf3 hb3 hl2 hz1 HH2 hw1
  go_wp2_with fail
  have kg := cell_grow
  refine region_whole (by kernel_rfl) (by kernel_rfl) ?_
  repeat (any_goals (first | go_big_quiet_step ((exact Calls.regrown_of (HG2.out _ (HH3.out.below bk_rbk (below_regrown _ _ _))))) | quiet_step ((exact Calls.regrown_of (HG2.out _ (HH3.out.below bk_rbk (below_regrown _ _ _)))))))
  refine wpQuiet_nil ?_
  clear kg
  intro w5 hb5
  obtain ⟨hc5, hf5⟩ := bcell hb5
  have HH5 := Lib.hid (HH3.out.below bk_rbk hb5)
  have hw5 := hw3.trans (hb5.mono hw3.size)
  have hl5 := HH5.out.tlt
  have c2 := HH5.out.c2
  have d0 := (hc5 _ _ hz3).trans d0
  have d1 := (hc5 _ _ hz3).trans d1
  have d2 := (hc5 _ _ hz3).trans d2
  have hz5 := Nat.lt_of_lt_of_le hz3 hb5.size
  clear hc5 hf5 hb5 hz3 hl3 HH3 hw3 c1
  go_wp2_with fail
  have kg := cell_grow
  refine region_whole (by kernel_rfl) (by kernel_rfl) ?_
  repeat (any_goals (first | go_big_quiet_step ((exact Calls.regrown_of (HS.out _ (HH5.out.below bk_rbk (below_regrown _ _ _))))) | quiet_step ((exact Calls.regrown_of (HS.out _ (HH5.out.below bk_rbk (below_regrown _ _ _)))))))
  refine wpQuiet_nil ?_
  clear kg
  intro w6 hb6
  obtain ⟨hc6, hf6⟩ := bcell hb6
  have HH6 := Lib.hid (HH5.out.below bk_rbk hb6)
  have hw6 := hw5.trans (hb6.mono hw5.size)
  have hz6 := hw6.size
  have c2 := HH6.out.c2
  have hl6 := HH6.out.tlt
  clear hc6 hf6 hb6
  go_wp2
  go_ret3
  refine ⟨_, _, rfl, own_made (B := w.heap.size) hz6 (by exact heap_alloc_new w6 _) (by omega) (by unfold maxLen; omega) rfl rfl, by go_grown⟩
set_option maxRecDepth 100000 in
set_option maxHeartbeats 2000000 in
theorem rget12_stash (t g : Nat) (pv : Option Addr) (cv : Nat) (T : Tab) (k : Ky) (i : Nat) (hi : i < T.st.length) (w : World) (H : Tb RBk w t g (.slice pv T.st.length cv) T) (h : Num T) (hk : k.good) (hf : T.st.length < 1048576) (h1 : getC (T.bk (T.x1 k)) k = none) (h2 : getC (T.bk (T.x2 k)) k = none) (h3 : findS T.st k = some i) :
    Calls Tryz.prog 30 #[.pointer (some ⟨t, 0, none⟩), kyV k] w fun e w' => ∃ p c, e = .returned (.tuple #[.int .i64 T.st[i].v, .bool true, .slice p 2 c]) ∧ w'.ownsRow w.heap.size 3 1 (.slice p 2 c) 2 (ics [(T.x1 k : Int), (T.x2 k : Int)]) ∧ Below w.heap.size w w' := by
  obtain ⟨gr, o, rfl, hgr, r0, r1, r2, r3⟩ := (Row.of_own H.own).rt hi
  have HR := Lib.hid r3
  clear r0 r1 r2 r3
  obtain ⟨pv, hpv⟩ : ∃ pv, pv = some (⟨gr, o, none⟩ : Addr) := ⟨_, rfl⟩
  rw [← hpv] at H
  have HV := Lib.hid hpv
  clear hpv
  have HB := Lib.hid (rtwo_fact T k h hk)
  have HG := fun x (hx : x < T.B.length) w (H : Tb RBk w t g (.slice pv T.st.length cv) T) => rget11_any g (x * 20) (T.bk x) k w (H.bk x hx)
  have HS := Lib.hid (fun w (H : Tb RBk w t g (.slice pv T.st.length cv) T) => find12_any pv cv T.st k w (Row.of_own H.own) hf)
  have HH := Lib.hid H
  have hl := H.tlt
  have c0 := H.c0
  have c1 := H.c1
  have HG1 := HG _ (h.x1_lt k)
  have HG2 := HG _ (h.x2_lt k)
  rw [h1] at HG1
  try rw [h2] at HG2
  have HG1 := Lib.hid HG1
  have HG2 := Lib.hid HG2
  have hx1 := h.x1_lt k
  have hx2 := h.x2_lt k
  generalize hX1 : T.x1 k = x1 at *
  generalize hX2 : T.x2 k = x2 at *
  clear hX1 hX2 HG
  rw [stI_some h3] at HS
  have hge : (0 : Int) ≤ (i : Int) := by omega
  have hii : (i : Int) < (T.st.length : Int) := by omega
  generalize hX : T.st[i].v = x at *
  clear hX
  clear H h h1
  try clear h2
  unfold kyV at *
  simp only [Option.getD_some, Option.isSome_some, Option.getD_none, Option.isSome_none] at *
  go_enter Tryz.func30, Tryz.ntmps30
  go_wp2_with fail
  have kg := cell_grow
  refine region_whole (by kernel_rfl) (by kernel_rfl) ?_
  repeat (any_goals (first | go_big_quiet_step ((exact HB.out.at _ _ _)) | quiet_step ((exact HB.out.at _ _ _))))
  refine wpQuiet_nil ?_
  clear kg
  intro w1 hb1
  obtain ⟨hc1, hf1⟩ := bcell hb1
  have hw1 : Below w.heap.size w w1 := by
    refine Below.trans ?_ (hb1.mono ?_)
    · go_grown
    · first | omega | go_size
  have d0 : w1.cell? ⟨w.heap.size, 0, none⟩ = some (.int .u64 (k.h : Int)) := by
    rw [hb1.cell (by simp <;> omega)]
    first | assumption | (simp [go_sem]; done) | (simp [go_sem, *]; done)
  have d1 : w1.cell? ⟨w.heap.size, 1, none⟩ = some (.int .u64 (k.l : Int)) := by
    rw [hb1.cell (by simp <;> omega)]
    first | assumption | (simp [go_sem]; done) | (simp [go_sem, *]; done)
  have d2 : w1.cell? ⟨w.heap.size, 2, none⟩ = some (.int .i64 k.n) := by
    rw [hb1.cell (by simp <;> omega)]
    first | assumption | (simp [go_sem]; done) | (simp [go_sem, *]; done)
  have hz1 : w.heap.size < w1.heap.size := by
    have hs := hb1.size
    try simp only [World.size_alloc, World.size_setCell] at hs
    omega
  have HH2 := Lib.hid (HH.out.below bk_rbk hw1)
  have c1 := HH2.out.c1
  have hl2 := HH2.out.tlt
  have i1 : (0 : Int) ≤ (x1 : Int) := by omega
  have i2 : (x1 : Int) < (T.B.length : Int) := by omega
  clear hc1 hf1 hb1 c0
  go_wp2_with fail
  have kg := cell_grow
  refine region_whole (by kernel_rfl) (by kernel_rfl) ?_
  repeat (any_goals (first | go_big_quiet_step ((exact Calls.regrown_of (HG1.out _ (HH2.out.below bk_rbk (below_regrown _ _ _))))) | quiet_step ((exact Calls.regrown_of (HG1.out _ (HH2.out.below bk_rbk (below_regrown _ _ _)))))))
  refine wpQuiet_nil ?_
  clear kg
  intro w3 hb3
  obtain ⟨hc3, hf3⟩ := bcell hb3
  have HH3 := Lib.hid (HH2.out.below bk_rbk hb3)
  have hw3 := hw1.trans (hb3.mono hw1.size)
  have hz3 := Nat.lt_of_lt_of_le hz1 hb3.size
  have hl3 := Nat.lt_of_lt_of_le hl2 hb3.size
  have c1 := (hc3 _ _ hl2).trans c1
  have d0 := (hc3 _ _ hz1).trans d0
  have d1 := (hc3 _ _ hz1).trans d1
  have d2 := (hc3 _ _ hz1).trans d2
  have j1 : (0 : Int) ≤ (x2 : Int) := by omega
  have j2 : (x2 : Int) < (T.B.length : Int) := by omega
  clear hc3 hf3 hb3 hl2 hz1 HH2 hw1
  go_wp2_with fail
  have kg := cell_grow
  refine region_whole (by kernel_rfl) (by kernel_rfl) ?_
  repeat (any_goals (first | go_big_quiet_step ((exact Calls.regrown_of (HG2.out _ (HH3.out.below bk_rbk (below_regrown _ _ _))))) | quiet_step ((exact Calls.regrown_of (HG2.out _ (HH3.out.below bk_rbk (below_regrown _ _ _)))))))
  refine wpQuiet_nil ?_
  clear kg
  intro w5 hb5
  obtain ⟨hc5, hf5⟩ := bcell hb5
  have HH5 := Lib.hid (HH3.out.below bk_rbk hb5)
  have hw5 := hw3.trans (hb5.mono hw3.size)
  have hl5 := HH5.out.tlt
  have c2 := HH5.out.c2
  have d0 := (hc5 _ _ hz3).trans d0
  have d1 := (hc5 _ _ hz3).trans d1
  have d2 := (hc5 _ _ hz3).trans d2
  have hz5 := Nat.lt_of_lt_of_le hz3 hb5.size
  clear hc5 hf5 hb5 hz3 hl3 HH3 hw3 c1
  go_wp2_with fail
  have kg := cell_grow
  refine region_whole (by kernel_rfl) (by kernel_rfl) ?_
  repeat (any_goals (first | go_big_quiet_step ((exact Calls.regrown_of (HS.out _ (HH5.out.below bk_rbk (below_regrown _ _ _))))) | quiet_step ((exact Calls.regrown_of (HS.out _ (HH5.out.below bk_rbk (below_regrown _ _ _)))))))
  refine wpQuiet_nil ?_
  clear kg
  intro w6 hb6
  obtain ⟨hc6, hf6⟩ := bcell hb6
  have HH6 := Lib.hid (HH5.out.below bk_rbk hb6)
  have hw6 := hw5.trans (hb6.mono hw5.size)
  have hz6 := hw6.size
  have c2 := HH6.out.c2
  have hl6 := HH6.out.tlt
  have hgr6 := Nat.lt_of_lt_of_le hgr hw6.size
  rw [HV.out] at c2
  have r3 := (hw6.cell (p := ⟨gr, o + i * 4 + 3, none⟩) hgr).trans HR.out
  clear hc6 hf6 hb6
  go_wp2
  go_ret3
  refine ⟨_, _, rfl, own_made (B := w.heap.size) hz6 (by exact heap_alloc_new w6 _) (by omega) (by unfold maxLen; omega) rfl rfl, by go_grown⟩
theorem rget12_any (t g : Nat) (v : Value) (T : Tab) (k : Ky) (w : World) (H : Tb RBk w t g v T) (h : Num T) (hk : k.good) (hf : T.st.length < 1048576) :
    Calls Tryz.prog 30 #[.pointer (some ⟨t, 0, none⟩), kyV k] w fun e w' => ∃ p c, e = .returned (.tuple #[.int .i64 ((getT T k).getD 0), .bool (getT T k).isSome, .slice p (readT T k).length c]) ∧ w'.ownsRow w.heap.size 3 1 (.slice p (readT T k).length c) (readT T k).length (ics (readT T k)) ∧ Below w.heap.size w w' := by
  obtain ⟨pv, cv, rfl⟩ := own_slice H.own
  unfold getT readT
  cases h1 : getC (T.bk (T.x1 k)) k with
  | some x => exact rget12_first t g pv cv T x k w H h hk hf h1
  | none =>
    cases h2 : getC (T.bk (T.x2 k)) k with
    | some x => exact rget12_second t g pv cv T x k w H h hk hf h1 h2
    | none =>
      cases h3 : findS T.st k with
      | none =>
        rw [find_none h3]
        exact rget12_none t g pv cv T k w H h hk hf h1 h2 h3
      | some i =>
        obtain ⟨hi, e⟩ := find_some h3
        rw [e]
        exact rget12_stash t g pv cv T k i hi w H h hk hf h1 h2 h3
end Go.Proofs.YtoihkbanmnagkaaGreat

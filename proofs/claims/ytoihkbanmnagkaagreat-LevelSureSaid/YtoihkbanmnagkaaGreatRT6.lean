/-
  What Put of the reference's table does, one way through it at a time, without kicks. No condition but that the table's cells lie in memory.
-/
import Derived.Test.YtoihkbanmnagkaaGreatRT5
import Derived.Test.YtoihkbanmnagkaaGreatIns
import Derived.Test.YtoihkbanmnagkaaGreatL21b
import Derived.Test.YtoihkbanmnagkaaGreatRBkt3
set_option linter.unusedSimpArgs false
set_option linter.unusedVariables false
namespace Go.Proofs.YtoihkbanmnagkaaGreat
open Go.RowKit Go.Sort M

set_option maxRecDepth 100000 in
set_option maxHeartbeats 4000000 in
/-- The key is in the first bucket. -/
theorem rput_old1 (t g : Nat) (v : Value) (pv : Option Addr) (cv : Nat) (T : Tab) (r : Rt) (w : World) (H : Tb RBk w t g v T) (hv : v = .slice pv T.st.length cv) (h : Num T) (hk : r.k.good) (hf : T.st.length < 1048576) (h1 : (getC (T.bk (T.x1 r.k)) r.k).isSome = true) :
    Calls Tryz.prog 31 #[.pointer (some ⟨t, 0, none⟩), kyV r.k, .int .i64 r.v] w fun e w' => e = .returned (.tuple #[]) ∧ RStep w w' t g v (T.set (T.x1 r.k) ((putC (T.bk (T.x1 r.k)) r.k r.v).getD (T.bk (T.x1 r.k)))) := by
  have HB := Lib.hid (rtwo_fact T r.k h hk)
  have HG := fun x (hx : x < T.B.length) w (H : Tb RBk w t g v T) => rget11_any g (x * 20) (T.bk x) r.k w (H.bk x hx)
  have HS := fun w (H : Tb RBk w t g v T) => find12_any pv cv T.st r.k w (Row.of_own (by have := H.own; rwa [hv] at this)) hf
  have HV := Lib.hid hv
  have HH := Lib.hid H
  have hl := H.tlt
  have c0 := H.c0
  have c1 := H.c1
  have hlim := H.blk
  have HLM := Lib.hid hlim
  have hx1 := h.x1_lt r.k
  have hx2 := h.x2_lt r.k
  have HG1 := HG _ hx1
  have HG2 := HG _ hx2
  obtain ⟨a1, ha1⟩ : ∃ a, a = (getC (T.bk (T.x1 r.k)) r.k).getD 0 := ⟨_, rfl⟩
  obtain ⟨a2, ha2⟩ : ∃ a, a = (getC (T.bk (T.x2 r.k)) r.k).getD 0 := ⟨_, rfl⟩
  obtain ⟨p1, hp1e⟩ : ∃ p, p = (getC (T.bk (T.x1 r.k)) r.k).isSome := ⟨_, rfl⟩
  obtain ⟨p2, hp2e⟩ : ∃ p, p = (getC (T.bk (T.x2 r.k)) r.k).isSome := ⟨_, rfl⟩
  obtain ⟨ks, hks⟩ : ∃ x, x = stI T.st r.k := ⟨_, rfl⟩
  rw [← ha1, ← hp1e] at HG1
  rw [← ha2, ← hp2e] at HG2
  rw [← hks] at HS
  obtain ⟨x1, hX1⟩ : ∃ x, x = T.x1 r.k := ⟨_, rfl⟩
  obtain ⟨x2, hX2⟩ : ∃ x, x = T.x2 r.k := ⟨_, rfl⟩
  rw [← hX1] at HB HG1 hx1
  rw [← hX2] at HB HG2 hx2
  have HG1 := Lib.hid HG1
  have HG2 := Lib.hid HG2
  have HS := Lib.hid HS
  have HX1 := Lib.hid hX1
  have HX2 := Lib.hid hX2
  clear H hlim hX1 hX2 HG ha1 ha2
  unfold kyV at *
  obtain rfl : p1 = true := hp1e.trans h1
  clear hp1e hp2e hks hv h
  go_enter Tryz.func31, Tryz.ntmps31
  go_wp2_with fail
  have kg := cell_grow
  refine region_whole (by kernel_rfl) (by kernel_rfl) ?_
  repeat (any_goals (first | go_big_quiet_step ((exact HB.out.at _ _ _)) | quiet_step ((exact HB.out.at _ _ _))))
  refine wpQuiet_nil ?_
  clear kg
  intro w1 hb1
  obtain ⟨hc1, hf1⟩ := bcell hb1
  have hw1 : Below w.heap.size w w1 := by
    refine Below.trans ?_ (hb1.mono ?_)
    · go_grown
    · first | omega | go_size
  have d0 : w1.cell? ⟨w.heap.size, 0, none⟩ = some (.int .u64 (r.k.h : Int)) := by
    rw [hb1.cell (by simp <;> omega)]
    first | assumption | (simp [go_sem]; done) | (simp [go_sem, *]; done)
  have d1 : w1.cell? ⟨w.heap.size, 1, none⟩ = some (.int .u64 (r.k.l : Int)) := by
    rw [hb1.cell (by simp <;> omega)]
    first | assumption | (simp [go_sem]; done) | (simp [go_sem, *]; done)
  have d2 : w1.cell? ⟨w.heap.size, 2, none⟩ = some (.int .i64 r.k.n) := by
    rw [hb1.cell (by simp <;> omega)]
    first | assumption | (simp [go_sem]; done) | (simp [go_sem, *]; done)
  have z0 : w1.frozen? ⟨w.heap.size, 0, none⟩ = false := by
    rw [hb1.frozen (by simp <;> omega)]
    first | assumption | (simp [go_sem]; done) | (simp [go_sem, *]; done)
  have z1 : w1.frozen? ⟨w.heap.size, 1, none⟩ = false := by
    rw [hb1.frozen (by simp <;> omega)]
    first | assumption | (simp [go_sem]; done) | (simp [go_sem, *]; done)
  have z2 : w1.frozen? ⟨w.heap.size, 2, none⟩ = false := by
    rw [hb1.frozen (by simp <;> omega)]
    first | assumption | (simp [go_sem]; done) | (simp [go_sem, *]; done)
  have hz1 : w.heap.size < w1.heap.size := by
    have hs := hb1.size
    try simp only [World.size_alloc, World.size_setCell] at hs
    omega
  have HC1 := Lib.hid (HH.out.below bk_rbk hw1)
  have c1 := HC1.out.c1
  have hl1 := HC1.out.tlt
  have i1 : (0 : Int) ≤ (x1 : Int) := by omega
  have i2 : (x1 : Int) < (T.B.length : Int) := by omega
  have i3 : (0 : Int) ≤ (x2 : Int) := by omega
  have i4 : (x2 : Int) < (T.B.length : Int) := by omega
  clear hc1 hf1 hb1 HB hl c0
  go_wp2_with fail
  have kg := cell_grow
  refine region_whole (by kernel_rfl) (by kernel_rfl) ?_
  repeat (any_goals (first | go_big_quiet_step ((exact Calls.regrown_of (HG1.out _ (HC1.out.below bk_rbk (below_regrown _ _ _))))) | quiet_step ((exact Calls.regrown_of (HG1.out _ (HC1.out.below bk_rbk (below_regrown _ _ _)))))))
  refine wpQuiet_nil ?_
  clear kg
  intro w2 hb2
  obtain ⟨hc2, hf2⟩ := bcell hb2
  have d0 := (hc2 _ _ hz1).trans d0
  have d1 := (hc2 _ _ hz1).trans d1
  have d2 := (hc2 _ _ hz1).trans d2
  have z0 := (hf2 _ _ hz1).trans z0
  have z1 := (hf2 _ _ hz1).trans z1
  have z2 := (hf2 _ _ hz1).trans z2
  have hz2 := Nat.lt_of_lt_of_le hz1 hb2.size
  have HC2 := Lib.hid (HC1.out.below bk_rbk hb2)
  have hw2 := hw1.trans (hb2.mono hw1.size)
  have c1 := HC2.out.c1
  have hl2 := HC2.out.tlt
  clear hc2 hf2 hb2 hw1 hl1 HC1 hz1
  go_wp2_with fail
  have kg := cell_grow
  refine region_whole (by kernel_rfl) (by kernel_rfl) ?_
  repeat (any_goals (first | go_big_quiet_step ((exact Calls.regrown_of (HG2.out _ (HC2.out.below bk_rbk (below_regrown _ _ _))))) | quiet_step ((exact Calls.regrown_of (HG2.out _ (HC2.out.below bk_rbk (below_regrown _ _ _)))))))
  refine wpQuiet_nil ?_
  clear kg
  intro w3 hb3
  obtain ⟨hc3, hf3⟩ := bcell hb3
  have d0 := (hc3 _ _ hz2).trans d0
  have d1 := (hc3 _ _ hz2).trans d1
  have d2 := (hc3 _ _ hz2).trans d2
  have z0 := (hf3 _ _ hz2).trans z0
  have z1 := (hf3 _ _ hz2).trans z1
  have z2 := (hf3 _ _ hz2).trans z2
  have hz3 := Nat.lt_of_lt_of_le hz2 hb3.size
  have HC3 := Lib.hid (HC2.out.below bk_rbk hb3)
  have hw3 := hw2.trans (hb3.mono hw2.size)
  have c1 := HC3.out.c1
  have hl3 := HC3.out.tlt
  clear hc3 hf3 hb3 hw2 hl2 HC2 hz2
  have c2 := HC3.out.c2
  rw [HV.out] at c2
  go_wp2_with fail
  have kg := cell_grow
  refine region_whole (by kernel_rfl) (by kernel_rfl) ?_
  repeat (any_goals (first | go_big_quiet_step ((exact Calls.regrown_of (HS.out _ (HC3.out.below bk_rbk (below_regrown _ _ _))))) | quiet_step ((exact Calls.regrown_of (HS.out _ (HC3.out.below bk_rbk (below_regrown _ _ _)))))))
  refine wpQuiet_nil ?_
  clear kg
  intro w4 hb4
  obtain ⟨hc4, hf4⟩ := bcell hb4
  have d0 := (hc4 _ _ hz3).trans d0
  have d1 := (hc4 _ _ hz3).trans d1
  have d2 := (hc4 _ _ hz3).trans d2
  have z0 := (hf4 _ _ hz3).trans z0
  have z1 := (hf4 _ _ hz3).trans z1
  have z2 := (hf4 _ _ hz3).trans z2
  have hz4 := Nat.lt_of_lt_of_le hz3 hb4.size
  have HC4 := Lib.hid (HC3.out.below bk_rbk hb4)
  have hw4 := hw3.trans (hb4.mono hw3.size)
  have c1 := HC4.out.c1
  have hl4 := HC4.out.tlt
  clear hc4 hf4 hb4 hw3 hl3 HC3 hz3
  clear c2
  have HT4 := Lib.hid (Touch.quiet hw4 (S := Blk t g v))
  have hg4 := HC4.out.blt
  have htg := HC4.out.tg
  have hlg : g < w.heap.size := HLM.out g (.inr (.inl rfl))
  have hwg : w.heap.size ≠ g := by omega
  clear hw4 HG1 HG2 HS
  have hP1 : ∀ W, Hid (Tb RBk W t g v T ∧ Touch (Blk t g v) w4 W) → W.cell? ⟨w.heap.size, 0, none⟩ = some (.int .u64 (r.k.h : Int)) → W.cell? ⟨w.heap.size, 1, none⟩ = some (.int .u64 (r.k.l : Int)) → W.cell? ⟨w.heap.size, 2, none⟩ = some (.int .i64 r.k.n) →
      Calls Tryz.prog 53 #[.pointer (some ⟨g, x1 * 20, none⟩), .agg #[.int .u64 (r.k.h : Int), .int .u64 (r.k.l : Int), .int .i64 r.k.n], .int .i64 r.v] W fun e w' => e = .returned (.bool (putC (T.bk x1) r.k r.v).isSome) ∧ Hid (Tb RBk w' t g v (T.set x1 ((putC (T.bk x1) r.k r.v).getD (T.bk x1))) ∧ Touch (Blk t g v) w4 w') ∧
        w'.cell? ⟨t, 1, none⟩ = some (.slice (some ⟨g, 0, none⟩) T.B.length T.B.length) ∧ w'.cell? ⟨w.heap.size, 0, none⟩ = some (.int .u64 (r.k.h : Int)) ∧ w'.cell? ⟨w.heap.size, 1, none⟩ = some (.int .u64 (r.k.l : Int)) ∧ w'.cell? ⟨w.heap.size, 2, none⟩ = some (.int .i64 r.k.n) := by
    intro W hW q0 q1 q2
    refine (rput11_any g (x1 * 20) (T.bk x1) r.k r.v W (hW.out.1.bk x1 hx1)).mono ?_
    rintro e w' ⟨rfl, h1, h2⟩
    have hB := World.block_lt_of_cell? W ⟨w.heap.size, 0, none⟩ q0
    have h3 := hW.out.1.turn bk_rbk hx1 h2 h1
    exact ⟨rfl, ⟨h3.1, hW.out.2.trans h3.2⟩, (h2.far hW.out.1.tlt htg 1).1.trans hW.out.1.c1, (h2.far hB hwg 0).1.trans q0, (h2.far hB hwg 1).1.trans q1, (h2.far hB hwg 2).1.trans q2⟩
  have HP1 := Lib.hid hP1
  clear hP1
  go_wp2_with fail
  have kg := cell_grow
  refine region_tail 8 (by kernel_rfl) (by kernel_rfl) ?_
  simp only [List.take_succ_cons, List.take_zero, List.drop_succ_cons, List.drop_zero]
  repeat (any_goals (first | go_big_quiet_step (fail) | quiet_step (fail)))
  refine wpQuiet_nil ?_
  clear kg
  intro w5 hb5
  obtain ⟨hc5, hf5⟩ := bcell hb5
  have HC5 := Lib.hid (HC4.out.below bk_rbk hb5)
  have hT5 := Touch.quiet hb5 (S := Blk t g v)
  have d0 := (hc5 _ _ hz4).trans d0
  have d1 := (hc5 _ _ hz4).trans d1
  have d2 := (hc5 _ _ hz4).trans d2
  clear hc5 hf5 hb5
  go_wp2_with fail
  refine (HP1.out _ ⟨HC5.out, hT5⟩ d0 d1 d2).mono ?_
  rintro e w6 ⟨rfl, hF6, k0, k1, k2, k3⟩
  go_wp2
  (try simp only [Exit.inBlock, Exit.then])
  refine bodyPost_ret (results_none rfl _ _ _) rfl ?_
  rw [← HX1.out]
  exact ⟨rfl, RStep.same hF6.out.1 (HT4.out.trans hF6.out.2)⟩
set_option maxRecDepth 100000 in
set_option maxHeartbeats 4000000 in
/-- The key is in the second bucket. -/
theorem rput_old2 (t g : Nat) (v : Value) (pv : Option Addr) (cv : Nat) (T : Tab) (r : Rt) (w : World) (H : Tb RBk w t g v T) (hv : v = .slice pv T.st.length cv) (h : Num T) (hk : r.k.good) (hf : T.st.length < 1048576) (h1 : (getC (T.bk (T.x1 r.k)) r.k).isSome = false) (h2 : (getC (T.bk (T.x2 r.k)) r.k).isSome = true) :
    Calls Tryz.prog 31 #[.pointer (some ⟨t, 0, none⟩), kyV r.k, .int .i64 r.v] w fun e w' => e = .returned (.tuple #[]) ∧ RStep w w' t g v (T.set (T.x2 r.k) ((putC (T.bk (T.x2 r.k)) r.k r.v).getD (T.bk (T.x2 r.k)))) := by
  have HB := Lib.hid (rtwo_fact T r.k h hk)
  have HG := fun x (hx : x < T.B.length) w (H : Tb RBk w t g v T) => rget11_any g (x * 20) (T.bk x) r.k w (H.bk x hx)
  have HS := fun w (H : Tb RBk w t g v T) => find12_any pv cv T.st r.k w (Row.of_own (by have := H.own; rwa [hv] at this)) hf
  have HV := Lib.hid hv
  have HH := Lib.hid H
  have hl := H.tlt
  have c0 := H.c0
  have c1 := H.c1
  have hlim := H.blk
  have HLM := Lib.hid hlim
  have hx1 := h.x1_lt r.k
  have hx2 := h.x2_lt r.k
  have HG1 := HG _ hx1
  have HG2 := HG _ hx2
  obtain ⟨a1, ha1⟩ : ∃ a, a = (getC (T.bk (T.x1 r.k)) r.k).getD 0 := ⟨_, rfl⟩
  obtain ⟨a2, ha2⟩ : ∃ a, a = (getC (T.bk (T.x2 r.k)) r.k).getD 0 := ⟨_, rfl⟩
  obtain ⟨p1, hp1e⟩ : ∃ p, p = (getC (T.bk (T.x1 r.k)) r.k).isSome := ⟨_, rfl⟩
  obtain ⟨p2, hp2e⟩ : ∃ p, p = (getC (T.bk (T.x2 r.k)) r.k).isSome := ⟨_, rfl⟩
  obtain ⟨ks, hks⟩ : ∃ x, x = stI T.st r.k := ⟨_, rfl⟩
  rw [← ha1, ← hp1e] at HG1
  rw [← ha2, ← hp2e] at HG2
  rw [← hks] at HS
  obtain ⟨x1, hX1⟩ : ∃ x, x = T.x1 r.k := ⟨_, rfl⟩
  obtain ⟨x2, hX2⟩ : ∃ x, x = T.x2 r.k := ⟨_, rfl⟩
  rw [← hX1] at HB HG1 hx1
  rw [← hX2] at HB HG2 hx2
  have HG1 := Lib.hid HG1
  have HG2 := Lib.hid HG2
  have HS := Lib.hid HS
  have HX1 := Lib.hid hX1
  have HX2 := Lib.hid hX2
  clear H hlim hX1 hX2 HG ha1 ha2
  unfold kyV at *
  obtain rfl : p1 = false := hp1e.trans h1
  obtain rfl : p2 = true := hp2e.trans h2
  clear hp1e hp2e hks hv h
  go_enter Tryz.func31, Tryz.ntmps31
  go_wp2_with fail
  have kg := cell_grow
  refine region_whole (by kernel_rfl) (by kernel_rfl) ?_
  repeat (any_goals (first | go_big_quiet_step ((exact HB.out.at _ _ _)) | quiet_step ((exact HB.out.at _ _ _))))
  refine wpQuiet_nil ?_
  clear kg
  intro w1 hb1
  obtain ⟨hc1, hf1⟩ := bcell hb1
  have hw1 : Below w.heap.size w w1 := by
    refine Below.trans ?_ (hb1.mono ?_)
    · go_grown
    · first | omega | go_size
  have d0 : w1.cell? ⟨w.heap.size, 0, none⟩ = some (.int .u64 (r.k.h : Int)) := by
    rw [hb1.cell (by simp <;> omega)]
    first | assumption | (simp [go_sem]; done) | (simp [go_sem, *]; done)
  have d1 : w1.cell? ⟨w.heap.size, 1, none⟩ = some (.int .u64 (r.k.l : Int)) := by
    rw [hb1.cell (by simp <;> omega)]
    first | assumption | (simp [go_sem]; done) | (simp [go_sem, *]; done)
  have d2 : w1.cell? ⟨w.heap.size, 2, none⟩ = some (.int .i64 r.k.n) := by
    rw [hb1.cell (by simp <;> omega)]
    first | assumption | (simp [go_sem]; done) | (simp [go_sem, *]; done)
  have z0 : w1.frozen? ⟨w.heap.size, 0, none⟩ = false := by
    rw [hb1.frozen (by simp <;> omega)]
    first | assumption | (simp [go_sem]; done) | (simp [go_sem, *]; done)
  have z1 : w1.frozen? ⟨w.heap.size, 1, none⟩ = false := by
    rw [hb1.frozen (by simp <;> omega)]
    first | assumption | (simp [go_sem]; done) | (simp [go_sem, *]; done)
  have z2 : w1.frozen? ⟨w.heap.size, 2, none⟩ = false := by
    rw [hb1.frozen (by simp <;> omega)]
    first | assumption | (simp [go_sem]; done) | (simp [go_sem, *]; done)
  have hz1 : w.heap.size < w1.heap.size := by
    have hs := hb1.size
    try simp only [World.size_alloc, World.size_setCell] at hs
    omega
  have HC1 := Lib.hid (HH.out.below bk_rbk hw1)
  have c1 := HC1.out.c1
  have hl1 := HC1.out.tlt
  have i1 : (0 : Int) ≤ (x1 : Int) := by omega
  have i2 : (x1 : Int) < (T.B.length : Int) := by omega
  have i3 : (0 : Int) ≤ (x2 : Int) := by omega
  have i4 : (x2 : Int) < (T.B.length : Int) := by omega
  clear hc1 hf1 hb1 HB hl c0
  go_wp2_with fail
  have kg := cell_grow
  refine region_whole (by kernel_rfl) (by kernel_rfl) ?_
  repeat (any_goals (first | go_big_quiet_step ((exact Calls.regrown_of (HG1.out _ (HC1.out.below bk_rbk (below_regrown _ _ _))))) | quiet_step ((exact Calls.regrown_of (HG1.out _ (HC1.out.below bk_rbk (below_regrown _ _ _)))))))
  refine wpQuiet_nil ?_
  clear kg
  intro w2 hb2
  obtain ⟨hc2, hf2⟩ := bcell hb2
  have d0 := (hc2 _ _ hz1).trans d0
  have d1 := (hc2 _ _ hz1).trans d1
  have d2 := (hc2 _ _ hz1).trans d2
  have z0 := (hf2 _ _ hz1).trans z0
  have z1 := (hf2 _ _ hz1).trans z1
  have z2 := (hf2 _ _ hz1).trans z2
  have hz2 := Nat.lt_of_lt_of_le hz1 hb2.size
  have HC2 := Lib.hid (HC1.out.below bk_rbk hb2)
  have hw2 := hw1.trans (hb2.mono hw1.size)
  have c1 := HC2.out.c1
  have hl2 := HC2.out.tlt
  clear hc2 hf2 hb2 hw1 hl1 HC1 hz1
  go_wp2_with fail
  have kg := cell_grow
  refine region_whole (by kernel_rfl) (by kernel_rfl) ?_
  repeat (any_goals (first | go_big_quiet_step ((exact Calls.regrown_of (HG2.out _ (HC2.out.below bk_rbk (below_regrown _ _ _))))) | quiet_step ((exact Calls.regrown_of (HG2.out _ (HC2.out.below bk_rbk (below_regrown _ _ _)))))))
  refine wpQuiet_nil ?_
  clear kg
  intro w3 hb3
  obtain ⟨hc3, hf3⟩ := bcell hb3
  have d0 := (hc3 _ _ hz2).trans d0
  have d1 := (hc3 _ _ hz2).trans d1
  have d2 := (hc3 _ _ hz2).trans d2
  have z0 := (hf3 _ _ hz2).trans z0
  have z1 := (hf3 _ _ hz2).trans z1
  have z2 := (hf3 _ _ hz2).trans z2
  have hz3 := Nat.lt_of_lt_of_le hz2 hb3.size
  have HC3 := Lib.hid (HC2.out.below bk_rbk hb3)
  have hw3 := hw2.trans (hb3.mono hw2.size)
  have c1 := HC3.out.c1
  have hl3 := HC3.out.tlt
  clear hc3 hf3 hb3 hw2 hl2 HC2 hz2
  have c2 := HC3.out.c2
  rw [HV.out] at c2
  go_wp2_with fail
  have kg := cell_grow
  refine region_whole (by kernel_rfl) (by kernel_rfl) ?_
  repeat (any_goals (first | go_big_quiet_step ((exact Calls.regrown_of (HS.out _ (HC3.out.below bk_rbk (below_regrown _ _ _))))) | quiet_step ((exact Calls.regrown_of (HS.out _ (HC3.out.below bk_rbk (below_regrown _ _ _)))))))
  refine wpQuiet_nil ?_
  clear kg
  intro w4 hb4
  obtain ⟨hc4, hf4⟩ := bcell hb4
  have d0 := (hc4 _ _ hz3).trans d0
  have d1 := (hc4 _ _ hz3).trans d1
  have d2 := (hc4 _ _ hz3).trans d2
  have z0 := (hf4 _ _ hz3).trans z0
  have z1 := (hf4 _ _ hz3).trans z1
  have z2 := (hf4 _ _ hz3).trans z2
  have hz4 := Nat.lt_of_lt_of_le hz3 hb4.size
  have HC4 := Lib.hid (HC3.out.below bk_rbk hb4)
  have hw4 := hw3.trans (hb4.mono hw3.size)
  have c1 := HC4.out.c1
  have hl4 := HC4.out.tlt
  clear hc4 hf4 hb4 hw3 hl3 HC3 hz3
  clear c2
  have HT4 := Lib.hid (Touch.quiet hw4 (S := Blk t g v))
  have hg4 := HC4.out.blt
  have htg := HC4.out.tg
  have hlg : g < w.heap.size := HLM.out g (.inr (.inl rfl))
  have hwg : w.heap.size ≠ g := by omega
  clear hw4 HG1 HG2 HS
  have hP2 : ∀ W, Hid (Tb RBk W t g v T ∧ Touch (Blk t g v) w4 W) → W.cell? ⟨w.heap.size, 0, none⟩ = some (.int .u64 (r.k.h : Int)) → W.cell? ⟨w.heap.size, 1, none⟩ = some (.int .u64 (r.k.l : Int)) → W.cell? ⟨w.heap.size, 2, none⟩ = some (.int .i64 r.k.n) →
      Calls Tryz.prog 53 #[.pointer (some ⟨g, x2 * 20, none⟩), .agg #[.int .u64 (r.k.h : Int), .int .u64 (r.k.l : Int), .int .i64 r.k.n], .int .i64 r.v] W fun e w' => e = .returned (.bool (putC (T.bk x2) r.k r.v).isSome) ∧ Hid (Tb RBk w' t g v (T.set x2 ((putC (T.bk x2) r.k r.v).getD (T.bk x2))) ∧ Touch (Blk t g v) w4 w') ∧
        w'.cell? ⟨t, 1, none⟩ = some (.slice (some ⟨g, 0, none⟩) T.B.length T.B.length) ∧ w'.cell? ⟨w.heap.size, 0, none⟩ = some (.int .u64 (r.k.h : Int)) ∧ w'.cell? ⟨w.heap.size, 1, none⟩ = some (.int .u64 (r.k.l : Int)) ∧ w'.cell? ⟨w.heap.size, 2, none⟩ = some (.int .i64 r.k.n) := by
    intro W hW q0 q1 q2
    refine (rput11_any g (x2 * 20) (T.bk x2) r.k r.v W (hW.out.1.bk x2 hx2)).mono ?_
    rintro e w' ⟨rfl, h1, h2⟩
    have hB := World.block_lt_of_cell? W ⟨w.heap.size, 0, none⟩ q0
    have h3 := hW.out.1.turn bk_rbk hx2 h2 h1
    exact ⟨rfl, ⟨h3.1, hW.out.2.trans h3.2⟩, (h2.far hW.out.1.tlt htg 1).1.trans hW.out.1.c1, (h2.far hB hwg 0).1.trans q0, (h2.far hB hwg 1).1.trans q1, (h2.far hB hwg 2).1.trans q2⟩
  have HP2 := Lib.hid hP2
  clear hP2
  go_wp2_with fail
  have kg := cell_grow
  refine region_tail 8 (by kernel_rfl) (by kernel_rfl) ?_
  simp only [List.take_succ_cons, List.take_zero, List.drop_succ_cons, List.drop_zero]
  repeat (any_goals (first | go_big_quiet_step (fail) | quiet_step (fail)))
  refine wpQuiet_nil ?_
  clear kg
  intro w5 hb5
  obtain ⟨hc5, hf5⟩ := bcell hb5
  have HC5 := Lib.hid (HC4.out.below bk_rbk hb5)
  have hT5 := Touch.quiet hb5 (S := Blk t g v)
  have d0 := (hc5 _ _ hz4).trans d0
  have d1 := (hc5 _ _ hz4).trans d1
  have d2 := (hc5 _ _ hz4).trans d2
  clear hc5 hf5 hb5
  go_wp2_with fail
  refine (HP2.out _ ⟨HC5.out, hT5⟩ d0 d1 d2).mono ?_
  rintro e w6 ⟨rfl, hF6, k0, k1, k2, k3⟩
  go_wp2
  (try simp only [Exit.inBlock, Exit.then])
  refine bodyPost_ret (results_none rfl _ _ _) rfl ?_
  rw [← HX2.out]
  exact ⟨rfl, RStep.same hF6.out.1 (HT4.out.trans hF6.out.2)⟩
/-- Into the stash. -/
theorem restash_into {w4 : World} {t g : Nat} {v : Value} {pv : Option Addr} {cv : Nat} {T : Tab} (q : Rt) (H4 : Tb RBk w4 t g v T) (hv : v = .slice pv T.st.length cv) (hf : T.st.length < 1048576) (W : World) (hW : Below w4.heap.size w4 W) :
    Calls Tryz.prog 18 #[.slice pv T.st.length cv, rtA q] W fun e w' => ∃ p c, e = .returned (.slice p (intoS T.st q).length c) ∧
      Hid (Tb RBk (w'.setCell ⟨t, 2, none⟩ (.slice p (intoS T.st q).length c)) t g (.slice p (intoS T.st q).length c) { T with st := intoS T.st q } ∧ Touch (Blk t g v) w4 (w'.setCell ⟨t, 2, none⟩ (.slice p (intoS T.st q).length c)) ∧ ∀ k, Blk t g (.slice p (intoS T.st q).length c) k → k < w4.heap.size → Blk t g v k) ∧
      w'.cell? ⟨t, 2, none⟩ = some (.slice pv T.st.length cv) ∧ w'.frozen? ⟨t, 2, none⟩ = false := by
  have hTW := H4.below bk_rbk hW
  have hown := hTW.own
  rw [hv] at hown
  refine (into_any 0 pv cv T.st q W hown hf).mono ?_
  rintro e w' ⟨p, c, rfl, h1, h2⟩
  have h3 := hTW.restash bk_rbk (st' := intoS T.st q) h2 h1
  have hlt := hTW.tlt
  refine ⟨p, c, rfl, ⟨h3.1, (Touch.quiet hW).trans h3.2.1, fun k hk hkl => h3.2.2 k hk (Nat.lt_of_lt_of_le hkl hW.size)⟩, ?_, (h2.frozen (p := ⟨t, 2, none⟩) hlt).trans (hTW.f 2)⟩
  rw [← hv]
  exact (h2.cell (p := ⟨t, 2, none⟩) hlt).trans hTW.c2
set_option maxRecDepth 100000 in
set_option maxHeartbeats 4000000 in
/-- The key is in the stash. -/
theorem rput_old3 (t g : Nat) (v : Value) (pv : Option Addr) (cv : Nat) (T : Tab) (r : Rt) (w : World) (H : Tb RBk w t g v T) (hv : v = .slice pv T.st.length cv) (h : Num T) (hk : r.k.good) (hf : T.st.length < 1048576) (h1 : (getC (T.bk (T.x1 r.k)) r.k).isSome = false) (h2 : (getC (T.bk (T.x2 r.k)) r.k).isSome = false) (i : Nat) (h3 : findS T.st r.k = some i) :
    Calls Tryz.prog 31 #[.pointer (some ⟨t, 0, none⟩), kyV r.k, .int .i64 r.v] w fun e w' => e = .returned (.tuple #[]) ∧ RStep w w' t g v { T with st := intoS T.st r } := by
  have HI := Lib.hid (fun w4 (H4 : Tb RBk w4 t g v T) => restash_into r H4 hv hf)
  unfold rtA at HI
  obtain ⟨N, hN⟩ : ∃ N, N = (intoS T.st r).length := ⟨_, rfl⟩
  rw [← hN] at HI
  clear hN
  have HB := Lib.hid (rtwo_fact T r.k h hk)
  have HG := fun x (hx : x < T.B.length) w (H : Tb RBk w t g v T) => rget11_any g (x * 20) (T.bk x) r.k w (H.bk x hx)
  have HS := fun w (H : Tb RBk w t g v T) => find12_any pv cv T.st r.k w (Row.of_own (by have := H.own; rwa [hv] at this)) hf
  have HV := Lib.hid hv
  have HH := Lib.hid H
  have hl := H.tlt
  have c0 := H.c0
  have c1 := H.c1
  have hlim := H.blk
  have HLM := Lib.hid hlim
  have hx1 := h.x1_lt r.k
  have hx2 := h.x2_lt r.k
  have HG1 := HG _ hx1
  have HG2 := HG _ hx2
  obtain ⟨a1, ha1⟩ : ∃ a, a = (getC (T.bk (T.x1 r.k)) r.k).getD 0 := ⟨_, rfl⟩
  obtain ⟨a2, ha2⟩ : ∃ a, a = (getC (T.bk (T.x2 r.k)) r.k).getD 0 := ⟨_, rfl⟩
  obtain ⟨p1, hp1e⟩ : ∃ p, p = (getC (T.bk (T.x1 r.k)) r.k).isSome := ⟨_, rfl⟩
  obtain ⟨p2, hp2e⟩ : ∃ p, p = (getC (T.bk (T.x2 r.k)) r.k).isSome := ⟨_, rfl⟩
  obtain ⟨ks, hks⟩ : ∃ x, x = stI T.st r.k := ⟨_, rfl⟩
  rw [← ha1, ← hp1e] at HG1
  rw [← ha2, ← hp2e] at HG2
  rw [← hks] at HS
  obtain ⟨x1, hX1⟩ : ∃ x, x = T.x1 r.k := ⟨_, rfl⟩
  obtain ⟨x2, hX2⟩ : ∃ x, x = T.x2 r.k := ⟨_, rfl⟩
  rw [← hX1] at HB HG1 hx1
  rw [← hX2] at HB HG2 hx2
  have HG1 := Lib.hid HG1
  have HG2 := Lib.hid HG2
  have HS := Lib.hid HS
  have HX1 := Lib.hid hX1
  have HX2 := Lib.hid hX2
  clear H hlim hX1 hX2 HG ha1 ha2
  unfold kyV at *
  obtain rfl : p1 = false := hp1e.trans h1
  obtain rfl : p2 = false := hp2e.trans h2
  obtain rfl : ks = (i : Int) := hks.trans (stI_some h3)
  have hge : (0 : Int) ≤ (i : Int) := by omega
  clear hp1e hp2e hks hv h
  go_enter Tryz.func31, Tryz.ntmps31
  go_wp2_with fail
  have kg := cell_grow
  refine region_whole (by kernel_rfl) (by kernel_rfl) ?_
  repeat (any_goals (first | go_big_quiet_step ((exact HB.out.at _ _ _)) | quiet_step ((exact HB.out.at _ _ _))))
  refine wpQuiet_nil ?_
  clear kg
  intro w1 hb1
  obtain ⟨hc1, hf1⟩ := bcell hb1
  have hw1 : Below w.heap.size w w1 := by
    refine Below.trans ?_ (hb1.mono ?_)
    · go_grown
    · first | omega | go_size
  have d0 : w1.cell? ⟨w.heap.size, 0, none⟩ = some (.int .u64 (r.k.h : Int)) := by
    rw [hb1.cell (by simp <;> omega)]
    first | assumption | (simp [go_sem]; done) | (simp [go_sem, *]; done)
  have d1 : w1.cell? ⟨w.heap.size, 1, none⟩ = some (.int .u64 (r.k.l : Int)) := by
    rw [hb1.cell (by simp <;> omega)]
    first | assumption | (simp [go_sem]; done) | (simp [go_sem, *]; done)
  have d2 : w1.cell? ⟨w.heap.size, 2, none⟩ = some (.int .i64 r.k.n) := by
    rw [hb1.cell (by simp <;> omega)]
    first | assumption | (simp [go_sem]; done) | (simp [go_sem, *]; done)
  have z0 : w1.frozen? ⟨w.heap.size, 0, none⟩ = false := by
    rw [hb1.frozen (by simp <;> omega)]
    first | assumption | (simp [go_sem]; done) | (simp [go_sem, *]; done)
  have z1 : w1.frozen? ⟨w.heap.size, 1, none⟩ = false := by
    rw [hb1.frozen (by simp <;> omega)]
    first | assumption | (simp [go_sem]; done) | (simp [go_sem, *]; done)
  have z2 : w1.frozen? ⟨w.heap.size, 2, none⟩ = false := by
    rw [hb1.frozen (by simp <;> omega)]
    first | assumption | (simp [go_sem]; done) | (simp [go_sem, *]; done)
  have hz1 : w.heap.size < w1.heap.size := by
    have hs := hb1.size
    try simp only [World.size_alloc, World.size_setCell] at hs
    omega
  have HC1 := Lib.hid (HH.out.below bk_rbk hw1)
  have c1 := HC1.out.c1
  have hl1 := HC1.out.tlt
  have i1 : (0 : Int) ≤ (x1 : Int) := by omega
  have i2 : (x1 : Int) < (T.B.length : Int) := by omega
  have i3 : (0 : Int) ≤ (x2 : Int) := by omega
  have i4 : (x2 : Int) < (T.B.length : Int) := by omega
  clear hc1 hf1 hb1 HB hl c0
  go_wp2_with fail
  have kg := cell_grow
  refine region_whole (by kernel_rfl) (by kernel_rfl) ?_
  repeat (any_goals (first | go_big_quiet_step ((exact Calls.regrown_of (HG1.out _ (HC1.out.below bk_rbk (below_regrown _ _ _))))) | quiet_step ((exact Calls.regrown_of (HG1.out _ (HC1.out.below bk_rbk (below_regrown _ _ _)))))))
  refine wpQuiet_nil ?_
  clear kg
  intro w2 hb2
  obtain ⟨hc2, hf2⟩ := bcell hb2
  have d0 := (hc2 _ _ hz1).trans d0
  have d1 := (hc2 _ _ hz1).trans d1
  have d2 := (hc2 _ _ hz1).trans d2
  have z0 := (hf2 _ _ hz1).trans z0
  have z1 := (hf2 _ _ hz1).trans z1
  have z2 := (hf2 _ _ hz1).trans z2
  have hz2 := Nat.lt_of_lt_of_le hz1 hb2.size
  have HC2 := Lib.hid (HC1.out.below bk_rbk hb2)
  have hw2 := hw1.trans (hb2.mono hw1.size)
  have c1 := HC2.out.c1
  have hl2 := HC2.out.tlt
  clear hc2 hf2 hb2 hw1 hl1 HC1 hz1
  go_wp2_with fail
  have kg := cell_grow
  refine region_whole (by kernel_rfl) (by kernel_rfl) ?_
  repeat (any_goals (first | go_big_quiet_step ((exact Calls.regrown_of (HG2.out _ (HC2.out.below bk_rbk (below_regrown _ _ _))))) | quiet_step ((exact Calls.regrown_of (HG2.out _ (HC2.out.below bk_rbk (below_regrown _ _ _)))))))
  refine wpQuiet_nil ?_
  clear kg
  intro w3 hb3
  obtain ⟨hc3, hf3⟩ := bcell hb3
  have d0 := (hc3 _ _ hz2).trans d0
  have d1 := (hc3 _ _ hz2).trans d1
  have d2 := (hc3 _ _ hz2).trans d2
  have z0 := (hf3 _ _ hz2).trans z0
  have z1 := (hf3 _ _ hz2).trans z1
  have z2 := (hf3 _ _ hz2).trans z2
  have hz3 := Nat.lt_of_lt_of_le hz2 hb3.size
  have HC3 := Lib.hid (HC2.out.below bk_rbk hb3)
  have hw3 := hw2.trans (hb3.mono hw2.size)
  have c1 := HC3.out.c1
  have hl3 := HC3.out.tlt
  clear hc3 hf3 hb3 hw2 hl2 HC2 hz2
  have c2 := HC3.out.c2
  rw [HV.out] at c2
  go_wp2_with fail
  have kg := cell_grow
  refine region_whole (by kernel_rfl) (by kernel_rfl) ?_
  repeat (any_goals (first | go_big_quiet_step ((exact Calls.regrown_of (HS.out _ (HC3.out.below bk_rbk (below_regrown _ _ _))))) | quiet_step ((exact Calls.regrown_of (HS.out _ (HC3.out.below bk_rbk (below_regrown _ _ _)))))))
  refine wpQuiet_nil ?_
  clear kg
  intro w4 hb4
  obtain ⟨hc4, hf4⟩ := bcell hb4
  have d0 := (hc4 _ _ hz3).trans d0
  have d1 := (hc4 _ _ hz3).trans d1
  have d2 := (hc4 _ _ hz3).trans d2
  have z0 := (hf4 _ _ hz3).trans z0
  have z1 := (hf4 _ _ hz3).trans z1
  have z2 := (hf4 _ _ hz3).trans z2
  have hz4 := Nat.lt_of_lt_of_le hz3 hb4.size
  have HC4 := Lib.hid (HC3.out.below bk_rbk hb4)
  have hw4 := hw3.trans (hb4.mono hw3.size)
  have c1 := HC4.out.c1
  have hl4 := HC4.out.tlt
  clear hc4 hf4 hb4 hw3 hl3 HC3 hz3
  clear c2
  have HT4 := Lib.hid (Touch.quiet hw4 (S := Blk t g v))
  have hg4 := HC4.out.blt
  have htg := HC4.out.tg
  have hlg : g < w.heap.size := HLM.out g (.inr (.inl rfl))
  have hwg : w.heap.size ≠ g := by omega
  clear hw4 HG1 HG2 HS
  have HII := Lib.hid (HI.out w4 HC4.out)
  have c2 := HC4.out.c2
  have f2 := HC4.out.f 2
  rw [HV.out] at c2
  go_wp2_with fail
  have kg := cell_grow
  refine wp_region_noPanic ?_
  generalize hNQ : NoPanic _ = NQ
  refine region_one [0, 1, 2, 3, 6] [4, 5, 7] [8, 9, 10, 11] (by kernel_rfl) (by rw [← hNQ]; exact fun _ _ _ h => h) (by kernel_rfl) (by kernel_rfl) ?_
  simp only [pickL, List.filterMap_cons, List.filterMap_nil, List.getElem?_toArray, List.getElem?_cons_succ, List.getElem?_cons_zero]
  repeat (any_goals (quiet_step (fail)))
  refine wpQuiet_nil ?_
  clear kg
  intro w9 hb9
  go_wp2_with fail
  refine (HII.out _ hb9).mono ?_
  rintro e w10 ⟨p, c, rfl, hF, j0, jf⟩
  have hl10 := World.block_lt_of_cell? w10 ⟨t, 2, none⟩ j0
  go_wp2_with fail
  rw [← hNQ]
  refine NoPanic.normal ?_
  generalize (w10.setCell ⟨t, 2, none⟩ (.slice p N c)) = w11 at hF ⊢
  clear j0 jf hl10 hb9 hNQ
  go_wp2
  (try simp only [Exit.inBlock, Exit.then])
  refine bodyPost_ret (results_none rfl _ _ _) rfl ?_
  exact ⟨rfl, _, _, hF.out.1, HT4.out.trans hF.out.2.1, fun k hk hkl => hF.out.2.2 k hk (Nat.lt_of_lt_of_le hkl HT4.out.size)⟩
theorem rep_none {T : Tab} {r : Rt} (h : rep12 T r = none) : (getC (T.bk (T.x1 r.k)) r.k).isSome = false ∧ (getC (T.bk (T.x2 r.k)) r.k).isSome = false ∧ findS T.st r.k = none := by
  unfold rep12 at h
  split at h
  · cases h
  · rename_i a
    split at h
    · cases h
    · rename_i b
      split at h
      · cases h
      · rename_i c
        exact ⟨by simpa using a, by simpa using b, by simpa using c⟩
/-- The key is there. -/
theorem rput_old (t g : Nat) (v : Value) (T T' : Tab) (r : Rt) (w : World) (H : Tb RBk w t g v T) (h : Num T) (hk : r.k.good) (hf : T.st.length < 1048576) (hr : rep12 T r = some T') :
    Calls Tryz.prog 31 #[.pointer (some ⟨t, 0, none⟩), kyV r.k, .int .i64 r.v] w fun e w' => e = .returned (.tuple #[]) ∧ RStep w w' t g v T' := by
  obtain ⟨pv, cv, hv⟩ := own_slice H.own
  unfold rep12 at hr
  split at hr
  · rename_i h1
    injection hr with hr
    subst hr
    exact rput_old1 t g v pv cv T r w H hv h hk hf h1
  · rename_i h1
    have h1 : (getC (T.bk (T.x1 r.k)) r.k).isSome = false := by simpa using h1
    split at hr
    · rename_i h2
      injection hr with hr
      subst hr
      exact rput_old2 t g v pv cv T r w H hv h hk hf h1 h2
    · rename_i h2
      have h2 : (getC (T.bk (T.x2 r.k)) r.k).isSome = false := by simpa using h2
      split at hr
      · rename_i h3
        injection hr with hr
        subst hr
        obtain ⟨i, hi⟩ := Option.isSome_iff_exists.1 h3
        exact rput_old3 t g v pv cv T r w H hv h hk hf h1 h2 i hi
      · cases hr
set_option maxRecDepth 100000 in
set_option maxHeartbeats 4000000 in
/-- There is a place in the first bucket. -/
theorem rput_first (t g : Nat) (v : Value) (pv : Option Addr) (cv : Nat) (T : Tab) (r : Rt) (C : List Pl) (w : World) (H : Tb RBk w t g v T) (hv : v = .slice pv T.st.length cv) (h : Num T) (hk : r.k.good) (hf : T.st.length < 1048576) (hr : rep12 T r = none) (hp1 : putC (T.bk (T.x1 r.k)) r.k r.v = some C) :
    Calls Tryz.prog 31 #[.pointer (some ⟨t, 0, none⟩), kyV r.k, .int .i64 r.v] w fun e w' => e = .returned (.tuple #[]) ∧ RStep w w' t g v (T.set (T.x1 r.k) C) := by
  have HB := Lib.hid (rtwo_fact T r.k h hk)
  have HG := fun x (hx : x < T.B.length) w (H : Tb RBk w t g v T) => rget11_any g (x * 20) (T.bk x) r.k w (H.bk x hx)
  have HS := fun w (H : Tb RBk w t g v T) => find12_any pv cv T.st r.k w (Row.of_own (by have := H.own; rwa [hv] at this)) hf
  have HV := Lib.hid hv
  have HH := Lib.hid H
  have hl := H.tlt
  have c0 := H.c0
  have c1 := H.c1
  have hlim := H.blk
  have HLM := Lib.hid hlim
  have hx1 := h.x1_lt r.k
  have hx2 := h.x2_lt r.k
  have HG1 := HG _ hx1
  have HG2 := HG _ hx2
  obtain ⟨a1, ha1⟩ : ∃ a, a = (getC (T.bk (T.x1 r.k)) r.k).getD 0 := ⟨_, rfl⟩
  obtain ⟨a2, ha2⟩ : ∃ a, a = (getC (T.bk (T.x2 r.k)) r.k).getD 0 := ⟨_, rfl⟩
  obtain ⟨p1, hp1e⟩ : ∃ p, p = (getC (T.bk (T.x1 r.k)) r.k).isSome := ⟨_, rfl⟩
  obtain ⟨p2, hp2e⟩ : ∃ p, p = (getC (T.bk (T.x2 r.k)) r.k).isSome := ⟨_, rfl⟩
  obtain ⟨ks, hks⟩ : ∃ x, x = stI T.st r.k := ⟨_, rfl⟩
  rw [← ha1, ← hp1e] at HG1
  rw [← ha2, ← hp2e] at HG2
  rw [← hks] at HS
  obtain ⟨x1, hX1⟩ : ∃ x, x = T.x1 r.k := ⟨_, rfl⟩
  obtain ⟨x2, hX2⟩ : ∃ x, x = T.x2 r.k := ⟨_, rfl⟩
  rw [← hX1] at HB HG1 hx1
  rw [← hX2] at HB HG2 hx2
  have HG1 := Lib.hid HG1
  have HG2 := Lib.hid HG2
  have HS := Lib.hid HS
  have HX1 := Lib.hid hX1
  have HX2 := Lib.hid hX2
  clear H hlim hX1 hX2 HG ha1 ha2
  unfold kyV at *
  obtain ⟨h1, h2, h3⟩ := rep_none hr
  obtain rfl : p1 = false := hp1e.trans h1
  obtain rfl : p2 = false := hp2e.trans h2
  obtain rfl : ks = (-1 : Int) := hks.trans (stI_none h3)
  have hge : ¬ (0 : Int) ≤ -1 := by omega
  clear hp1e hp2e hks hv h h1 h2 h3
  go_enter Tryz.func31, Tryz.ntmps31
  go_wp2_with fail
  have kg := cell_grow
  refine region_whole (by kernel_rfl) (by kernel_rfl) ?_
  repeat (any_goals (first | go_big_quiet_step ((exact HB.out.at _ _ _)) | quiet_step ((exact HB.out.at _ _ _))))
  refine wpQuiet_nil ?_
  clear kg
  intro w1 hb1
  obtain ⟨hc1, hf1⟩ := bcell hb1
  have hw1 : Below w.heap.size w w1 := by
    refine Below.trans ?_ (hb1.mono ?_)
    · go_grown
    · first | omega | go_size
  have d0 : w1.cell? ⟨w.heap.size, 0, none⟩ = some (.int .u64 (r.k.h : Int)) := by
    rw [hb1.cell (by simp <;> omega)]
    first | assumption | (simp [go_sem]; done) | (simp [go_sem, *]; done)
  have d1 : w1.cell? ⟨w.heap.size, 1, none⟩ = some (.int .u64 (r.k.l : Int)) := by
    rw [hb1.cell (by simp <;> omega)]
    first | assumption | (simp [go_sem]; done) | (simp [go_sem, *]; done)
  have d2 : w1.cell? ⟨w.heap.size, 2, none⟩ = some (.int .i64 r.k.n) := by
    rw [hb1.cell (by simp <;> omega)]
    first | assumption | (simp [go_sem]; done) | (simp [go_sem, *]; done)
  have z0 : w1.frozen? ⟨w.heap.size, 0, none⟩ = false := by
    rw [hb1.frozen (by simp <;> omega)]
    first | assumption | (simp [go_sem]; done) | (simp [go_sem, *]; done)
  have z1 : w1.frozen? ⟨w.heap.size, 1, none⟩ = false := by
    rw [hb1.frozen (by simp <;> omega)]
    first | assumption | (simp [go_sem]; done) | (simp [go_sem, *]; done)
  have z2 : w1.frozen? ⟨w.heap.size, 2, none⟩ = false := by
    rw [hb1.frozen (by simp <;> omega)]
    first | assumption | (simp [go_sem]; done) | (simp [go_sem, *]; done)
  have hz1 : w.heap.size < w1.heap.size := by
    have hs := hb1.size
    try simp only [World.size_alloc, World.size_setCell] at hs
    omega
  have HC1 := Lib.hid (HH.out.below bk_rbk hw1)
  have c1 := HC1.out.c1
  have hl1 := HC1.out.tlt
  have i1 : (0 : Int) ≤ (x1 : Int) := by omega
  have i2 : (x1 : Int) < (T.B.length : Int) := by omega
  have i3 : (0 : Int) ≤ (x2 : Int) := by omega
  have i4 : (x2 : Int) < (T.B.length : Int) := by omega
  clear hc1 hf1 hb1 HB hl c0
  go_wp2_with fail
  have kg := cell_grow
  refine region_whole (by kernel_rfl) (by kernel_rfl) ?_
  repeat (any_goals (first | go_big_quiet_step ((exact Calls.regrown_of (HG1.out _ (HC1.out.below bk_rbk (below_regrown _ _ _))))) | quiet_step ((exact Calls.regrown_of (HG1.out _ (HC1.out.below bk_rbk (below_regrown _ _ _)))))))
  refine wpQuiet_nil ?_
  clear kg
  intro w2 hb2
  obtain ⟨hc2, hf2⟩ := bcell hb2
  have d0 := (hc2 _ _ hz1).trans d0
  have d1 := (hc2 _ _ hz1).trans d1
  have d2 := (hc2 _ _ hz1).trans d2
  have z0 := (hf2 _ _ hz1).trans z0
  have z1 := (hf2 _ _ hz1).trans z1
  have z2 := (hf2 _ _ hz1).trans z2
  have hz2 := Nat.lt_of_lt_of_le hz1 hb2.size
  have HC2 := Lib.hid (HC1.out.below bk_rbk hb2)
  have hw2 := hw1.trans (hb2.mono hw1.size)
  have c1 := HC2.out.c1
  have hl2 := HC2.out.tlt
  clear hc2 hf2 hb2 hw1 hl1 HC1 hz1
  go_wp2_with fail
  have kg := cell_grow
  refine region_whole (by kernel_rfl) (by kernel_rfl) ?_
  repeat (any_goals (first | go_big_quiet_step ((exact Calls.regrown_of (HG2.out _ (HC2.out.below bk_rbk (below_regrown _ _ _))))) | quiet_step ((exact Calls.regrown_of (HG2.out _ (HC2.out.below bk_rbk (below_regrown _ _ _)))))))
  refine wpQuiet_nil ?_
  clear kg
  intro w3 hb3
  obtain ⟨hc3, hf3⟩ := bcell hb3
  have d0 := (hc3 _ _ hz2).trans d0
  have d1 := (hc3 _ _ hz2).trans d1
  have d2 := (hc3 _ _ hz2).trans d2
  have z0 := (hf3 _ _ hz2).trans z0
  have z1 := (hf3 _ _ hz2).trans z1
  have z2 := (hf3 _ _ hz2).trans z2
  have hz3 := Nat.lt_of_lt_of_le hz2 hb3.size
  have HC3 := Lib.hid (HC2.out.below bk_rbk hb3)
  have hw3 := hw2.trans (hb3.mono hw2.size)
  have c1 := HC3.out.c1
  have hl3 := HC3.out.tlt
  clear hc3 hf3 hb3 hw2 hl2 HC2 hz2
  have c2 := HC3.out.c2
  rw [HV.out] at c2
  go_wp2_with fail
  have kg := cell_grow
  refine region_whole (by kernel_rfl) (by kernel_rfl) ?_
  repeat (any_goals (first | go_big_quiet_step ((exact Calls.regrown_of (HS.out _ (HC3.out.below bk_rbk (below_regrown _ _ _))))) | quiet_step ((exact Calls.regrown_of (HS.out _ (HC3.out.below bk_rbk (below_regrown _ _ _)))))))
  refine wpQuiet_nil ?_
  clear kg
  intro w4 hb4
  obtain ⟨hc4, hf4⟩ := bcell hb4
  have d0 := (hc4 _ _ hz3).trans d0
  have d1 := (hc4 _ _ hz3).trans d1
  have d2 := (hc4 _ _ hz3).trans d2
  have z0 := (hf4 _ _ hz3).trans z0
  have z1 := (hf4 _ _ hz3).trans z1
  have z2 := (hf4 _ _ hz3).trans z2
  have hz4 := Nat.lt_of_lt_of_le hz3 hb4.size
  have HC4 := Lib.hid (HC3.out.below bk_rbk hb4)
  have hw4 := hw3.trans (hb4.mono hw3.size)
  have c1 := HC4.out.c1
  have hl4 := HC4.out.tlt
  clear hc4 hf4 hb4 hw3 hl3 HC3 hz3
  clear c2
  have HT4 := Lib.hid (Touch.quiet hw4 (S := Blk t g v))
  have hg4 := HC4.out.blt
  have htg := HC4.out.tg
  have hlg : g < w.heap.size := HLM.out g (.inr (.inl rfl))
  have hwg : w.heap.size ≠ g := by omega
  clear hw4 HG1 HG2 HS
  have hP1 : ∀ W, Hid (Tb RBk W t g v T ∧ Touch (Blk t g v) w4 W) → W.cell? ⟨w.heap.size, 0, none⟩ = some (.int .u64 (r.k.h : Int)) → W.cell? ⟨w.heap.size, 1, none⟩ = some (.int .u64 (r.k.l : Int)) → W.cell? ⟨w.heap.size, 2, none⟩ = some (.int .i64 r.k.n) →
      Calls Tryz.prog 53 #[.pointer (some ⟨g, x1 * 20, none⟩), .agg #[.int .u64 (r.k.h : Int), .int .u64 (r.k.l : Int), .int .i64 r.k.n], .int .i64 r.v] W fun e w' => e = .returned (.bool (putC (T.bk x1) r.k r.v).isSome) ∧ Hid (Tb RBk w' t g v (T.set x1 ((putC (T.bk x1) r.k r.v).getD (T.bk x1))) ∧ Touch (Blk t g v) w4 w') ∧
        w'.cell? ⟨t, 1, none⟩ = some (.slice (some ⟨g, 0, none⟩) T.B.length T.B.length) ∧ w'.cell? ⟨w.heap.size, 0, none⟩ = some (.int .u64 (r.k.h : Int)) ∧ w'.cell? ⟨w.heap.size, 1, none⟩ = some (.int .u64 (r.k.l : Int)) ∧ w'.cell? ⟨w.heap.size, 2, none⟩ = some (.int .i64 r.k.n) := by
    intro W hW q0 q1 q2
    refine (rput11_any g (x1 * 20) (T.bk x1) r.k r.v W (hW.out.1.bk x1 hx1)).mono ?_
    rintro e w' ⟨rfl, h1, h2⟩
    have hB := World.block_lt_of_cell? W ⟨w.heap.size, 0, none⟩ q0
    have h3 := hW.out.1.turn bk_rbk hx1 h2 h1
    exact ⟨rfl, ⟨h3.1, hW.out.2.trans h3.2⟩, (h2.far hW.out.1.tlt htg 1).1.trans hW.out.1.c1, (h2.far hB hwg 0).1.trans q0, (h2.far hB hwg 1).1.trans q1, (h2.far hB hwg 2).1.trans q2⟩
  have HP1 := Lib.hid hP1
  clear hP1
  rw [HX1.out] at HP1
  rw [hp1] at HP1
  rw [← HX1.out] at HP1
  simp only [Option.isSome_none, Option.getD_none, Option.isSome_some, Option.getD_some] at HP1
  go_wp2_with fail
  have kg := cell_grow
  refine region_phases [8] 18 (by kernel_rfl) (by kernel_rfl) (by kernel_rfl) ?_
  unfold phQ
  simp only [Nat.sub_zero, List.take_succ_cons, List.take_zero, List.getElem?_cons_succ, List.getElem?_cons_zero]
  repeat (any_goals (first | go_big_quiet_step (fail) | quiet_step (fail)))
  refine wpQuiet_nil ?_
  clear kg
  intro w5 hb5 K5 hK5 o ho
  injection ho with ho
  subst ho
  obtain ⟨hc5, hf5⟩ := bcell hb5
  have HC5 := Lib.hid (HC4.out.below bk_rbk hb5)
  have hT5 := Touch.quiet hb5 (S := Blk t g v)
  have d0 := (hc5 _ _ hz4).trans d0
  have d1 := (hc5 _ _ hz4).trans d1
  have d2 := (hc5 _ _ hz4).trans d2
  clear hc5 hf5 hb5
  go_simp
  refine (HP1.out _ ⟨HC5.out, hT5⟩ d0 d1 d2).mono ?_
  rintro e w6 ⟨rfl, hF6, k0, k1, k2, k3⟩
  refine hK5 _ _ ?_
  clear hK5 K5
  have kg := cell_grow
  unfold phQ
  simp only [Nat.reduceSub, Nat.reduceAdd, List.drop_succ_cons, List.drop_zero, List.take_succ_cons, List.take_zero]
  repeat (any_goals (first | go_big_quiet_step (fail) | quiet_step (fail)))
  refine wpQuiet_nil ?_
  clear kg
  intro w7 hb7
  obtain ⟨hc7, hf7⟩ := bcell hb7
  have HF7 := Lib.hid (And.intro (hF6.out.1.below bk_rbk hb7) (HT4.out.trans (hF6.out.2.trans (Touch.quiet hb7))))
  clear hc7 hf7 hb7 k0 k1 k2 k3
  go_wp2
  (try simp only [Exit.inBlock, Exit.then])
  refine bodyPost_ret (results_none rfl _ _ _) rfl ?_
  rw [← HX1.out]
  exact ⟨rfl, RStep.same HF7.out.1 HF7.out.2⟩
end Go.Proofs.YtoihkbanmnagkaaGreat

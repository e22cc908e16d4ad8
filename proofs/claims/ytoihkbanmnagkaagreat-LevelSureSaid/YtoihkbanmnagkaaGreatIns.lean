/-
  What slices.Insert of one route makes of a row of the call's own: the row with one more, in its place. No condition but that the row is short of 2^20.
-/
import Derived.Test.YtoihkbanmnagkaaGreatW12d
import Derived.Test.YtoihkbanmnagkaaGreatLtR
import Derived.Test.YtoihkbanmnagkaaGreatReg3
import Derived.Test.YtoihkbanmnagkaaGreatMade
import Derived.Lib.Overlaps
import Derived.Laws.Externs
import Derived.Laws.NewBlocks
import Derived.Deep.RegionLaw
/-
  What Put of a table does, one way through it at a time: as many growths as there may be are a contract of grow. No condition but that the table's cells lie in memory, and that it has fewer than 2^18 keys.
-/
set_option linter.unusedSimpArgs false
set_option linter.unusedVariables false
namespace Go.Proofs.YtoihkbanmnagkaaGreat
open Go.RowKit Go.Sort M

theorem grows_false (T : Tab) : grows (T, false) = false := rfl
set_option maxRecDepth 100000 in
set_option maxHeartbeats 4000000 in
/-- The key is there. -/
theorem put_old (t g : Nat) (v : Value) (T T' : Tab) (m : Int) (r : Rt) (w : World) (H : CT w t g v T m) (h : Num T) (hk : r.k.good) (hs : Sorted T.st) (hf : T.st.length < 1048576) (hr : rep12 T r = some T') :
    Calls Tryz.prog 49 #[.pointer (some ⟨t, 0, none⟩), kyV r.k, .int .i64 r.v] w fun e w' => e = .returned (.tuple #[]) ∧ CStep w w' t g v T' m := by
  have HN := Lib.hid (fun w H => none_any t g v T m w H h)
  have HR := Lib.hid (fun w H => replace_any t g v T m r w H h hk hs hf)
  rw [hr] at HR
  have HH := Lib.hid H
  have hl := H.tb.tlt
  clear H h
  unfold kyV at *
  go_enter Tryz.func49, Tryz.ntmps49
  go_wp2_with fail
  refine (HN.out _ (HH.out.below (by go_grown))).mono ?_
  rintro e w1 ⟨rfl, hb1⟩
  have hw1 : Below w.heap.size w w1 := Below.trans (by go_grown) (hb1.mono (by go_size))
  have d0 : w1.cell? ⟨w.heap.size, 0, none⟩ = some (.int .u64 (r.k.h : Int)) := by
    rw [hb1.cell (by simp <;> omega)]
    first | assumption | (simp [go_sem]; done) | (simp [go_sem, *]; done)
  have d1 : w1.cell? ⟨w.heap.size, 1, none⟩ = some (.int .u64 (r.k.l : Int)) := by
    rw [hb1.cell (by simp <;> omega)]
    first | assumption | (simp [go_sem]; done) | (simp [go_sem, *]; done)
  have d2 : w1.cell? ⟨w.heap.size, 2, none⟩ = some (.int .i64 r.k.n) := by
    rw [hb1.cell (by simp <;> omega)]
    first | assumption | (simp [go_sem]; done) | (simp [go_sem, *]; done)
  clear hb1
  go_wp2_with fail
  refine (HR.out _ (HH.out.below hw1)).mono ?_
  rintro e w2 ⟨rfl, hC2, hT2⟩
  have HF := Lib.hid (And.intro hC2 ((Touch.quiet hw1 (S := Blk t g v)).trans hT2))
  clear hC2 hT2
  go_wp2
  (try simp only [Exit.inBlock, Exit.then])
  refine bodyPost_ret (results_none rfl _ _ _) rfl ?_
  exact ⟨rfl, CStep.same HF.out.1 HF.out.2⟩
set_option maxRecDepth 100000 in
set_option maxHeartbeats 4000000 in
/-- There is a place in the second bucket. -/
theorem put_second (t g : Nat) (v : Value) (T : Tab) (m : Int) (r : Rt) (C : List Pl) (w : World) (H : CT w t g v T m) (h : Num T) (hk : r.k.good) (hs : Sorted T.st) (hf : T.st.length < 1048576) (hm0 : 0 ≤ m) (hm : m < 1048576) (hr : rep12 T r = none) (hp1 : putC (T.bk (T.x1 r.k)) r.k r.v = none)
    (hp2 : putC (T.bk (T.x2 r.k)) r.k r.v = some C) :
    Calls Tryz.prog 49 #[.pointer (some ⟨t, 0, none⟩), kyV r.k, .int .i64 r.v] w fun e w' => e = .returned (.tuple #[]) ∧ CStep w w' t g v (T.set (T.x2 r.k) C) (m + 1) := by
  have HN := Lib.hid (fun w H => none_any t g v T m w H h)
  have HR := Lib.hid (fun w H => replace_any t g v T m r w H h hk hs hf)
  rw [hr] at HR
  have HT := Lib.hid (fun w H => two_any t g v T (m + 1) r.k w H h hk)
  have HH := Lib.hid H
  have hl := H.tb.tlt
  have hlim := H.tb.blk
  have HLM := Lib.hid hlim
  have hx1 := h.x1_lt r.k
  have hx2 := h.x2_lt r.k
  have hwm : IntKind.i64.wrap (m + 1) = m + 1 := by rw [IntKind.wrap_i64]; omega
  obtain ⟨x1, hX1⟩ : ∃ x, x = T.x1 r.k := ⟨_, rfl⟩
  obtain ⟨x2, hX2⟩ : ∃ x, x = T.x2 r.k := ⟨_, rfl⟩
  rw [← hX1] at HT hx1
  rw [← hX2] at HT hx2
  have HX1 := Lib.hid hX1
  have HX2 := Lib.hid hX2
  clear H hlim hX1 hX2
  unfold kyV at *
  go_enter Tryz.func49, Tryz.ntmps49
  go_wp2_with fail
  refine (HN.out _ (HH.out.below (by go_grown))).mono ?_
  rintro e w1 ⟨rfl, hb1⟩
  have hw1 : Below w.heap.size w w1 := Below.trans (by go_grown) (hb1.mono (by go_size))
  have d0 : w1.cell? ⟨w.heap.size, 0, none⟩ = some (.int .u64 (r.k.h : Int)) := by
    rw [hb1.cell (by simp <;> omega)]
    first | assumption | (simp [go_sem]; done) | (simp [go_sem, *]; done)
  have d1 : w1.cell? ⟨w.heap.size, 1, none⟩ = some (.int .u64 (r.k.l : Int)) := by
    rw [hb1.cell (by simp <;> omega)]
    first | assumption | (simp [go_sem]; done) | (simp [go_sem, *]; done)
  have d2 : w1.cell? ⟨w.heap.size, 2, none⟩ = some (.int .i64 r.k.n) := by
    rw [hb1.cell (by simp <;> omega)]
    first | assumption | (simp [go_sem]; done) | (simp [go_sem, *]; done)
  have hz1 : w.heap.size < w1.heap.size := by
    have hs := hb1.size
    try simp only [World.size_alloc, World.size_setCell] at hs
    omega
  clear hb1
  go_wp2_with fail
  refine (HR.out _ (HH.out.below hw1)).mono ?_
  rintro e w2 ⟨rfl, hC2, hT2⟩
  have d0 := (hT2.upc HLM.out (Nat.le_refl _) hz1 0).trans d0
  have d1 := (hT2.upc HLM.out (Nat.le_refl _) hz1 1).trans d1
  have d2 := (hT2.upc HLM.out (Nat.le_refl _) hz1 2).trans d2
  have hz2 := Nat.lt_of_lt_of_le hz1 hT2.size
  have hC2 : CT w2 t g v T m := hC2
  have c3 := hC2.c3
  have f3 := hC2.tb.f 3
  have hK3 := hC2.count (m + 1)
  have HC2 := Lib.hid hK3.1
  have HT2 := Lib.hid (((Touch.quiet hw1 (S := Blk t g v)).trans hT2).trans hK3.2)
  have hnt := HLM.out t (.inl rfl)
  have e0 := (World.cell?_setCell_other w2 ⟨t, 3, none⟩ ⟨w.heap.size, 0, none⟩ (.int .i64 (m + 1)) (by intro e; injection e with e; omega)).trans d0
  have e1 := (World.cell?_setCell_other w2 ⟨t, 3, none⟩ ⟨w.heap.size, 1, none⟩ (.int .i64 (m + 1)) (by intro e; injection e with e; omega)).trans d1
  have e2 := (World.cell?_setCell_other w2 ⟨t, 3, none⟩ ⟨w.heap.size, 2, none⟩ (.int .i64 (m + 1)) (by intro e; injection e with e; omega)).trans d2
  have hz3 : w.heap.size < (w2.setCell ⟨t, 3, none⟩ (.int .i64 (m + 1))).heap.size := by rw [World.size_setCell]; exact hz2
  have hl2 := hC2.tb.tlt
  have HE := Lib.hid (And.intro e0 (And.intro e1 (And.intro e2 hz3)))
  have hnw : ¬ (t = w.heap.size) := by omega
  have hnw2 : ¬ (w.heap.size = t) := by omega
  clear hC2 hT2 hK3 hw1 hz1 e0 e1 e2 hz3 hz2
  go_wp2_with fail
  generalize (w2.setCell ⟨t, 3, none⟩ (.int .i64 (m + 1))) = w3 at HC2 HT2 HE ⊢
  clear c3 f3 hl2 d0 d1 d2 hnw hnw2
  refine (HT.out _ HC2.out).mono ?_
  rintro e w4 ⟨rfl, hb4⟩
  obtain ⟨d0, d1, d2, hz3⟩ := HE.out
  obtain ⟨hc4, hf4⟩ := bcell hb4
  have d0 := (hc4 _ _ hz3).trans d0
  have d1 := (hc4 _ _ hz3).trans d1
  have d2 := (hc4 _ _ hz3).trans d2
  have hz4 := Nat.lt_of_lt_of_le hz3 hb4.size
  have HC4 := Lib.hid (HC2.out.below hb4)
  have HT4 := Lib.hid (HT2.out.trans (Touch.quiet hb4))
  have c1 := HC4.out.tb.c1
  have hl4 := HC4.out.tb.tlt
  have hg4 := HC4.out.tb.blt
  have htg := HC4.out.tb.tg
  have hlg : g < w.heap.size := HLM.out g (.inr (.inl rfl))
  have hwg : w.heap.size ≠ g := by omega
  have i1 : (0 : Int) ≤ (x1 : Int) := by omega
  have i2 : (x1 : Int) < (T.B.length : Int) := by omega
  have i3 : (0 : Int) ≤ (x2 : Int) := by omega
  have i4 : (x2 : Int) < (T.B.length : Int) := by omega
  have n0 := World.new_ne w4 _ c1
  have n1 := World.new_ne w4 _ d0
  have n2 := World.new_ne w4 _ d1
  have n3 := World.new_ne w4 _ d2
  clear hc4 hf4 hb4 hz3 HE HC2 HT2 HR HT HN hl hnt
  have hP1 : ∀ W, Hid (CT W t g v T (m + 1) ∧ Touch (Blk t g v) w4 W) → W.cell? ⟨w.heap.size, 0, none⟩ = some (.int .u64 (r.k.h : Int)) → W.cell? ⟨w.heap.size, 1, none⟩ = some (.int .u64 (r.k.l : Int)) → W.cell? ⟨w.heap.size, 2, none⟩ = some (.int .i64 r.k.n) →
      Calls Tryz.prog 77 #[.pointer (some ⟨g, x1 * 20, none⟩), .agg #[.int .u64 (r.k.h : Int), .int .u64 (r.k.l : Int), .int .i64 r.k.n], .int .i64 r.v] W fun e w' => e = .returned (.bool (putC (T.bk x1) r.k r.v).isSome) ∧ Hid (CT w' t g v (T.set x1 ((putC (T.bk x1) r.k r.v).getD (T.bk x1))) (m + 1) ∧ Touch (Blk t g v) w4 w') ∧
        w'.cell? ⟨t, 1, none⟩ = some (.slice (some ⟨g, 0, none⟩) T.B.length T.B.length) ∧ w'.cell? ⟨w.heap.size, 0, none⟩ = some (.int .u64 (r.k.h : Int)) ∧ w'.cell? ⟨w.heap.size, 1, none⟩ = some (.int .u64 (r.k.l : Int)) ∧ w'.cell? ⟨w.heap.size, 2, none⟩ = some (.int .i64 r.k.n) := by
    intro W hW q0 q1 q2
    refine (put11_any g (x1 * 20) (T.bk x1) r.k r.v W (hW.out.1.tb.bk x1 hx1)).mono ?_
    rintro e w' ⟨rfl, h1, h2⟩
    have hB := World.block_lt_of_cell? W ⟨w.heap.size, 0, none⟩ q0
    have h3 := hW.out.1.turn hx1 h2 h1
    exact ⟨rfl, ⟨h3.1, hW.out.2.trans h3.2⟩, (h2.far hW.out.1.tb.tlt htg 1).1.trans hW.out.1.tb.c1, (h2.far hB hwg 0).1.trans q0, (h2.far hB hwg 1).1.trans q1, (h2.far hB hwg 2).1.trans q2⟩
  rw [HX1.out] at hP1
  rw [hp1, ← HX1.out] at hP1
  simp only [Option.isSome_none, Option.getD_none] at hP1
  rw [tab_self T x1 hx1] at hP1
  have HP1 := Lib.hid hP1
  clear hP1
  have hP2 : ∀ W, Hid (CT W t g v T (m + 1) ∧ Touch (Blk t g v) w4 W) → W.cell? ⟨w.heap.size, 0, none⟩ = some (.int .u64 (r.k.h : Int)) → W.cell? ⟨w.heap.size, 1, none⟩ = some (.int .u64 (r.k.l : Int)) → W.cell? ⟨w.heap.size, 2, none⟩ = some (.int .i64 r.k.n) →
      Calls Tryz.prog 77 #[.pointer (some ⟨g, x2 * 20, none⟩), .agg #[.int .u64 (r.k.h : Int), .int .u64 (r.k.l : Int), .int .i64 r.k.n], .int .i64 r.v] W fun e w' => e = .returned (.bool (putC (T.bk x2) r.k r.v).isSome) ∧ Hid (CT w' t g v (T.set x2 ((putC (T.bk x2) r.k r.v).getD (T.bk x2))) (m + 1) ∧ Touch (Blk t g v) w4 w') ∧
        w'.cell? ⟨t, 1, none⟩ = some (.slice (some ⟨g, 0, none⟩) T.B.length T.B.length) ∧ w'.cell? ⟨w.heap.size, 0, none⟩ = some (.int .u64 (r.k.h : Int)) ∧ w'.cell? ⟨w.heap.size, 1, none⟩ = some (.int .u64 (r.k.l : Int)) ∧ w'.cell? ⟨w.heap.size, 2, none⟩ = some (.int .i64 r.k.n) := by
    intro W hW q0 q1 q2
    refine (put11_any g (x2 * 20) (T.bk x2) r.k r.v W (hW.out.1.tb.bk x2 hx2)).mono ?_
    rintro e w' ⟨rfl, h1, h2⟩
    have hB := World.block_lt_of_cell? W ⟨w.heap.size, 0, none⟩ q0
    have h3 := hW.out.1.turn hx2 h2 h1
    exact ⟨rfl, ⟨h3.1, hW.out.2.trans h3.2⟩, (h2.far hW.out.1.tb.tlt htg 1).1.trans hW.out.1.tb.c1, (h2.far hB hwg 0).1.trans q0, (h2.far hB hwg 1).1.trans q1, (h2.far hB hwg 2).1.trans q2⟩
  rw [HX2.out] at hP2
  rw [hp2, ← HX2.out] at hP2
  simp only [Option.isSome_none, Option.getD_none, Option.isSome_some, Option.getD_some] at hP2
  try rw [tab_self T x2 hx2] at hP2
  have HP2 := Lib.hid hP2
  clear hP2
  go_wp2_with fail
  have kg := cell_grow
  refine region_phases [8] 18 (by kernel_rfl) (by kernel_rfl) (by kernel_rfl) ?_
  unfold phQ
  simp only [Nat.sub_zero, List.take_succ_cons, List.take_zero, List.getElem?_cons_succ, List.getElem?_cons_zero]
  repeat (any_goals (first | go_big_quiet_step (fail) | quiet_step (fail)))
  refine wpQuiet_nil ?_
  clear kg
  intro w5 hb5 K5 hK5 o ho
  injection ho with ho
  subst ho
  obtain ⟨hc5, hf5⟩ := bcell hb5
  have HC5 := Lib.hid (HC4.out.below hb5)
  have hT5 := Touch.quiet hb5 (S := Blk t g v)
  have d0 := (hc5 _ _ hz4).trans d0
  have d1 := (hc5 _ _ hz4).trans d1
  have d2 := (hc5 _ _ hz4).trans d2
  have hz5 := Nat.lt_of_lt_of_le hz4 hb5.size
  clear hc5 hf5 hb5
  go_simp
  refine (HP1.out _ ⟨HC5.out, hT5⟩ d0 d1 d2).mono ?_
  rintro e w6 ⟨rfl, hF6, k0, k1, k2, k3⟩
  have hl6 := hF6.out.1.tb.tlt
  have hz6 := Nat.lt_of_lt_of_le hz4 hF6.out.2.size
  clear d0 d1 d2 c1 hT5 HC5
  refine hK5 _ _ ?_
  clear hK5 K5
  have kg := cell_grow
  unfold phQ
  simp only [Nat.reduceSub, Nat.reduceAdd, List.drop_succ_cons, List.drop_zero, List.take_succ_cons, List.take_zero]
  repeat (any_goals (first | go_big_quiet_step (fail) | quiet_step (fail)))
  refine wpQuiet_nil ?_
  clear kg
  intro w7 hb7
  obtain ⟨hc7, hf7⟩ := bcell hb7
  have HF7 := Lib.hid (show Hid (CT w7 t g v T (m + 1) ∧ Touch (Blk t g v) w4 w7) from ⟨hF6.out.1.below hb7, hF6.out.2.trans (Touch.quiet hb7)⟩)
  have k1 := (hc7 _ _ hz6).trans k1
  have k2 := (hc7 _ _ hz6).trans k2
  have k3 := (hc7 _ _ hz6).trans k3
  clear hc7 hf7 hb7 k0
  go_wp2_with fail
  refine (HP2.out _ HF7.out k1 k2 k3).mono ?_
  rintro e w8 ⟨rfl, hF8, k0, k1, k2, k3⟩
  have hz8 := Nat.lt_of_lt_of_le hz4 hF8.out.2.size
  clear HF7 hF6 hz6 hl6 hl4
  go_wp2
  (try simp only [Exit.inBlock, Exit.then])
  refine bodyPost_ret (results_none rfl _ _ _) rfl ?_
  rw [← HX2.out]
  exact ⟨rfl, CStep.same hF8.out.1 (HT4.out.trans hF8.out.2)⟩
set_option maxRecDepth 100000 in
set_option maxHeartbeats 4000000 in
/-- There is a place in the first bucket. -/
theorem put_first (t g : Nat) (v : Value) (T : Tab) (m : Int) (r : Rt) (C : List Pl) (w : World) (H : CT w t g v T m) (h : Num T) (hk : r.k.good) (hs : Sorted T.st) (hf : T.st.length < 1048576) (hm0 : 0 ≤ m) (hm : m < 1048576) (hr : rep12 T r = none) (hp : putC (T.bk (T.x1 r.k)) r.k r.v = some C) :
    Calls Tryz.prog 49 #[.pointer (some ⟨t, 0, none⟩), kyV r.k, .int .i64 r.v] w fun e w' => e = .returned (.tuple #[]) ∧ CStep w w' t g v (T.set (T.x1 r.k) C) (m + 1) := by
  have HN := Lib.hid (fun w H => none_any t g v T m w H h)
  have HR := Lib.hid (fun w H => replace_any t g v T m r w H h hk hs hf)
  rw [hr] at HR
  have HT := Lib.hid (fun w H => two_any t g v T (m + 1) r.k w H h hk)
  have HH := Lib.hid H
  have hl := H.tb.tlt
  have hlim := H.tb.blk
  have HLM := Lib.hid hlim
  have hx1 := h.x1_lt r.k
  have hx2 := h.x2_lt r.k
  have hwm : IntKind.i64.wrap (m + 1) = m + 1 := by rw [IntKind.wrap_i64]; omega
  obtain ⟨x1, hX1⟩ : ∃ x, x = T.x1 r.k := ⟨_, rfl⟩
  obtain ⟨x2, hX2⟩ : ∃ x, x = T.x2 r.k := ⟨_, rfl⟩
  rw [← hX1] at HT hx1
  rw [← hX2] at HT hx2
  have HX1 := Lib.hid hX1
  have HX2 := Lib.hid hX2
  clear H hlim hX1 hX2
  unfold kyV at *
  go_enter Tryz.func49, Tryz.ntmps49
  go_wp2_with fail
  refine (HN.out _ (HH.out.below (by go_grown))).mono ?_
  rintro e w1 ⟨rfl, hb1⟩
  have hw1 : Below w.heap.size w w1 := Below.trans (by go_grown) (hb1.mono (by go_size))
  have d0 : w1.cell? ⟨w.heap.size, 0, none⟩ = some (.int .u64 (r.k.h : Int)) := by
    rw [hb1.cell (by simp <;> omega)]
    first | assumption | (simp [go_sem]; done) | (simp [go_sem, *]; done)
  have d1 : w1.cell? ⟨w.heap.size, 1, none⟩ = some (.int .u64 (r.k.l : Int)) := by
    rw [hb1.cell (by simp <;> omega)]
    first | assumption | (simp [go_sem]; done) | (simp [go_sem, *]; done)
  have d2 : w1.cell? ⟨w.heap.size, 2, none⟩ = some (.int .i64 r.k.n) := by
    rw [hb1.cell (by simp <;> omega)]
    first | assumption | (simp [go_sem]; done) | (simp [go_sem, *]; done)
  have hz1 : w.heap.size < w1.heap.size := by
    have hs := hb1.size
    try simp only [World.size_alloc, World.size_setCell] at hs
    omega
  clear hb1
  go_wp2_with fail
  refine (HR.out _ (HH.out.below hw1)).mono ?_
  rintro e w2 ⟨rfl, hC2, hT2⟩
  have d0 := (hT2.upc HLM.out (Nat.le_refl _) hz1 0).trans d0
  have d1 := (hT2.upc HLM.out (Nat.le_refl _) hz1 1).trans d1
  have d2 := (hT2.upc HLM.out (Nat.le_refl _) hz1 2).trans d2
  have hz2 := Nat.lt_of_lt_of_le hz1 hT2.size
  have hC2 : CT w2 t g v T m := hC2
  have c3 := hC2.c3
  have f3 := hC2.tb.f 3
  have hK3 := hC2.count (m + 1)
  have HC2 := Lib.hid hK3.1
  have HT2 := Lib.hid (((Touch.quiet hw1 (S := Blk t g v)).trans hT2).trans hK3.2)
  have hnt := HLM.out t (.inl rfl)
  have e0 := (World.cell?_setCell_other w2 ⟨t, 3, none⟩ ⟨w.heap.size, 0, none⟩ (.int .i64 (m + 1)) (by intro e; injection e with e; omega)).trans d0
  have e1 := (World.cell?_setCell_other w2 ⟨t, 3, none⟩ ⟨w.heap.size, 1, none⟩ (.int .i64 (m + 1)) (by intro e; injection e with e; omega)).trans d1
  have e2 := (World.cell?_setCell_other w2 ⟨t, 3, none⟩ ⟨w.heap.size, 2, none⟩ (.int .i64 (m + 1)) (by intro e; injection e with e; omega)).trans d2
  have hz3 : w.heap.size < (w2.setCell ⟨t, 3, none⟩ (.int .i64 (m + 1))).heap.size := by rw [World.size_setCell]; exact hz2
  have hl2 := hC2.tb.tlt
  have HE := Lib.hid (And.intro e0 (And.intro e1 (And.intro e2 hz3)))
  have hnw : ¬ (t = w.heap.size) := by omega
  have hnw2 : ¬ (w.heap.size = t) := by omega
  clear hC2 hT2 hK3 hw1 hz1 e0 e1 e2 hz3 hz2
  go_wp2_with fail
  generalize (w2.setCell ⟨t, 3, none⟩ (.int .i64 (m + 1))) = w3 at HC2 HT2 HE ⊢
  clear c3 f3 hl2 d0 d1 d2 hnw hnw2
  refine (HT.out _ HC2.out).mono ?_
  rintro e w4 ⟨rfl, hb4⟩
  obtain ⟨d0, d1, d2, hz3⟩ := HE.out
  obtain ⟨hc4, hf4⟩ := bcell hb4
  have d0 := (hc4 _ _ hz3).trans d0
  have d1 := (hc4 _ _ hz3).trans d1
  have d2 := (hc4 _ _ hz3).trans d2
  have hz4 := Nat.lt_of_lt_of_le hz3 hb4.size
  have HC4 := Lib.hid (HC2.out.below hb4)
  have HT4 := Lib.hid (HT2.out.trans (Touch.quiet hb4))
  have c1 := HC4.out.tb.c1
  have hl4 := HC4.out.tb.tlt
  have hg4 := HC4.out.tb.blt
  have htg := HC4.out.tb.tg
  have hlg : g < w.heap.size := HLM.out g (.inr (.inl rfl))
  have hwg : w.heap.size ≠ g := by omega
  have i1 : (0 : Int) ≤ (x1 : Int) := by omega
  have i2 : (x1 : Int) < (T.B.length : Int) := by omega
  have i3 : (0 : Int) ≤ (x2 : Int) := by omega
  have i4 : (x2 : Int) < (T.B.length : Int) := by omega
  have n0 := World.new_ne w4 _ c1
  have n1 := World.new_ne w4 _ d0
  have n2 := World.new_ne w4 _ d1
  have n3 := World.new_ne w4 _ d2
  clear hc4 hf4 hb4 hz3 HE HC2 HT2 HR HT HN hl hnt
  have hP1 : ∀ W, Hid (CT W t g v T (m + 1) ∧ Touch (Blk t g v) w4 W) → W.cell? ⟨w.heap.size, 0, none⟩ = some (.int .u64 (r.k.h : Int)) → W.cell? ⟨w.heap.size, 1, none⟩ = some (.int .u64 (r.k.l : Int)) → W.cell? ⟨w.heap.size, 2, none⟩ = some (.int .i64 r.k.n) →
      Calls Tryz.prog 77 #[.pointer (some ⟨g, x1 * 20, none⟩), .agg #[.int .u64 (r.k.h : Int), .int .u64 (r.k.l : Int), .int .i64 r.k.n], .int .i64 r.v] W fun e w' => e = .returned (.bool (putC (T.bk x1) r.k r.v).isSome) ∧ Hid (CT w' t g v (T.set x1 ((putC (T.bk x1) r.k r.v).getD (T.bk x1))) (m + 1) ∧ Touch (Blk t g v) w4 w') ∧
        w'.cell? ⟨t, 1, none⟩ = some (.slice (some ⟨g, 0, none⟩) T.B.length T.B.length) ∧ w'.cell? ⟨w.heap.size, 0, none⟩ = some (.int .u64 (r.k.h : Int)) ∧ w'.cell? ⟨w.heap.size, 1, none⟩ = some (.int .u64 (r.k.l : Int)) ∧ w'.cell? ⟨w.heap.size, 2, none⟩ = some (.int .i64 r.k.n) := by
    intro W hW q0 q1 q2
    refine (put11_any g (x1 * 20) (T.bk x1) r.k r.v W (hW.out.1.tb.bk x1 hx1)).mono ?_
    rintro e w' ⟨rfl, h1, h2⟩
    have hB := World.block_lt_of_cell? W ⟨w.heap.size, 0, none⟩ q0
    have h3 := hW.out.1.turn hx1 h2 h1
    exact ⟨rfl, ⟨h3.1, hW.out.2.trans h3.2⟩, (h2.far hW.out.1.tb.tlt htg 1).1.trans hW.out.1.tb.c1, (h2.far hB hwg 0).1.trans q0, (h2.far hB hwg 1).1.trans q1, (h2.far hB hwg 2).1.trans q2⟩
  rw [HX1.out] at hP1
  rw [hp, ← HX1.out] at hP1
  simp only [Option.isSome_some, Option.getD_some] at hP1
  have HP1 := Lib.hid hP1
  clear hP1
  go_wp2_with fail
  have kg := cell_grow
  refine region_phases [8] 18 (by kernel_rfl) (by kernel_rfl) (by kernel_rfl) ?_
  unfold phQ
  simp only [Nat.sub_zero, List.take_succ_cons, List.take_zero, List.getElem?_cons_succ, List.getElem?_cons_zero]
  repeat (any_goals (first | go_big_quiet_step (fail) | quiet_step (fail)))
  refine wpQuiet_nil ?_
  clear kg
  intro w5 hb5 K5 hK5 o ho
  injection ho with ho
  subst ho
  obtain ⟨hc5, hf5⟩ := bcell hb5
  have HC5 := Lib.hid (HC4.out.below hb5)
  have hT5 := Touch.quiet hb5 (S := Blk t g v)
  have d0 := (hc5 _ _ hz4).trans d0
  have d1 := (hc5 _ _ hz4).trans d1
  have d2 := (hc5 _ _ hz4).trans d2
  clear hc5 hf5 hb5
  go_simp
  refine (HP1.out _ ⟨HC5.out, hT5⟩ d0 d1 d2).mono ?_
  rintro e w6 ⟨rfl, hF6, k0, k1, k2, k3⟩
  refine hK5 _ _ ?_
  clear hK5 K5
  have kg := cell_grow
  unfold phQ
  simp only [Nat.reduceSub, Nat.reduceAdd, List.drop_succ_cons, List.drop_zero, List.take_succ_cons, List.take_zero]
  repeat (any_goals (first | go_big_quiet_step (fail) | quiet_step (fail)))
  refine wpQuiet_nil ?_
  clear kg
  intro w7 hb7
  obtain ⟨hc7, hf7⟩ := bcell hb7
  have HF7 := Lib.hid (And.intro (hF6.out.1.below hb7) (HT4.out.trans (hF6.out.2.trans (Touch.quiet hb7))))
  clear hc7 hf7 hb7 k0 k1 k2 k3
  go_wp2
  (try simp only [Exit.inBlock, Exit.then])
  refine bodyPost_ret (results_none rfl _ _ _) rfl ?_
  rw [← HX1.out]
  exact ⟨rfl, CStep.same HF7.out.1 HF7.out.2⟩
end Go.Proofs.YtoihkbanmnagkaaGreat
/-
  What slices.Insert of one route makes of a row of the call's own: the row with one more, in its place. No condition but that the row is short of 2^20.
-/
set_option linter.unusedSimpArgs false
set_option linter.unusedVariables false
namespace Go.Proofs.YtoihkbanmnagkaaGreat
open Go.RowKit Go.Sort M

/-- What an insertion leaves. -/
def Inserted (w w' : World) (e : Ending) (v : Value) (L : List Rt) : Prop := ∃ v', e = .returned v' ∧ w'.ownsRow 0 58 4 v' L.length (rcs L) ∧ w.grownBy w' v.ownBlock ∧ (v'.ownBlock = v.ownBlock ∨ ∃ k, v'.ownBlock = some k ∧ w.heap.size ≤ k)
theorem oneR (L : List Rt) (u : Value) (h : u ∈ rcs L) : u.oneCell' = true := rcs_one' L u h
set_option maxRecDepth 100000 in
set_option maxHeartbeats 4000000 in
theorem insert_end (v : Value) (L : List Rt) (r : Rt) (vb : Nat) (w : World) (hown : w.ownsRow 0 58 4 v L.length (rcs L)) (hL : L.length < 1048576) (hvb : w.heap[vb]? = some (.cells (rcell r).toArray 58 (0, 0))) :
    Calls Tryz.prog 79 #[v, .int .i64 (L.length : Int), .slice (some ⟨vb, 0, none⟩) 1 1] w fun e w' => Inserted w w' e v (L ++ [r]) := by
  obtain ⟨i0, hi0, iz0, iz1, iz2⟩ := info_parts infoR
  have hnews := cells_at hvb 0 (rcell r) (by simp [rcell])
  obtain ⟨p, c, rfl⟩ := own_slice hown
  have hlc : L.length ≤ c := by
    rcases hown.2 with ⟨e, h0⟩ | ⟨g, cap, cur, e, -, -, h1, -⟩
    · omega
    · injection e with _ _ e3; omega
  generalize hn : L.length = n at *
  by_cases hcn : c = n
  · subst hcn
    go_enter Tryz.func79, Tryz.ntmps79
    go_wp2_with (at_builtin; go_loud (refine wpList_append_own_at _ rfl (.tmp 23) (.tmp 24) 47 rfl 0 58 i0 _ 4 32 Tryz.underlying47 hi0 iz0 iz1 iz2 rfl (by decide) _ _ _ rfl hown ⟨vb, 0, none⟩ 1 1 (rcell r) rfl rfl hnews (by simp [rcell, Value.oneCell']) (by unfold maxLen; omega) (by omega) (by omega) ?_))
    intro v3 w3 hown3 hg3 _ hat
    go_wp2
    go_ret
    exact ⟨v3, rfl, own_rsnoc hown3 hn.symm, hg3, hat.imp id (fun e => ⟨_, e, Nat.le_refl _⟩)⟩
  · go_enter Tryz.func79, Tryz.ntmps79
    go_wp2_with (at_builtin; go_loud (refine wpList_append_own_at _ rfl (.tmp 23) (.tmp 24) 47 rfl 0 58 i0 _ 4 32 Tryz.underlying47 hi0 iz0 iz1 iz2 rfl (by decide) _ _ _ rfl hown ⟨vb, 0, none⟩ 1 1 (rcell r) rfl rfl hnews (by simp [rcell, Value.oneCell']) (by unfold maxLen; omega) (by omega) (by omega) ?_))
    intro v3 w3 hown3 hg3 _ hat
    go_wp2
    go_ret
    exact ⟨v3, rfl, own_rsnoc hown3 hn.symm, hg3, hat.imp id (fun e => ⟨_, e, Nat.le_refl _⟩)⟩
/-- append of a 'make' where there is no room: a new row. -/
theorem wpList_append_zeros {P : Program} {ops : Array Oper} {rest : List Oper} {o : Oper} {a : Act} {w : World} {Q : Exit → Act → World → Prop} (hgd : o.guard = none) (s x : Operand) (t tn : TypeId)
    (ho : o.op = .call { callee := .builtin .append, args := #[s, x], argTypes := #[t, tn] }) (e : TypeId) (i : TypeInfo) (z : Value) (size bytes : Nat) (kn : IntKind) (ht : P.underlying t = some (.slice e)) (htn : P.underlying tn = some (.int kn)) (hi : P.info? e = some i) (hz : i.zero = some z)
    (hsz : i.size = size) (hby : i.bytes = bytes) (hzs : z.cells.size = size) (h0s : 0 < size) (g : Nat) (off sLen sCap : Nat) (hs : a.eval s = .slice (some ⟨g, off, none⟩) sLen sCap) (k : Nat) (hx : a.eval x = .int .i64 (k : Int))
    (olds : List Value) (hlo : olds.length = sLen * size) (holds : ∀ j v, olds[j]? = some v → w.cell? ((⟨g, off, none⟩ : Addr).add j) = some v) (h0 : 0 < k) (hg : sCap < sLen + k) (h63 : sLen + k ≤ maxLen) (hbytes : (sLen + k) * bytes ≤ 140737488355328)
    (h : ∀ (cap : Nat) (Z : List Value) w', sLen + k ≤ cap → cap ≤ maxLen → Z.length = (cap - sLen) * size → Hid (w'.heap[w.heap.size]? = some (.cells (olds ++ Z).toArray e (0, 0))) → w.grownBy w' none → wpList P ops Q rest (a.put o.dst (.slice (some ⟨w.heap.size, 0, none⟩) (sLen + k) cap)) w') : wpList P ops Q (o :: rest) a w := by
  subst hsz hby
  have hold : (Builtin.firstCells i.size sLen (.slice (some ⟨g, off, none⟩) sLen sCap)).run P w.drew = .ok olds.toArray w.drew := run_firstCells_some w.drew i.size sLen ⟨g, off, none⟩ sLen sCap olds hlo (fun j v hj => holds j v hj)
  have h63' : sLen + k ≤ 9223372036854775807 := by simp only [maxLen] at h63; omega
  have hkb : k * i.bytes ≤ 281474976710656 := Nat.le_trans (Nat.mul_le_mul_right _ (Nat.le_add_left k sLen)) (by omega)
  have hr := Lib.run_append_grow_zeros (P := P) w t tn o.type e i z .i64 kn ht htn hi hz (some ⟨g, off, none⟩) sLen sCap olds hold k h0 h0s hg (by omega) hkb (growslice_fits hg hbytes)
  refine Lib.wpList_append_run w hgd s x t tn ho _ _ hs hx _ _ hr ?_
  have hge := grownCap_ge w (sLen + k) sCap e
  refine h _ ((Builtin.zeroCells z.cells k).toList ++ (Builtin.zeroCells z.cells (grownCap w (sLen + k) sCap e - (sLen + k))).toList) _ hge (grownCap_le_maxLen w _ _ _ h63) ?_ ?_ ?_
  · rw [List.length_append, Array.length_toList, Array.length_toList, size_zeroCells, size_zeroCells, hzs, ← Nat.add_mul]
    congr 1
    omega
  · show _ = _
    refine (heap_alloc_new w.drew _).trans ?_
    simp [Array.append_assoc]
  · exact ⟨rfl, rfl, rfl, by simp, fun j hj _ => (heap_alloc_old w.drew _ hj).trans rfl⟩
set_option maxRecDepth 100000 in
set_option maxHeartbeats 4000000 in
theorem insert_room (g c n i : Nat) (cur : Array Value) (L : List Rt) (r : Rt) (vb : Nat) (w : World) (hn : L.length = n) (hg : w.heap[g]? = some (.cells cur 58 (0, 0))) (hc : n + 1 ≤ c) (hcm : c ≤ maxLen) (hcs : cur.size = c * 4) (htk : cur.toList.take (n * 4) = rcs L)
    (hi : i < n) (hL : n < 1048576) (hvb : w.heap[vb]? = some (.cells (rcell r).toArray 58 (0, 0))) (hne : vb ≠ g) :
    Calls Tryz.prog 79 #[.slice (some ⟨g, 0, none⟩) n c, .int .i64 (i : Int), .slice (some ⟨vb, 0, none⟩) 1 1] w fun e w' => Inserted w w' e (.slice (some ⟨g, 0, none⟩) n c) (L.take i ++ r :: L.drop i) := by
  obtain ⟨i0, hi0, iz0, iz1, iz2⟩ := info_parts infoR
  have hin : ¬ ((i : Int) = (n : Int)) := by omega
  have hw1 : IntKind.i64.wrap ((i : Int) + 1) = (i : Int) + 1 := by rw [IntKind.wrap_i64]; omega
  have hb1 : (0 : Int) ≤ (i : Int) + 1 := by omega
  have hb2 : ¬ (c = i + 1) := by omega
  have hb3 : (i : Int) ≤ (n : Int) + 1 := by omega
  have hb4 : ¬ (c = i) := by omega
  have hb5 : (i : Int) ≤ (n : Int) := by omega
  have htn : ((i : Int) + 1).toNat = i + 1 := by omega
  have hov : ∀ lb cb, (callFunc 103 #[.slice (some ⟨vb, 0, none⟩) 1 1, .slice (some ⟨g, (i + 1) * 4, none⟩) lb cb]).run Tryz.prog w = .ok (.value (.bool false)) w := fun lb cb => by
    rw [run_callFunc_extern Tryz.func103 (by kernel_rfl) (by kernel_rfl) (by kernel_rfl) (e := Extern.SlicesOverlaps.overlaps #[47, 47] #[4]) (by kernel_rfl),
      Lib.run_overlaps_apart w 47 4 58 Tryz.underlying47 4 Tryz.sizeOf58 ⟨vb, 0, none⟩ ⟨g, (i + 1) * 4, none⟩ 1 1 lb cb hne 58 58 4 (c * 4) (by unfold World.shape?; rw [hvb]; rfl) (by unfold World.shape?; rw [hg]; simp [hcs]) (by omega) (by unfold World.frozen?; rw [hvb]; rfl) (by unfold World.frozen?; rw [hvb]; rfl)]
    rfl
  have hdl : (L.drop i).length = n - i := by rw [List.length_drop, hn]
  have hd4 : (rcs (L.drop i)).length = (n - i) * 4 := by rw [rcs_len, hdl]
  have hX := cells_at hg (i * 4) (rcs (L.drop i)) (by
    rw [hd4, ← rcs_drop, ← htk, List.drop_take]
    congr 1
    omega)
  have hnews := cells_at hvb 0 (rcell r) (by simp [rcell])
  generalize hX2 : rcs (L.drop i) = X2 at *
  go_enter Tryz.func79, Tryz.ntmps79
  go_wp2_with (simp only [hov])
  go_region_law (refine step_copy_rt rfl (.tmp 73) (.tmp 76) 47 47 rfl 58 i0 Tryz.underlying47 hi0 4 iz1 g ((i + 1) * 4) (n + 1 - (i + 1)) (c - (i + 1)) ⟨g, i * 4, none⟩ (n + 1 - i) (c - i) (by simp [Act.eval, Act.put]) (by simp [Act.eval, Act.put]) cur 58 hg X2 (n - i) (by simp only [Nat.min_def]; split <;> omega) hd4 hX (by omega) (by rw [← hX2]; exact oneR _) ?_; intro w4 hg4 hb4)
  have hvb4 : w4.heap[vb]? = some (.cells (rcell r).toArray 58 (0, 0)) := (hb4.block vb (Array.getElem?_eq_some_iff.1 hvb).1 (by intro e; injection e with e; exact hne e)).trans hvb
  have hnews4 := cells_at hvb4 0 (rcell r) (by simp [rcell])
  have hsl : (splice cur.toList ((i + 1) * 4) X2).length = c * 4 := by rw [length_splice _ _ _ (by rw [hd4, Array.length_toList, hcs]; omega), Array.length_toList, hcs]
  obtain ⟨cur4, hcur4⟩ : ∃ x, x = splice cur.toList ((i + 1) * 4) X2 := ⟨_, rfl⟩
  have hg4 : Hid (w4.heap[g]? = some (.cells cur4.toArray 58 (0, 0))) := by show _ = _; rw [hcur4]; exact hg4.out
  rw [← hcur4] at hsl
  have hgw4 : Hid (w.grownBy w4 (some g)) := (⟨hb4.os, hb4.tape, hb4.output, hb4.size, hb4.block⟩ : w.grownBy w4 (some g))
  have HC4 := Lib.hid hcur4.symm
  have HX2 := Lib.hid hX2
  have HTK := Lib.hid htk
  clear hov hcur4 hX hnews hvb hg htk hX2
  have hs1 : (i * 4) + (rcell r).length ≤ cur4.toArray.size := by simp [rcell, hsl]; omega
  have hs2 : ∀ v ∈ rcell r, v.oneCell' = true := by simp [rcell, Value.oneCell']
  have hs3 : Nat.min 1 (n + 1 - i) = 1 := by simp only [Nat.min_def]; split <;> omega
  go_wp2_with (with_reducible refine wpList_copy_rt rfl (.tmp 80) (.tmp 81) 47 47 rfl 58 i0 Tryz.underlying47 hi0 4 iz1 g (i * 4) (n + 1 - i) (c - i) ⟨vb, 0, none⟩ 1 1 rfl rfl cur4.toArray 58 hg4.out (rcell r) 1 hs3 rfl hnews4 hs1 hs2 ?_)
  intro w5 hg5 hb5'
  go_wp2
  go_ret
  refine ⟨_, rfl, ?_, World.grownBy.trans hgw4.out hb5', .inl rfl⟩
  have hlen : (L.take i ++ r :: L.drop i).length = n + 1 := by simp; omega
  rw [hlen]
  refine own_made (Nat.zero_le _) hg5.out (by omega) hcm (by simp [length_splice, rcell, hsl]; rw [length_splice _ _ _ (by simp [rcell, hsl]; omega), hsl]) ?_
  have h1 := splice_in cur.toList (rcs (L.take i)) (rcell r) X2 (i * 4) 4 ((n - i) * 4) (by rw [rcs_len, List.length_take]; omega) rfl hd4 (by
    rw [show i * 4 + (n - i) * 4 = n * 4 by omega, HTK.out, ← HX2.out, ← rcs_append, List.take_append_drop]) (by rw [Array.length_toList, hcs]; omega)
  rw [show i * 4 + 4 + (n - i) * 4 = (n + 1) * 4 by omega, show i * 4 + 4 = (i + 1) * 4 by omega, HC4.out] at h1
  rw [rcs_append, rcs_cons, HX2.out, ← List.append_assoc]
  simpa using h1
set_option maxRecDepth 100000 in
set_option maxHeartbeats 4000000 in
theorem insert_grow (g c n i : Nat) (cur : Array Value) (L : List Rt) (r : Rt) (vb : Nat) (w : World) (hn : L.length = n) (hg : w.heap[g]? = some (.cells cur 58 (0, 0))) (hc : c < n + 1) (hnc : n ≤ c) (hcs : cur.size = c * 4) (htk : cur.toList.take (n * 4) = rcs L)
    (hi : i < n) (hL : n < 1048576) (hvb : w.heap[vb]? = some (.cells (rcell r).toArray 58 (0, 0))) :
    Calls Tryz.prog 79 #[.slice (some ⟨g, 0, none⟩) n c, .int .i64 (i : Int), .slice (some ⟨vb, 0, none⟩) 1 1] w fun e w' => Inserted w w' e (.slice (some ⟨g, 0, none⟩) n c) (L.take i ++ r :: L.drop i) := by
  obtain ⟨i0, hi0, iz0, iz1, iz2⟩ := info_parts infoR
  have hgl := (Array.getElem?_eq_some_iff.1 hg).1
  have hvl := (Array.getElem?_eq_some_iff.1 hvb).1
  have hin : ¬ ((i : Int) = (n : Int)) := by omega
  have hz3 : (c : Int) < (n : Int) + 1 := by omega
  have hw1 : IntKind.i64.wrap ((i : Int) + 1) = (i : Int) + 1 := by rw [IntKind.wrap_i64]; omega
  have hkk : (n : Int) + 1 - (i : Int) = ((n + 1 - i : Nat) : Int) := by omega
  have hb1 : (0 : Int) ≤ (i : Int) + 1 := by omega
  have hb3 : (i : Int) ≤ (n : Int) + 1 := by omega
  have hb4 : ¬ (c = i) := by omega
  have hb5 : (i : Int) ≤ (n : Int) := by omega
  have htn : ((i : Int) + 1).toNat = i + 1 := by omega
  have hdl : (L.drop i).length = n - i := by rw [List.length_drop, hn]
  have hd4 : (rcs (L.drop i)).length = (n - i) * 4 := by rw [rcs_len, hdl]
  have ht4 : (rcs (L.take i)).length = i * 4 := by rw [rcs_len, List.length_take]; omega
  have hX : (cur.toList.drop (i * 4)).take (rcs (L.drop i)).length = rcs (L.drop i) := by
    rw [hd4, ← rcs_drop, ← htk, List.drop_take]
    congr 1
    omega
  have hX1 := cells_at hg 0 (rcs (L.take i)) (by
    rw [ht4, ← rcs_take, ← htk, List.drop_zero, List.take_take]
    congr 1
    omega)
  have h1d : ∀ v ∈ rcs (L.drop i), v.oneCell' = true := oneR _
  obtain ⟨X2, hX2⟩ : ∃ x, x = rcs (L.drop i) := ⟨_, rfl⟩
  obtain ⟨X1, hX1e⟩ : ∃ x, x = rcs (L.take i) := ⟨_, rfl⟩
  rw [← hX2] at hd4 hX h1d
  rw [← hX1e] at ht4 hX1
  have HX := Lib.hid hX
  have HX1 := Lib.hid hX1
  have HX2 := Lib.hid hX2
  have HX1e := Lib.hid hX1e
  have HG := Lib.hid hg
  have HVB := Lib.hid hvb
  have HKK := Lib.hid hkk
  clear hX hX1 hX2 hX1e htk hg hvb hkk
  go_enter Tryz.func79, Tryz.ntmps79
  go_wp2_with (at_builtin; go_loud (refine wpList_append_zeros rfl (.tmp 34) (.tmp 39) 47 3 rfl 58 i0 _ 4 32 .i64 Tryz.underlying47 Tryz.underlying3 hi0 iz0 iz1 iz2 rfl (by decide) g 0 i c rfl (n + 1 - i) (by rw [← HKK.out]; rfl) X1 ht4 HX1.out (by omega) (by omega) (by unfold maxLen; omega) (by omega) ?_))
  intro cap Z w4 hcap hcm hZ hg4 hgw
  rw [show i + (n + 1 - i) = n + 1 by omega] at hcap ⊢
  have hc1 : ¬ (cap = i + 1) := by omega
  have hc2 : ¬ (cap = i) := by omega
  have hc3 : (i : Int) ≤ (cap : Int) := by omega
  have hvb4 : w4.heap[vb]? = some (.cells (rcell r).toArray 58 (0, 0)) := (hgw.block vb hvl (by simp)).trans HVB.out
  have hnews4 := cells_at hvb4 0 (rcell r) (by simp [rcell])
  have hsz4 : (X1 ++ Z).length = cap * 4 := by rw [List.length_append, ht4, hZ]; omega
  have hs1 : (i * 4) + (rcell r).length ≤ (X1 ++ Z).toArray.size := by simp only [List.size_toArray, hsz4, rcell, List.length_cons, List.length_nil]; omega
  have hs2 : ∀ v ∈ rcell r, v.oneCell' = true := by simp [rcell, Value.oneCell']
  have hs3 : Nat.min 1 (n + 1 - i) = 1 := by simp only [Nat.min_def]; split <;> omega
  have HGW := Lib.hid hgw
  have HZ := Lib.hid hZ
  have HS := Lib.hid hsz4
  obtain ⟨R4, hR4⟩ : ∃ x, x = (X1 ++ Z) := ⟨_, rfl⟩
  rw [← hR4] at hs1 hg4 HS
  have HR4 := Lib.hid hR4
  clear hvb4 hgw hZ hsz4 hR4
  go_wp2_with (with_reducible refine wpList_copy_rt rfl (.tmp 43) (.tmp 44) 47 47 rfl 58 i0 Tryz.underlying47 hi0 4 iz1 w.heap.size (i * 4) (n + 1 - i) (cap - i) ⟨vb, 0, none⟩ 1 1 rfl rfl R4.toArray 58 hg4.out (rcell r) 1 hs3 rfl hnews4 hs1 hs2 ?_)
  intro w5 hg5 hgw5
  obtain ⟨R5, hR5⟩ : ∃ x, x = splice R4 (i * 4) (rcell r) := ⟨_, rfl⟩
  have hg5' : w5.heap[w.heap.size]? = some (.cells R5.toArray 58 (0, 0)) := by rw [hR5]; exact hg5.out
  have hl5 : R5.length = cap * 4 := by rw [hR5, length_splice _ _ _ (by rw [HS.out]; simp [rcell]; omega), HS.out]
  have hg05 : w5.heap[g]? = some (.cells cur 58 (0, 0)) := (hgw5.block g (Nat.lt_of_lt_of_le hgl HGW.out.size) (by intro e; injection e with e; omega)).trans ((HGW.out.block g hgl (by simp)).trans HG.out)
  have hX5 := cells_at hg05 (i * 4) X2 HX.out
  have hfit5 : (i + 1) * 4 + X2.length ≤ R5.toArray.size := by rw [List.size_toArray, hl5, hd4]; omega
  have hmin5 : Nat.min (n - i) (n + 1 - (i + 1)) = n - i := by simp only [Nat.min_def]; split <;> omega
  have HW5 := Lib.hid hgw5
  have HR5 := Lib.hid hR5
  clear hg5 hgw5 hR5 hg05 hnews4 hg4 hs1
  go_wp2_with fail
  go_region_law (refine step_copy_rt rfl (.tmp 50) (.tmp 53) 47 47 rfl 58 i0 Tryz.underlying47 hi0 4 iz1 w.heap.size ((i + 1) * 4) (n + 1 - (i + 1)) (cap - (i + 1)) ⟨g, i * 4, none⟩ (n - i) (c - i) (by simp [Act.eval, Act.put]) (by simp [Act.eval, Act.put]) R5.toArray 58 hg5' X2 (n - i) hmin5 hd4 hX5 hfit5 h1d ?_; intro w6 hg6 hb6)
  have hb6' : w5.grownBy w6 (some w.heap.size) := ⟨hb6.os, hb6.tape, hb6.output, hb6.size, hb6.block⟩
  clear hX5 hg5'
  go_wp2
  go_ret
  refine ⟨_, rfl, ?_, ?_, .inr ⟨_, rfl, Nat.le_refl _⟩⟩
  · have hlen : (L.take i ++ r :: L.drop i).length = n + 1 := by simp; omega
    rw [hlen]
    refine own_made (Nat.zero_le _) hg6.out (by omega) hcm (by rw [List.size_toArray, length_splice _ _ _ (by simpa using hfit5)]; simpa using hl5) ?_
    have h1 := splice_new X1 Z (rcell r) X2 (i * 4) 4 ((n - i) * 4) ht4 rfl hd4 (by rw [HZ.out]; omega)
    rw [show i * 4 + 4 + (n - i) * 4 = (n + 1) * 4 by omega, show i * 4 + 4 = (i + 1) * 4 by omega, ← HR4.out, ← HR5.out] at h1
    rw [rcs_append, rcs_cons, ← HX2.out, ← HX1e.out, ← List.append_assoc]
    simpa using h1
  · have h4 := HGW.out
    have h5 := HW5.out
    exact ⟨hb6'.os.trans (h5.os.trans h4.os), hb6'.tape.trans (h5.tape.trans h4.tape), hb6'.output.trans (h5.output.trans h4.output), Nat.le_trans h4.size (Nat.le_trans h5.size hb6'.size), fun k hk _ => (hb6'.block k (Nat.lt_of_lt_of_le hk (Nat.le_trans h4.size h5.size)) (by intro e; injection e with e; omega)).trans ((h5.block k (Nat.lt_of_lt_of_le hk h4.size) (by intro e; injection e with e; omega)).trans (h4.block k hk (by simp)))⟩
/-- slices.Insert of one route. -/
theorem insert_any (v : Value) (L : List Rt) (i : Nat) (r : Rt) (vb : Nat) (w : World) (hown : w.ownsRow 0 58 4 v L.length (rcs L)) (hi : i ≤ L.length) (hL : L.length < 1048576) (hvb : w.heap[vb]? = some (.cells (rcell r).toArray 58 (0, 0))) (hne : v.ownBlock ≠ some vb) :
    Calls Tryz.prog 79 #[v, .int .i64 (i : Int), .slice (some ⟨vb, 0, none⟩) 1 1] w fun e w' => Inserted w w' e v (L.take i ++ r :: L.drop i) := by
  by_cases h : i = L.length
  · subst h
    have := insert_end v L r vb w hown hL hvb
    rwa [List.take_length, List.drop_length]
  · obtain ⟨g, cap, cur, rfl, -, hgl, hg, h1, h2, h3, h4⟩ := own_whole hown (by omega)
    by_cases hr : L.length + 1 ≤ cap
    · exact insert_room g cap L.length i cur L r vb w rfl hg hr h2 h3 h4 (by omega) hL hvb (fun e => hne (by rw [e]; rfl))
    · exact insert_grow g cap L.length i cur L r vb w rfl hg (by omega) h1 h3 h4 (by omega) hL hvb
end Go.Proofs.YtoihkbanmnagkaaGreat

/-
  WeighEdges as a walk: it hands back true, for every number. No condition.
-/
import Derived.Test.YtdfmebfkhcdphaaL10
import Derived.Laws.NewFold
set_option linter.unusedSimpArgs false
set_option linter.unusedVariables false
namespace Go.Proofs.Ytdfmebfkhcdphaa
open Go.RowKit Go.Sort M

/-- The bits of the NaN that 0 / 0 is, in a world. -/
def nanW (w : World) : Nat := (Question.nanBits .f64 0 0).cut (w.tape w.drawn (.nanBits .f64 0 0))
theorem nanW_nan (w : World) : ∃ s t, Ieee.double.read (nanW w) = .nan s t := by
  have h : ∃ t, nanW w = (t % 2) * 9223372036854775808 + 9218868437227405312 + 1 + (t / 2) % 4503599627370495 := ⟨_, rfl⟩
  obtain ⟨t, h⟩ := h
  rw [h]
  have hs := Nat.mod_lt (t / 2) (show 0 < 4503599627370495 by omega)
  generalize t / 2 % 4503599627370495 = f at *
  unfold Ieee.Format.read
  rw [sgw, bin, infr]
  dsimp only
  have e : (t % 2 * 9223372036854775808 + 9218868437227405312 + 1 + f) % 9223372036854775808 = 9218868437227405312 + 1 + f := by omega
  rw [e, if_neg (by omega), if_neg (by omega), if_neg (by omega)]
  exact ⟨_, _, rfl⟩
theorem nanW_wt (w : World) : wtN (nanW w) = 0 := by
  obtain ⟨s, t, h⟩ := nanW_nan w
  unfold wtN
  rw [h]
  rfl
theorem nan_run (t : TypeId) (w : World) : (binOp .quo t (.float .f64 0) (.float .f64 0)).run Try.prog w = .ok (.float .f64 (nanW w)) w.drew := by
  have h : FloatKind.f64.format.div 0 0 = none := by decide +kernel
  simp [binOp, Op.floatArith, h, nanW, Question.forced]
theorem quo_run (a b r : Nat) (h : floatBits .quo .f64 a b = some r) (t : TypeId) (w : World) : (binOp .quo t (.float .f64 a) (.float .f64 b)).run Try.prog w = .ok (.float .f64 r) w := run_float_arith w .quo t .f64 a b r h
theorem neg_run (w : World) : (Op.unary .neg (.float .f64 0)).run Try.prog w = .ok (.float .f64 9223372036854775808) w := by
  have h : Op.negFloat .f64 0 = 9223372036854775808 := by decide +kernel
  show (pure (.float .f64 (Op.negFloat .f64 0)) : Sem Value).run Try.prog w = _
  rw [h]
  rfl

set_option maxHeartbeats 4000000 in
theorem weighEdges_walk (which : Int) : Gives Try.prog 4 #[.int .i64 which] (.bool true) := by
  intro w
  have HA := Lib.hid alive10_any
  have HNAN := Lib.hid nan_run
  have HNEG := Lib.hid neg_run
  have HQ1 := Lib.hid (quo_run 4607182418800017408 0 9218868437227405312 (by decide +kernel))
  have HQ2 := Lib.hid (quo_run 13830554455654793216 0 18442240474082181120 (by decide +kernel))
  have HQ3 := Lib.hid (quo_run 4607182418800017408 18442240474082181120 9223372036854775808 (by decide +kernel))
  have HQ4 := Lib.hid (quo_run 4607182418800017408 0 9218868437227405312 (by decide +kernel))
  have hgt : (FloatKind.f64.format.order 9218868437227405312 0 == some .gt) = true := by decide +kernel
  by_cases h0 : which < 0
  · skip
    go_enter Try.func4, Try.ntmps4
    go_wp2_with fail
    refine (HA.out _).mono ?_
    rintro e0 w0 ⟨rfl, hb0⟩
    have hw0 : Below w.heap.size w w0 := by
      refine Below.trans ?_ (hb0.mono ?_)
      · go_grown
      · go_size
    have hz0 := hw0.size
    go_wp2_with (first | rw [HNAN.out] | rw [HQ1.out] | rw [HQ2.out] | rw [HQ3.out] | rw [HNEG.out] | fail)
    go_ret
    exact ⟨rfl, by go_grown⟩
  · by_cases h1 : 14 ≤ which
    · skip
      go_enter Try.func4, Try.ntmps4
      go_wp2_with fail
      refine (HA.out _).mono ?_
      rintro e0 w0 ⟨rfl, hb0⟩
      have hw0 : Below w.heap.size w w0 := by
        refine Below.trans ?_ (hb0.mono ?_)
        · go_grown
        · go_size
      have hz0 := hw0.size
      go_wp2_with (first | rw [HNAN.out] | rw [HQ1.out] | rw [HQ2.out] | rw [HQ3.out] | rw [HNEG.out] | fail)
      go_ret
      exact ⟨rfl, by go_grown⟩
    · have h : which = 0 ∨ which = 1 ∨ which = 2 ∨ which = 3 ∨ which = 4 ∨ which = 5 ∨ which = 6 ∨ which = 7 ∨ which = 8 ∨ which = 9 ∨ which = 10 ∨ which = 11 ∨ which = 12 ∨ which = 13 := by omega
      clear h0 h1
      rcases h with rfl | rfl | rfl | rfl | rfl | rfl | rfl | rfl | rfl | rfl | rfl | rfl | rfl | rfl
      · have hwx : ∀ wx : World, Gives Try.prog 10 #[.float .f64 (nanW wx)] (.float .f64 0) := by
          intro wx
          have h := weight_any (nanW wx)
          rwa [nanW_wt, fl_zero] at h
        have HW := Lib.hid hwx
        have heq : (FloatKind.f64.format.order 0 (floatOfInt .f64 0) == some .eq) = true := by decide +kernel
        have hne : (FloatKind.f64.format.order 0 0 != some .eq) = false := by decide +kernel
        clear hwx
        go_enter Try.func4, Try.ntmps4
        go_wp2_with fail
        refine (HA.out _).mono ?_
        rintro e0 w0 ⟨rfl, hb0⟩
        have hw0 : Below w.heap.size w w0 := by
          refine Below.trans ?_ (hb0.mono ?_)
          · go_grown
          · go_size
        have hz0 := hw0.size
        go_wp2_with (first | rw [HNAN.out] | rw [HQ1.out] | rw [HQ2.out] | rw [HQ3.out] | rw [HNEG.out] | fail)
        refine (HW.out w0 _).mono ?_
        rintro e w1 ⟨rfl, hb1⟩
        have c1 : w1.cell? ⟨w0.heap.size + 1, 0, none⟩ = some (.int .i64 0) := by
          rw [hb1.cell (by simp <;> omega)]
          first | assumption | (simp [go_sem]; done) | (simp [go_sem, *]; done)
        have hw1 : Below w.heap.size w w1 := Below.trans (by go_grown) (hb1.mono (by go_size))
        have hz1 : w0.heap.size + 1 < w1.heap.size := by
          have hs := hb1.size
          simp at hs
          omega
        clear hb1
        go_wp2_with (first | rw [HQ4.out] | fail)
        go_ret
        exact ⟨rfl, by go_grown⟩
      · have hwx : ∀ wx : World, Gives Try.prog 10 #[.float .f64 9218868437227405312] (.float .f64 4742290407621132288) := by
          intro wx
          have h := weight_any 9218868437227405312
          rwa [show wtN 9218868437227405312 = 1073741824 by decide +kernel, show fl 1073741824 = 4742290407621132288 by decide +kernel] at h
        have HW := Lib.hid hwx
        have heq : (FloatKind.f64.format.order 4742290407621132288 (floatOfInt .f64 1073741824) == some .eq) = true := by decide +kernel
        have hne : (FloatKind.f64.format.order 4742290407621132288 0 != some .eq) = true := by decide +kernel
        clear hwx
        go_enter Try.func4, Try.ntmps4
        go_wp2_with fail
        refine (HA.out _).mono ?_
        rintro e0 w0 ⟨rfl, hb0⟩
        have hw0 : Below w.heap.size w w0 := by
          refine Below.trans ?_ (hb0.mono ?_)
          · go_grown
          · go_size
        have hz0 := hw0.size
        go_wp2_with (first | rw [HNAN.out] | rw [HQ1.out] | rw [HQ2.out] | rw [HQ3.out] | rw [HNEG.out] | fail)
        refine (HW.out w0 _).mono ?_
        rintro e w1 ⟨rfl, hb1⟩
        have c1 : w1.cell? ⟨w0.heap.size + 1, 1, none⟩ = some (.int .i64 1073741824) := by
          rw [hb1.cell (by simp <;> omega)]
          first | assumption | (simp [go_sem]; done) | (simp [go_sem, *]; done)
        have hw1 : Below w.heap.size w w1 := Below.trans (by go_grown) (hb1.mono (by go_size))
        have hz1 : w0.heap.size + 1 < w1.heap.size := by
          have hs := hb1.size
          simp at hs
          omega
        clear hb1
        go_wp2_with (first | rw [HQ4.out] | fail)
        go_ret
        exact ⟨rfl, by go_grown⟩
      · have hwx : ∀ wx : World, Gives Try.prog 10 #[.float .f64 18442240474082181120] (.float .f64 0) := by
          intro wx
          have h := weight_any 18442240474082181120
          rwa [show wtN 18442240474082181120 = 0 by decide +kernel, show fl 0 = 0 by decide +kernel] at h
        have HW := Lib.hid hwx
        have heq : (FloatKind.f64.format.order 0 (floatOfInt .f64 0) == some .eq) = true := by decide +kernel
        have hne : (FloatKind.f64.format.order 0 0 != some .eq) = false := by decide +kernel
        clear hwx
        go_enter Try.func4, Try.ntmps4
        go_wp2_with fail
        refine (HA.out _).mono ?_
        rintro e0 w0 ⟨rfl, hb0⟩
        have hw0 : Below w.heap.size w w0 := by
          refine Below.trans ?_ (hb0.mono ?_)
          · go_grown
          · go_size
        have hz0 := hw0.size
        go_wp2_with (first | rw [HNAN.out] | rw [HQ1.out] | rw [HQ2.out] | rw [HQ3.out] | rw [HNEG.out] | fail)
        refine (HW.out w0 _).mono ?_
        rintro e w1 ⟨rfl, hb1⟩
        have c1 : w1.cell? ⟨w0.heap.size + 1, 2, none⟩ = some (.int .i64 0) := by
          rw [hb1.cell (by simp <;> omega)]
          first | assumption | (simp [go_sem]; done) | (simp [go_sem, *]; done)
        have hw1 : Below w.heap.size w w1 := Below.trans (by go_grown) (hb1.mono (by go_size))
        have hz1 : w0.heap.size + 1 < w1.heap.size := by
          have hs := hb1.size
          simp at hs
          omega
        clear hb1
        go_wp2_with (first | rw [HQ4.out] | fail)
        go_ret
        exact ⟨rfl, by go_grown⟩
      · have hwx : ∀ wx : World, Gives Try.prog 10 #[.float .f64 0] (.float .f64 0) := by
          intro wx
          have h := weight_any 0
          rwa [show wtN 0 = 0 by decide +kernel, show fl 0 = 0 by decide +kernel] at h
        have HW := Lib.hid hwx
        have heq : (FloatKind.f64.format.order 0 (floatOfInt .f64 0) == some .eq) = true := by decide +kernel
        have hne : (FloatKind.f64.format.order 0 0 != some .eq) = false := by decide +kernel
        clear hwx
        go_enter Try.func4, Try.ntmps4
        go_wp2_with fail
        refine (HA.out _).mono ?_
        rintro e0 w0 ⟨rfl, hb0⟩
        have hw0 : Below w.heap.size w w0 := by
          refine Below.trans ?_ (hb0.mono ?_)
          · go_grown
          · go_size
        have hz0 := hw0.size
        go_wp2_with (first | rw [HNAN.out] | rw [HQ1.out] | rw [HQ2.out] | rw [HQ3.out] | rw [HNEG.out] | fail)
        refine (HW.out w0 _).mono ?_
        rintro e w1 ⟨rfl, hb1⟩
        have c1 : w1.cell? ⟨w0.heap.size + 1, 3, none⟩ = some (.int .i64 0) := by
          rw [hb1.cell (by simp <;> omega)]
          first | assumption | (simp [go_sem]; done) | (simp [go_sem, *]; done)
        have hw1 : Below w.heap.size w w1 := Below.trans (by go_grown) (hb1.mono (by go_size))
        have hz1 : w0.heap.size + 1 < w1.heap.size := by
          have hs := hb1.size
          simp at hs
          omega
        clear hb1
        go_wp2_with (first | rw [HQ4.out] | fail)
        go_ret
        exact ⟨rfl, by go_grown⟩
      · have hwx : ∀ wx : World, Gives Try.prog 10 #[.float .f64 9223372036854775808] (.float .f64 0) := by
          intro wx
          have h := weight_any 9223372036854775808
          rwa [show wtN 9223372036854775808 = 0 by decide +kernel, show fl 0 = 0 by decide +kernel] at h
        have HW := Lib.hid hwx
        have heq : (FloatKind.f64.format.order 0 (floatOfInt .f64 0) == some .eq) = true := by decide +kernel
        have hne : (FloatKind.f64.format.order 0 0 != some .eq) = false := by decide +kernel
        clear hwx
        go_enter Try.func4, Try.ntmps4
        go_wp2_with fail
        refine (HA.out _).mono ?_
        rintro e0 w0 ⟨rfl, hb0⟩
        have hw0 : Below w.heap.size w w0 := by
          refine Below.trans ?_ (hb0.mono ?_)
          · go_grown
          · go_size
        have hz0 := hw0.size
        go_wp2_with (first | rw [HNAN.out] | rw [HQ1.out] | rw [HQ2.out] | rw [HQ3.out] | rw [HNEG.out] | fail)
        refine (HW.out w0 _).mono ?_
        rintro e w1 ⟨rfl, hb1⟩
        have c1 : w1.cell? ⟨w0.heap.size + 1, 4, none⟩ = some (.int .i64 0) := by
          rw [hb1.cell (by simp <;> omega)]
          first | assumption | (simp [go_sem]; done) | (simp [go_sem, *]; done)
        have hw1 : Below w.heap.size w w1 := Below.trans (by go_grown) (hb1.mono (by go_size))
        have hz1 : w0.heap.size + 1 < w1.heap.size := by
          have hs := hb1.size
          simp at hs
          omega
        clear hb1
        go_wp2_with (first | rw [HQ4.out] | fail)
        go_ret
        exact ⟨rfl, by go_grown⟩
      · have hwx : ∀ wx : World, Gives Try.prog 10 #[.float .f64 4607182418800017408] (.float .f64 4607182418800017408) := by
          intro wx
          have h := weight_any 4607182418800017408
          rwa [show wtN 4607182418800017408 = 1 by decide +kernel, show fl 1 = 4607182418800017408 by decide +kernel] at h
        have HW := Lib.hid hwx
        have heq : (FloatKind.f64.format.order 4607182418800017408 (floatOfInt .f64 1) == some .eq) = true := by decide +kernel
        have hne : (FloatKind.f64.format.order 4607182418800017408 0 != some .eq) = true := by decide +kernel
        clear hwx
        go_enter Try.func4, Try.ntmps4
        go_wp2_with fail
        refine (HA.out _).mono ?_
        rintro e0 w0 ⟨rfl, hb0⟩
        have hw0 : Below w.heap.size w w0 := by
          refine Below.trans ?_ (hb0.mono ?_)
          · go_grown
          · go_size
        have hz0 := hw0.size
        go_wp2_with (first | rw [HNAN.out] | rw [HQ1.out] | rw [HQ2.out] | rw [HQ3.out] | rw [HNEG.out] | fail)
        refine (HW.out w0 _).mono ?_
        rintro e w1 ⟨rfl, hb1⟩
        have c1 : w1.cell? ⟨w0.heap.size + 1, 5, none⟩ = some (.int .i64 1) := by
          rw [hb1.cell (by simp <;> omega)]
          first | assumption | (simp [go_sem]; done) | (simp [go_sem, *]; done)
        have hw1 : Below w.heap.size w w1 := Below.trans (by go_grown) (hb1.mono (by go_size))
        have hz1 : w0.heap.size + 1 < w1.heap.size := by
          have hs := hb1.size
          simp at hs
          omega
        clear hb1
        go_wp2_with (first | rw [HQ4.out] | fail)
        go_ret
        exact ⟨rfl, by go_grown⟩
      · have hwx : ∀ wx : World, Gives Try.prog 10 #[.float .f64 4607173411600762667] (.float .f64 0) := by
          intro wx
          have h := weight_any 4607173411600762667
          rwa [show wtN 4607173411600762667 = 0 by decide +kernel, show fl 0 = 0 by decide +kernel] at h
        have HW := Lib.hid hwx
        have heq : (FloatKind.f64.format.order 0 (floatOfInt .f64 0) == some .eq) = true := by decide +kernel
        have hne : (FloatKind.f64.format.order 0 0 != some .eq) = false := by decide +kernel
        clear hwx
        go_enter Try.func4, Try.ntmps4
        go_wp2_with fail
        refine (HA.out _).mono ?_
        rintro e0 w0 ⟨rfl, hb0⟩
        have hw0 : Below w.heap.size w w0 := by
          refine Below.trans ?_ (hb0.mono ?_)
          · go_grown
          · go_size
        have hz0 := hw0.size
        go_wp2_with (first | rw [HNAN.out] | rw [HQ1.out] | rw [HQ2.out] | rw [HQ3.out] | rw [HNEG.out] | fail)
        refine (HW.out w0 _).mono ?_
        rintro e w1 ⟨rfl, hb1⟩
        have c1 : w1.cell? ⟨w0.heap.size + 1, 6, none⟩ = some (.int .i64 0) := by
          rw [hb1.cell (by simp <;> omega)]
          first | assumption | (simp [go_sem]; done) | (simp [go_sem, *]; done)
        have hw1 : Below w.heap.size w w1 := Below.trans (by go_grown) (hb1.mono (by go_size))
        have hz1 : w0.heap.size + 1 < w1.heap.size := by
          have hs := hb1.size
          simp at hs
          omega
        clear hb1
        go_wp2_with (first | rw [HQ4.out] | fail)
        go_ret
        exact ⟨rfl, by go_grown⟩
      · have hwx : ∀ wx : World, Gives Try.prog 10 #[.float .f64 13840687554816376832] (.float .f64 0) := by
          intro wx
          have h := weight_any 13840687554816376832
          rwa [show wtN 13840687554816376832 = 0 by decide +kernel, show fl 0 = 0 by decide +kernel] at h
        have HW := Lib.hid hwx
        have heq : (FloatKind.f64.format.order 0 (floatOfInt .f64 0) == some .eq) = true := by decide +kernel
        have hne : (FloatKind.f64.format.order 0 0 != some .eq) = false := by decide +kernel
        clear hwx
        go_enter Try.func4, Try.ntmps4
        go_wp2_with fail
        refine (HA.out _).mono ?_
        rintro e0 w0 ⟨rfl, hb0⟩
        have hw0 : Below w.heap.size w w0 := by
          refine Below.trans ?_ (hb0.mono ?_)
          · go_grown
          · go_size
        have hz0 := hw0.size
        go_wp2_with (first | rw [HNAN.out] | rw [HQ1.out] | rw [HQ2.out] | rw [HQ3.out] | rw [HNEG.out] | fail)
        refine (HW.out w0 _).mono ?_
        rintro e w1 ⟨rfl, hb1⟩
        have c1 : w1.cell? ⟨w0.heap.size + 1, 7, none⟩ = some (.int .i64 0) := by
          rw [hb1.cell (by simp <;> omega)]
          first | assumption | (simp [go_sem]; done) | (simp [go_sem, *]; done)
        have hw1 : Below w.heap.size w w1 := Below.trans (by go_grown) (hb1.mono (by go_size))
        have hz1 : w0.heap.size + 1 < w1.heap.size := by
          have hs := hb1.size
          simp at hs
          omega
        clear hb1
        go_wp2_with (first | rw [HQ4.out] | fail)
        go_ret
        exact ⟨rfl, by go_grown⟩
      · have hwx : ∀ wx : World, Gives Try.prog 10 #[.float .f64 4742290407621132288] (.float .f64 4742290407621132288) := by
          intro wx
          have h := weight_any 4742290407621132288
          rwa [show wtN 4742290407621132288 = 1073741824 by decide +kernel, show fl 1073741824 = 4742290407621132288 by decide +kernel] at h
        have HW := Lib.hid hwx
        have heq : (FloatKind.f64.format.order 4742290407621132288 (floatOfInt .f64 1073741824) == some .eq) = true := by decide +kernel
        have hne : (FloatKind.f64.format.order 4742290407621132288 0 != some .eq) = true := by decide +kernel
        clear hwx
        go_enter Try.func4, Try.ntmps4
        go_wp2_with fail
        refine (HA.out _).mono ?_
        rintro e0 w0 ⟨rfl, hb0⟩
        have hw0 : Below w.heap.size w w0 := by
          refine Below.trans ?_ (hb0.mono ?_)
          · go_grown
          · go_size
        have hz0 := hw0.size
        go_wp2_with (first | rw [HNAN.out] | rw [HQ1.out] | rw [HQ2.out] | rw [HQ3.out] | rw [HNEG.out] | fail)
        refine (HW.out w0 _).mono ?_
        rintro e w1 ⟨rfl, hb1⟩
        have c1 : w1.cell? ⟨w0.heap.size + 1, 8, none⟩ = some (.int .i64 1073741824) := by
          rw [hb1.cell (by simp <;> omega)]
          first | assumption | (simp [go_sem]; done) | (simp [go_sem, *]; done)
        have hw1 : Below w.heap.size w w1 := Below.trans (by go_grown) (hb1.mono (by go_size))
        have hz1 : w0.heap.size + 1 < w1.heap.size := by
          have hs := hb1.size
          simp at hs
          omega
        clear hb1
        go_wp2_with (first | rw [HQ4.out] | fail)
        go_ret
        exact ⟨rfl, by go_grown⟩
      · have hwx : ∀ wx : World, Gives Try.prog 10 #[.float .f64 4742290407625326592] (.float .f64 4742290407621132288) := by
          intro wx
          have h := weight_any 4742290407625326592
          rwa [show wtN 4742290407625326592 = 1073741824 by decide +kernel, show fl 1073741824 = 4742290407621132288 by decide +kernel] at h
        have HW := Lib.hid hwx
        have heq : (FloatKind.f64.format.order 4742290407621132288 (floatOfInt .f64 1073741824) == some .eq) = true := by decide +kernel
        have hne : (FloatKind.f64.format.order 4742290407621132288 0 != some .eq) = true := by decide +kernel
        clear hwx
        go_enter Try.func4, Try.ntmps4
        go_wp2_with fail
        refine (HA.out _).mono ?_
        rintro e0 w0 ⟨rfl, hb0⟩
        have hw0 : Below w.heap.size w w0 := by
          refine Below.trans ?_ (hb0.mono ?_)
          · go_grown
          · go_size
        have hz0 := hw0.size
        go_wp2_with (first | rw [HNAN.out] | rw [HQ1.out] | rw [HQ2.out] | rw [HQ3.out] | rw [HNEG.out] | fail)
        refine (HW.out w0 _).mono ?_
        rintro e w1 ⟨rfl, hb1⟩
        have c1 : w1.cell? ⟨w0.heap.size + 1, 9, none⟩ = some (.int .i64 1073741824) := by
          rw [hb1.cell (by simp <;> omega)]
          first | assumption | (simp [go_sem]; done) | (simp [go_sem, *]; done)
        have hw1 : Below w.heap.size w w1 := Below.trans (by go_grown) (hb1.mono (by go_size))
        have hz1 : w0.heap.size + 1 < w1.heap.size := by
          have hs := hb1.size
          simp at hs
          omega
        clear hb1
        go_wp2_with (first | rw [HQ4.out] | fail)
        go_ret
        exact ⟨rfl, by go_grown⟩
      · have hwx : ∀ wx : World, Gives Try.prog 10 #[.float .f64 4886405595696988160] (.float .f64 4742290407621132288) := by
          intro wx
          have h := weight_any 4886405595696988160
          rwa [show wtN 4886405595696988160 = 1073741824 by decide +kernel, show fl 1073741824 = 4742290407621132288 by decide +kernel] at h
        have HW := Lib.hid hwx
        have heq : (FloatKind.f64.format.order 4742290407621132288 (floatOfInt .f64 1073741824) == some .eq) = true := by decide +kernel
        have hne : (FloatKind.f64.format.order 4742290407621132288 0 != some .eq) = true := by decide +kernel
        clear hwx
        go_enter Try.func4, Try.ntmps4
        go_wp2_with fail
        refine (HA.out _).mono ?_
        rintro e0 w0 ⟨rfl, hb0⟩
        have hw0 : Below w.heap.size w w0 := by
          refine Below.trans ?_ (hb0.mono ?_)
          · go_grown
          · go_size
        have hz0 := hw0.size
        go_wp2_with (first | rw [HNAN.out] | rw [HQ1.out] | rw [HQ2.out] | rw [HQ3.out] | rw [HNEG.out] | fail)
        refine (HW.out w0 _).mono ?_
        rintro e w1 ⟨rfl, hb1⟩
        have c1 : w1.cell? ⟨w0.heap.size + 1, 10, none⟩ = some (.int .i64 1073741824) := by
          rw [hb1.cell (by simp <;> omega)]
          first | assumption | (simp [go_sem]; done) | (simp [go_sem, *]; done)
        have hw1 : Below w.heap.size w w1 := Below.trans (by go_grown) (hb1.mono (by go_size))
        have hz1 : w0.heap.size + 1 < w1.heap.size := by
          have hs := hb1.size
          simp at hs
          omega
        clear hb1
        go_wp2_with (first | rw [HQ4.out] | fail)
        go_ret
        exact ⟨rfl, by go_grown⟩
      · have hwx : ∀ wx : World, Gives Try.prog 10 #[.float .f64 1] (.float .f64 0) := by
          intro wx
          have h := weight_any 1
          rwa [show wtN 1 = 0 by decide +kernel, show fl 0 = 0 by decide +kernel] at h
        have HW := Lib.hid hwx
        have heq : (FloatKind.f64.format.order 0 (floatOfInt .f64 0) == some .eq) = true := by decide +kernel
        have hne : (FloatKind.f64.format.order 0 0 != some .eq) = false := by decide +kernel
        clear hwx
        go_enter Try.func4, Try.ntmps4
        go_wp2_with fail
        refine (HA.out _).mono ?_
        rintro e0 w0 ⟨rfl, hb0⟩
        have hw0 : Below w.heap.size w w0 := by
          refine Below.trans ?_ (hb0.mono ?_)
          · go_grown
          · go_size
        have hz0 := hw0.size
        go_wp2_with (first | rw [HNAN.out] | rw [HQ1.out] | rw [HQ2.out] | rw [HQ3.out] | rw [HNEG.out] | fail)
        refine (HW.out w0 _).mono ?_
        rintro e w1 ⟨rfl, hb1⟩
        have c1 : w1.cell? ⟨w0.heap.size + 1, 11, none⟩ = some (.int .i64 0) := by
          rw [hb1.cell (by simp <;> omega)]
          first | assumption | (simp [go_sem]; done) | (simp [go_sem, *]; done)
        have hw1 : Below w.heap.size w w1 := Below.trans (by go_grown) (hb1.mono (by go_size))
        have hz1 : w0.heap.size + 1 < w1.heap.size := by
          have hs := hb1.size
          simp at hs
          omega
        clear hb1
        go_wp2_with (first | rw [HQ4.out] | fail)
        go_ret
        exact ⟨rfl, by go_grown⟩
      · have hwx : ∀ wx : World, Gives Try.prog 10 #[.float .f64 4742290407616937984] (.float .f64 4742290407612743680) := by
          intro wx
          have h := weight_any 4742290407616937984
          rwa [show wtN 4742290407616937984 = 1073741823 by decide +kernel, show fl 1073741823 = 4742290407612743680 by decide +kernel] at h
        have HW := Lib.hid hwx
        have heq : (FloatKind.f64.format.order 4742290407612743680 (floatOfInt .f64 1073741823) == some .eq) = true := by decide +kernel
        have hne : (FloatKind.f64.format.order 4742290407612743680 0 != some .eq) = true := by decide +kernel
        clear hwx
        go_enter Try.func4, Try.ntmps4
        go_wp2_with fail
        refine (HA.out _).mono ?_
        rintro e0 w0 ⟨rfl, hb0⟩
        have hw0 : Below w.heap.size w w0 := by
          refine Below.trans ?_ (hb0.mono ?_)
          · go_grown
          · go_size
        have hz0 := hw0.size
        go_wp2_with (first | rw [HNAN.out] | rw [HQ1.out] | rw [HQ2.out] | rw [HQ3.out] | rw [HNEG.out] | fail)
        refine (HW.out w0 _).mono ?_
        rintro e w1 ⟨rfl, hb1⟩
        have c1 : w1.cell? ⟨w0.heap.size + 1, 12, none⟩ = some (.int .i64 1073741823) := by
          rw [hb1.cell (by simp <;> omega)]
          first | assumption | (simp [go_sem]; done) | (simp [go_sem, *]; done)
        have hw1 : Below w.heap.size w w1 := Below.trans (by go_grown) (hb1.mono (by go_size))
        have hz1 : w0.heap.size + 1 < w1.heap.size := by
          have hs := hb1.size
          simp at hs
          omega
        clear hb1
        go_wp2_with (first | rw [HQ4.out] | fail)
        go_ret
        exact ⟨rfl, by go_grown⟩
      · have hwx : ∀ wx : World, Gives Try.prog 10 #[.float .f64 9223372036854775808] (.float .f64 0) := by
          intro wx
          have h := weight_any 9223372036854775808
          rwa [show wtN 9223372036854775808 = 0 by decide +kernel, show fl 0 = 0 by decide +kernel] at h
        have HW := Lib.hid hwx
        have heq : (FloatKind.f64.format.order 0 (floatOfInt .f64 0) == some .eq) = true := by decide +kernel
        have hne : (FloatKind.f64.format.order 0 0 != some .eq) = false := by decide +kernel
        clear hwx
        go_enter Try.func4, Try.ntmps4
        go_wp2_with fail
        refine (HA.out _).mono ?_
        rintro e0 w0 ⟨rfl, hb0⟩
        have hw0 : Below w.heap.size w w0 := by
          refine Below.trans ?_ (hb0.mono ?_)
          · go_grown
          · go_size
        have hz0 := hw0.size
        go_wp2_with (first | rw [HNAN.out] | rw [HQ1.out] | rw [HQ2.out] | rw [HQ3.out] | rw [HNEG.out] | fail)
        refine (HW.out w0 _).mono ?_
        rintro e w1 ⟨rfl, hb1⟩
        have c1 : w1.cell? ⟨w0.heap.size + 1, 13, none⟩ = some (.int .i64 0) := by
          rw [hb1.cell (by simp <;> omega)]
          first | assumption | (simp [go_sem]; done) | (simp [go_sem, *]; done)
        have hw1 : Below w.heap.size w w1 := Below.trans (by go_grown) (hb1.mono (by go_size))
        have hz1 : w0.heap.size + 1 < w1.heap.size := by
          have hs := hb1.size
          simp at hs
          omega
        clear hb1
        go_wp2_with (first | rw [HQ4.out] | fail)
        go_ret
        exact ⟨rfl, by go_grown⟩
end Go.Proofs.Ytdfmebfkhcdphaa

/-
  The given laws of chapter 3 as walks, third part. They ask what Kit tells of the library's variables.
-/
import Derived.Test.YtegaeifmikfpcaaDoorL3b
set_option linter.unusedSimpArgs false
set_option linter.unusedVariables false
namespace Go.Proofs.YtegaeifmikfpcaaDoor
open Go.RowKit Go.Sort M

set_option maxHeartbeats 2000000 in
theorem kwrite_walk (i : Int) : GivesK 5 #[.int .i64 i] (.bool true) := by
  intro w hk
  have HK := Lib.hid hk
  clear hk
  by_cases hin : 0 ≤ i ∧ i < 10
  · obtain ⟨i0, i1⟩ := hin
    obtain ⟨k, rfl⟩ := Int.eq_ofNat_of_zero_le i0
    have hkk : k < 10 := by omega
    have hs := wIn_at k hkk
    have ht := wOut_at k hkk
    obtain ⟨hi, lo, n, r1, r2, len1, len2, hsh, wh, wl⟩ := good_one k hkk
    have hR1 := kread_any (wIn.getD k []) (by omega)
    have hR2 := kread_any (wOut.getD k []) (by omega)
    have hS : ∀ w, Kit w.heap.size w → Calls Tryd.prog 11 #[.agg #[.int .u64 hi, .int .u64 lo, .int .i64 (n : Int)]] w fun e w' => e = .returned (.string ⟨(showK hi lo (n : Int)).toArray⟩) ∧ Below w.heap.size w w' := kshow_any hi lo (n : Int) wh wl
    rw [r1] at hR1
    rw [r2] at hR2
    rw [hsh] at hS
    generalize wIn.getD k [] = s at hs hR1
    generalize wOut.getD k [] = t at ht hR2 hS
    have hR1' : GivesK 8 #[.string ⟨s.toArray⟩] (.tuple #[.agg #[.int .u64 hi, .int .u64 lo, .int .i64 (n : Int)], .int .i64 0]) := hR1
    have hR2' : GivesK 8 #[.string ⟨t.toArray⟩] (.tuple #[.agg #[.int .u64 hi, .int .u64 lo, .int .i64 (n : Int)], .int .i64 0]) := hR2
    have HR1 := Lib.hid hR1'
    have HR2 := Lib.hid hR2'
    have HS := Lib.hid hS
    have hpp : ∀ w, (binOp .eql 26 (.agg #[.int .u64 hi, .int .u64 lo, .int .i64 (n : Int)]) (.agg #[.int .u64 hi, .int .u64 lo, .int .i64 (n : Int)])).run Tryd.prog w = .ok (.bool true) w := fun w => eql_pfx3i _ _ _ _ _ _ w rfl rfl rfl
    clear hR1 hR2 hR1' hR2' hS r1 r2 len1 len2 hsh wh wl
    go_enter Tryd.func5, Tryd.ntmps5
    go_wp2_with fail
    refine (alive3_any _ HK.out).mono ?_
    rintro e w0 ⟨rfl, hw0⟩
    have z0 := hw0.size
    go_wp2_with fail
    refine (HR1.out _ (HK.out.up (by go_grown))).mono ?_
    rintro e w1 ⟨rfl, hb1⟩
    have hk1 : Below w0.heap.size w0 w1 := Below.trans (by go_grown) (hb1.mono (by go_size))
    have c0 : w1.cell? ⟨w0.heap.size + 1, k, none⟩ = some (.string ⟨t.toArray⟩) := by
      rw [hb1.cell (by simp <;> omega)]
      first | assumption | (simp [go_sem]; done) | (simp [go_sem, *]; done)
    have z1 : w0.heap.size + 1 < w1.heap.size := by have := hb1.size; simp at this; omega
    have hq2 : Below w.heap.size w w1 := hw0.trans (hk1.mono z0)
    have z3 := hq2.size
    clear hb1 hk1 hw0
    go_wp2_with fail
    refine (HR2.out _ (HK.out.up (by go_grown))).mono ?_
    rintro e w2 ⟨rfl, hb2⟩
    have d0 : w2.cell? ⟨w1.heap.size, 0, none⟩ = some (.int .u64 hi) := by
      rw [hb2.cell (by simp <;> omega)]
      first | assumption | (simp [go_sem]; done) | (simp [go_sem, *]; done)
    have d1 : w2.cell? ⟨w1.heap.size, 1, none⟩ = some (.int .u64 lo) := by
      rw [hb2.cell (by simp <;> omega)]
      first | assumption | (simp [go_sem]; done) | (simp [go_sem, *]; done)
    have d2 : w2.cell? ⟨w1.heap.size, 2, none⟩ = some (.int .i64 (n : Int)) := by
      rw [hb2.cell (by simp <;> omega)]
      first | assumption | (simp [go_sem]; done) | (simp [go_sem, *]; done)
    have z4 : w1.heap.size < w2.heap.size := by have := hb2.size; simp at this; omega
    have hk2 : Below w1.heap.size w1 w2 := Below.trans (by go_grown) (hb2.mono (by go_size))
    obtain ⟨hc2, hf2⟩ := bcell hk2
    have c0 := (hc2 _ _ (by omega)).trans c0
    have hq2 := Below.trans hq2 (hk2.mono (by omega))
    have z1 := Nat.lt_of_lt_of_le z1 hk2.size
    clear hc2 hf2 hk2 hb2
    have HT2 := Lib.hid (HK.out.up hq2)
    have z5 := hq2.size
    have z6 : w0.heap.size < w2.heap.size := by omega
    go_wp2_with fail
    have kg := cell_grow
    refine region_whole (by kernel_rfl) (by kernel_rfl) ?_
    repeat (any_goals (first | go_big_quiet_step (first | (go_at_call 10; exact Calls.regrown_of ((num3_any _ _).mono fun _ _ ⟨h1, h2⟩ => ⟨h1, h2 ▸ Below.refl _ _⟩)) | (go_at_call 11; exact Calls.regrown_of (HS.out _ (Kit.re (HT2.out.up (by go_grown)) _ _)))) | quiet_step (first | (go_at_call 10; exact Calls.regrown_of ((num3_any _ _).mono fun _ _ ⟨h1, h2⟩ => ⟨h1, h2 ▸ Below.refl _ _⟩)) | (go_at_call 11; exact Calls.regrown_of (HS.out _ (Kit.re (HT2.out.up (by go_grown)) _ _))))))
    refine wpQuiet_nil ?_
    clear kg
    intro w5 hb5
    obtain ⟨hc5, hf5⟩ := bcell hb5
    have hw5 : Below w.heap.size w w5 := by
      refine Below.trans ?_ (hb5.mono ?_)
      · go_grown
      · first | omega | go_size
    go_wp2
    go_ret
    exact ⟨rfl, by go_grown⟩
  · go_enter Tryd.func5, Tryd.ntmps5
    go_wp2_with fail
    refine (alive3_any _ HK.out).mono ?_
    rintro e w0 ⟨rfl, hw0⟩
    have z0 := hw0.size
    go_wp2_with fail
    all_goals first
      | (exfalso; omega)
      | (go_ret; exact ⟨rfl, by go_grown⟩)
end Go.Proofs.YtegaeifmikfpcaaDoor

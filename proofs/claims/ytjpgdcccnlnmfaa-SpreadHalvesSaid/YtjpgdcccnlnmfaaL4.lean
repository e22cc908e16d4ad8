/-
  The given laws of chapter 4 as walks: each call hands back true, for every input. No condition but that the words are words of 64 bits.
-/
import Derived.Test.YtjpgdcccnlnmfaaW4c
set_option linter.unusedSimpArgs false
set_option linter.unusedVariables false
namespace Go.Proofs.Ytjpgdcccnlnmfaa
open Go.RowKit Go.Sort M

theorem w64z : W64 0 := by unfold W64; decide
set_option maxHeartbeats 400000 in
theorem alive4_any : Gives Try.prog 6 #[] (.bool true) := by
  intro w
  have h1 := count_any 0 0 0 0 w64z w64z
  rw [show cntN 0 0 0 0 = 1 by decide +kernel] at h1
  have h2 := keys_any 0 0 0 1 w64z w64z
  have hl : (keysV 0 0 0 1).length = 2 := by rw [keysV_len 0 0 0 1 w64z]; decide +kernel
  generalize keysV 0 0 0 1 = L at h2 hl
  have H1 : Gives Try.prog 10 #[.agg #[.int .u64 0, .int .u64 0, .int .i64 0], .int .i64 0] (.int .i64 1) := h1
  have H2 : GivesRow 9 #[.agg #[.int .u64 0, .int .u64 0, .int .i64 0], .int .i64 1] L := h2
  have HL := Lib.hid hl
  have H1 := Lib.hid H1
  have H2 := Lib.hid H2
  clear h1 h2 hl
  go_enter Try.func6, Try.ntmps6
  go_wp2_with fail
  refine (H1.out _).mono ?_
  rintro e0 w0 ⟨rfl, hb0⟩
  have hw0 : Below w.heap.size w w0 := by
    refine Below.trans ?_ (hb0.mono ?_)
    · go_grown
    · go_size
  go_wp2_with fail
  refine (H2.out _).mono ?_
  rintro e w1 ⟨p, c, rfl, hown, hb1⟩
  have hw1 : Below w.heap.size w w1 := hw0.trans (hb1.mono hw0.size)
  rw [HL.out]
  go_wp2
  go_ret
  exact ⟨rfl, hw1⟩

set_option maxHeartbeats 1000000 in
theorem spreadTells_walk (hi lo : Nat) (n m : Int) (ha : W64 hi) (hb : W64 lo) :
    Gives Try.prog 3 #[.agg #[.int .u64 hi, .int .u64 lo, .int .i64 n], .int .i64 m] (.bool true) := by
  intro w
  have h1 := count_any hi lo n m ha hb
  have h2 := keys_any hi lo n m ha hb
  have h3 := rkeys_any hi lo n m ha hb
  have hl := keysV_len hi lo n m hb
  have hle := cnt_le hi lo n m
  rw [← hl] at h1 hle
  generalize keysV hi lo n m = L at h1 h2 h3 hle
  have HA := Lib.hid alive4_any
  have H1 := Lib.hid h1
  have H2 := Lib.hid h2
  have H3 := Lib.hid h3
  clear h1 h2 h3 hl
  go_enter Try.func3, Try.ntmps3
  go_wp2_with fail
  refine (HA.out _).mono ?_
  rintro e0 w0 ⟨rfl, hb0⟩
  have hw0 : Below w.heap.size w w0 := by
    refine Below.trans ?_ (hb0.mono ?_)
    · go_grown
    · go_size
  have c0 : w0.cell? ⟨w.heap.size, 0, none⟩ = some (.int .u64 hi) := by
    rw [hb0.cell (by simp <;> omega)]
    first | assumption | (simp [go_sem]; done) | (simp [go_sem, *]; done)
  have c1 : w0.cell? ⟨w.heap.size, 1, none⟩ = some (.int .u64 lo) := by
    rw [hb0.cell (by simp <;> omega)]
    first | assumption | (simp [go_sem]; done) | (simp [go_sem, *]; done)
  have c2 : w0.cell? ⟨w.heap.size, 2, none⟩ = some (.int .i64 n) := by
    rw [hb0.cell (by simp <;> omega)]
    first | assumption | (simp [go_sem]; done) | (simp [go_sem, *]; done)
  have z0 : w.heap.size < w0.heap.size := by
    have hs := hb0.size
    try simp only [World.size_alloc, World.size_setCell] at hs
    omega
  go_wp2_with fail
  refine (H3.out _).mono ?_
  rintro e w1 ⟨p1, k1, rfl, hown1, hb1⟩
  obtain ⟨hc1, hf1⟩ := bcell hb1
  have c0 := (hc1 _ _ (by omega)).trans c0
  have c1 := (hc1 _ _ (by omega)).trans c1
  have c2 := (hc1 _ _ (by omega)).trans c2
  have hw0 := Below.trans hw0 (hb1.mono (by omega))
  have z0 := Nat.lt_of_lt_of_le z0 hb1.size
  clear hc1 hf1 hb1
  go_wp2_with fail
  refine (H2.out _).mono ?_
  rintro e w2 ⟨p2, k2, rfl, hown2, hb2⟩
  have hown1 := own_below hown1 hb2
  obtain ⟨hc2, hf2⟩ := bcell hb2
  have c0 := (hc2 _ _ (by omega)).trans c0
  have c1 := (hc2 _ _ (by omega)).trans c1
  have c2 := (hc2 _ _ (by omega)).trans c2
  have hw0 := Below.trans hw0 (hb2.mono (by omega))
  have z0 := Nat.lt_of_lt_of_le z0 hb2.size
  clear hc2 hf2 hb2
  go_wp2_with fail
  refine (same_any p2 p1 k2 k1 L L _ (by omega) (by omega) (Row.of_own hown2) (Row.of_own hown1)).mono ?_
  rintro e w3 ⟨rfl, hb3⟩
  obtain ⟨hc3, hf3⟩ := bcell hb3
  have c0 := (hc3 _ _ (by omega)).trans c0
  have c1 := (hc3 _ _ (by omega)).trans c1
  have c2 := (hc3 _ _ (by omega)).trans c2
  have hw0 := Below.trans hw0 (hb3.mono (by omega))
  have z0 := Nat.lt_of_lt_of_le z0 hb3.size
  clear hc3 hf3 hb3
  rw [show decide (L = L) = true by simp]
  go_wp2_with fail
  refine (H1.out _).mono ?_
  rintro e4 w4 ⟨rfl, hb4⟩
  have hw4 : Below w.heap.size w w4 := by
    refine Below.trans ?_ (hb4.mono ?_)
    · go_grown
    · go_size
  go_wp2
  go_ret
  exact ⟨rfl, hw4⟩
end Go.Proofs.Ytjpgdcccnlnmfaa

/-
  The given laws of chapter 6 as walks: PickTells and PickBelow hand back true, for every input. No condition but that the words are words of 64 bits, and that the numbers are whole numbers of 64 bits.
-/
import Derived.Test.YtbffapnohnfgdaaW6d
import Derived.Deep.RegionHeld3
set_option linter.unusedSimpArgs false
set_option linter.unusedVariables false
namespace Go.Proofs.Ytbffapnohnfgdaa
open Go.RowKit Go.Sort M

theorem w64l (x : Nat) (h : x < 18446744073709551616) : W64 x := W64.mk h
theorem places_one (h : Nat) : placesI h 2 1 = [0, 0] := by
  rw [placesI_some (by decide)]
  show [placeI h 1 0, placeI h 1 1] = [0, 0]
  have a0 := placeI_nonneg h 1 0
  have a1 := placeI_nonneg h 1 1
  have b0 := placeI_lt h 1 0 (by decide)
  have b1 := placeI_lt h 1 1 (by decide)
  rw [show placeI h 1 0 = 0 by omega, show placeI h 1 1 = 0 by omega]
set_option maxHeartbeats 1000000 in
theorem alive6_any : Gives Try.prog 6 #[] (.bool true) := by
  intro w
  have h1 := places_any 1 0 0 0 2 1 (w64l 1 (by decide)) (w64l 0 (by decide)) (w64l 0 (by decide)) (by decide)
  rw [places_one] at h1
  have h2 := red_any 0 9 (w64l 0 (by decide)) (by decide)
  rw [show redI 0 9 = 0 by decide +kernel] at h2
  have h3 := red_any 9223372036854775808 2 (w64l _ (by decide)) (by decide)
  rw [show redI 9223372036854775808 2 = 1 by decide +kernel] at h3
  have H1 : Hid (GivesInts 12 #[.int .u64 1, .agg #[.int .u64 0, .int .u64 0, .int .i64 0], .int .i64 2, .int .i64 1] [0, 0]) := Lib.hid h1
  have H2 : Hid (Gives Try.prog 9 #[.int .u64 0, .int .i64 9] (.int .i64 0)) := Lib.hid h2
  have H3 : Hid (Gives Try.prog 9 #[.int .u64 9223372036854775808, .int .i64 2] (.int .i64 1)) := Lib.hid h3
  clear h1 h2 h3
  go_enter Try.func6, Try.ntmps6
  go_wp2_with fail
  refine (H1.out _).mono ?_
  rintro e w1 ⟨p, c, rfl, hown, hb1⟩
  obtain ⟨g, o, rfl, hg, c0⟩ := (IRow.of_own hown).at (k := 0) (by decide)
  have hw1 : Below w.heap.size w w1 := hb1
  clear hb1 hown
  rw [Nat.add_zero] at c0
  change w1.cell? ⟨g, o, none⟩ = some (.int .i64 0) at c0
  go_wp2_with fail
  refine (H2.out _).mono ?_
  rintro e w2 ⟨rfl, hb2⟩
  have hs1 := hw1.size
  obtain ⟨hc2, hf2⟩ := bcell hb2
  have c0 := (hc2 _ _ (by omega)).trans c0
  have hw1 := Below.trans hw1 (hb2.mono (by omega))
  have hg := Nat.lt_of_lt_of_le hg hb2.size
  clear hc2 hf2 hb2
  have hs2 := hw1.size
  go_wp2_with fail
  refine (H3.out _).mono ?_
  rintro e w3 ⟨rfl, hb3⟩
  obtain ⟨hc3, hf3⟩ := bcell hb3
  have c0 := (hc3 _ _ (by omega)).trans c0
  have hw1 := Below.trans hw1 (hb3.mono (by omega))
  have hg := Nat.lt_of_lt_of_le hg hb3.size
  clear hc3 hf3 hb3
  go_wp2
  go_ret
  exact ⟨rfl, by go_grown⟩

set_option maxHeartbeats 1000000 in
theorem pickBelow_walk (x y : Nat) (m : Int) (hx : W64 x) (hy : W64 y) (hm : m ≤ 9223372036854775807) :
    Gives Try.prog 4 #[.int .u64 x, .int .u64 y, .int .i64 m] (.bool true) := by
  intro w
  have HA := Lib.hid alive6_any
  by_cases h0 : m < 1
  · skip
    go_enter Try.func4, Try.ntmps4
    go_wp2_with fail
    refine (HA.out _).mono ?_
    rintro e0 w0 ⟨rfl, hb0⟩
    have hw0 : Below w.heap.size w w0 := by
      refine Below.trans ?_ (hb0.mono ?_)
      · go_grown
      · go_size
    go_wp2
    go_ret
    exact ⟨rfl, by go_grown⟩
  · have h1 := red_any x m hx hm
    have h2 := red_any y m hy hm
    have h3 : Gives Try.prog 9 #[.int .u64 18446744073709551615, .int .i64 m] (.int .i64 (redI 18446744073709551615 m)) := red_any 18446744073709551615 m (w64l _ (by decide)) hm
    have a0 := redI_nonneg x m
    have a1 := redI_lt hx (show 1 ≤ m by omega)
    have b0 := redI_nonneg y m
    have b1 := redI_lt hy (show 1 ≤ m by omega)
    have e3 : redI 18446744073709551615 m = m - 1 := by
      obtain ⟨k, rfl⟩ := Int.eq_ofNat_of_zero_le (show 0 ≤ m by omega)
      have := redN_last k (by omega) (by omega)
      simp only [Nat.reducePow, Nat.reduceSub] at this
      rw [redI_nat _ k (by omega), this]
      omega
    have hmono : x ≤ y → redI x m ≤ redI y m := fun hxy => by
      obtain ⟨k, rfl⟩ := Int.eq_ofNat_of_zero_le (show 0 ≤ m by omega)
      rw [redI_nat _ k (by omega), redI_nat _ k (by omega)]
      have := redN_mono x y k hxy
      omega
    rw [e3] at h3
    clear e3
    generalize redI x m = a at *
    generalize redI y m = b at *
    have H1 := Lib.hid h1
    have H2 := Lib.hid h2
    have H3 := Lib.hid h3
    clear h1 h2 h3
    by_cases hxy : x ≤ y
    · have hab := hmono hxy
      clear hmono
      go_enter Try.func4, Try.ntmps4
      go_wp2_with fail
      refine (HA.out _).mono ?_
      rintro e0 w0 ⟨rfl, hb0⟩
      have hw0 : Below w.heap.size w w0 := by
        refine Below.trans ?_ (hb0.mono ?_)
        · go_grown
        · go_size
      go_wp2_with fail
      refine (H1.out _).mono ?_
      rintro e w1 ⟨rfl, hb1⟩
      have hw1 := hw0.trans (hb1.mono hw0.size)
      go_wp2_with fail
      refine (H2.out _).mono ?_
      rintro e w2 ⟨rfl, hb2⟩
      have hw2 := hw1.trans (hb2.mono hw1.size)
      go_wp2_with fail
      refine (H3.out _).mono ?_
      rintro e w3 ⟨rfl, hb3⟩
      have hw3 := hw2.trans (hb3.mono hw2.size)
      go_wp2
      go_ret
      exact ⟨ret_bool (by simp; try omega), hw3⟩
    · clear hmono
      go_enter Try.func4, Try.ntmps4
      go_wp2_with fail
      refine (HA.out _).mono ?_
      rintro e0 w0 ⟨rfl, hb0⟩
      have hw0 : Below w.heap.size w w0 := by
        refine Below.trans ?_ (hb0.mono ?_)
        · go_grown
        · go_size
      go_wp2_with fail
      refine (H1.out _).mono ?_
      rintro e w1 ⟨rfl, hb1⟩
      have hw1 := hw0.trans (hb1.mono hw0.size)
      go_wp2_with fail
      refine (H2.out _).mono ?_
      rintro e w2 ⟨rfl, hb2⟩
      have hw2 := hw1.trans (hb2.mono hw1.size)
      go_wp2_with fail
      refine (H3.out _).mono ?_
      rintro e w3 ⟨rfl, hb3⟩
      have hw3 := hw2.trans (hb3.mono hw2.size)
      go_wp2
      go_ret
      exact ⟨ret_bool (by simp; try omega), hw3⟩
end Go.Proofs.Ytbffapnohnfgdaa

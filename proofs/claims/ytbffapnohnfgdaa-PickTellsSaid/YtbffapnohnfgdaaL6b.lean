/-
  The given laws of chapter 6 as walks, continued: PickTells hands back true, for every input. No condition but that the words are words of 64 bits, and that the numbers are whole numbers of 64 bits.
-/
import Derived.Test.YtbffapnohnfgdaaL6
set_option linter.unusedSimpArgs false
set_option linter.unusedVariables false
namespace Go.Proofs.Ytbffapnohnfgdaa
open Go.RowKit Go.Sort M

theorem placesI_len (h : Nat) (k m : Int) : (placesI h k m).length ≤ 16 := by
  unfold placesI
  split
  · simp
  · rw [placesK_len]; omega
set_option maxHeartbeats 2000000 in
theorem pickTells_walk (x s h l : Nat) (m n k b : Int) (hx : W64 x) (hs : W64 s) (hh : W64 h) (hl : W64 l) (hm : m ≤ 9223372036854775807) (hb : b ≤ 9223372036854775807) :
    Gives Try.prog 3 #[.int .u64 x, .int .i64 m, .int .u64 s, .agg #[.int .u64 h, .int .u64 l, .int .i64 n], .int .i64 k, .int .i64 b] (.bool true) := by
  intro w
  have HA := Lib.hid alive6_any
  have HB1 := Lib.hid (buck_any s h l n b hs hh hl hb)
  have HB2 := Lib.hid (rbuck_any s h l n b hs hh hl hb)
  have HR1 := Lib.hid (red_any x m hx hm)
  have HR2 := Lib.hid (rred_any x m hx hm)
  have HP1 := Lib.hid (places_any s h l n k m hs hh hl hm)
  have HP2 := Lib.hid (rplaces_any s h l n k m hs hh hl hm)
  have hlen := placesI_len (hashN s h l (wordZ n)) k m
  generalize placesI (hashN s h l (wordZ n)) k m = L at HP1 HP2 hlen
  generalize redI x m = r at HR1 HR2
  generalize buckI (hashN s h l (wordZ n)) 1 b = c at HB1 HB2
  generalize buckI (hashN s h l (wordZ n)) 2 b = d at HB1 HB2
  go_enter Try.func3, Try.ntmps3
  go_wp2_with fail
  refine (HA.out _).mono ?_
  rintro e0 w0 ⟨rfl, hb0⟩
  have hw0 : Below w.heap.size w w0 := by
    refine Below.trans ?_ (hb0.mono ?_)
    · go_grown
    · go_size
  have c0 : w0.cell? ⟨w.heap.size, 0, none⟩ = some (.int .u64 h) := by
    rw [hb0.cell (by simp <;> omega)]
    first | assumption | (simp [go_sem]; done) | (simp [go_sem, *]; done)
  have c1 : w0.cell? ⟨w.heap.size, 1, none⟩ = some (.int .u64 l) := by
    rw [hb0.cell (by simp <;> omega)]
    first | assumption | (simp [go_sem]; done) | (simp [go_sem, *]; done)
  have c2 : w0.cell? ⟨w.heap.size, 2, none⟩ = some (.int .i64 n) := by
    rw [hb0.cell (by simp <;> omega)]
    first | assumption | (simp [go_sem]; done) | (simp [go_sem, *]; done)
  have z0 : w.heap.size < w0.heap.size := by
    have hs := hb0.size
    try simp only [World.size_alloc, World.size_setCell] at hs
    omega
  go_wp2_with fail
  refine (HB1.out _).mono ?_
  rintro e w1 ⟨rfl, hb1⟩
  obtain ⟨hc1, hf1⟩ := bcell hb1
  have c0 := (hc1 _ _ (by omega)).trans c0
  have c1 := (hc1 _ _ (by omega)).trans c1
  have c2 := (hc1 _ _ (by omega)).trans c2
  have hw0 := Below.trans hw0 (hb1.mono (by omega))
  have z0 := Nat.lt_of_lt_of_le z0 hb1.size
  clear hc1 hf1 hb1
  go_wp2_with fail
  refine (HB2.out _).mono ?_
  rintro e w2 ⟨rfl, hb2⟩
  obtain ⟨hc2, hf2⟩ := bcell hb2
  have c0 := (hc2 _ _ (by omega)).trans c0
  have c1 := (hc2 _ _ (by omega)).trans c1
  have c2 := (hc2 _ _ (by omega)).trans c2
  have hw0 := Below.trans hw0 (hb2.mono (by omega))
  have z0 := Nat.lt_of_lt_of_le z0 hb2.size
  clear hc2 hf2 hb2
  go_wp2_with fail
  go_region_held3 (fun w' => w'.cell? ⟨w.heap.size, 0, none⟩ = some (.int .u64 h) ∧ w'.cell? ⟨w.heap.size, 1, none⟩ = some (.int .u64 l) ∧ w'.cell? ⟨w.heap.size, 2, none⟩ = some (.int .i64 n))
    (first
      | go_keep
      | exact ⟨a0, a1, a2⟩
      | exact ⟨b0, b1, b2⟩
      | exact ⟨d0, d1, d2⟩
      | exact ⟨e0, e1, e2⟩
      | exact ⟨i0, i1, i2⟩)
    (first
      | (go_at_call 9; refine (HR1.out _).mono ?_; rintro e w3 ⟨rfl, hb3⟩; have a0 := (hb3.cell (p := ⟨w.heap.size, 0, none⟩) z0).trans c0; have a1 := (hb3.cell (p := ⟨w.heap.size, 1, none⟩) z0).trans c1; have a2 := (hb3.cell (p := ⟨w.heap.size, 2, none⟩) z0).trans c2; have z3 : w.heap.size < w3.heap.size := Nat.lt_of_lt_of_le z0 hb3.size)
      | (go_at_call 10; refine (HR2.out _).mono ?_; rintro e w4 ⟨rfl, hb4⟩; have b0 := (hb4.cell (p := ⟨w.heap.size, 0, none⟩) z3).trans a0; have b1 := (hb4.cell (p := ⟨w.heap.size, 1, none⟩) z3).trans a1; have b2 := (hb4.cell (p := ⟨w.heap.size, 2, none⟩) z3).trans a2; have z4 : w.heap.size < w4.heap.size := Nat.lt_of_lt_of_le z3 hb4.size)
      | (go_at_call 12; refine (HP1.out _).mono ?_; rintro e w5 ⟨p1, k1, rfl, hown1, hb5⟩; have d0 := (hb5.cell (p := ⟨w.heap.size, 0, none⟩) z4).trans b0; have d1 := (hb5.cell (p := ⟨w.heap.size, 1, none⟩) z4).trans b1; have d2 := (hb5.cell (p := ⟨w.heap.size, 2, none⟩) z4).trans b2; have z5 : w.heap.size < w5.heap.size := Nat.lt_of_lt_of_le z4 hb5.size)
      | (go_at_call 13; refine (HP2.out _).mono ?_; rintro e w6 ⟨p2, k2, rfl, hown2, hb6⟩; have e0 := (hb6.cell (p := ⟨w.heap.size, 0, none⟩) z5).trans d0; have e1 := (hb6.cell (p := ⟨w.heap.size, 1, none⟩) z5).trans d1; have e2 := (hb6.cell (p := ⟨w.heap.size, 2, none⟩) z5).trans d2; have z6 : w.heap.size < w6.heap.size := Nat.lt_of_lt_of_le z5 hb6.size)
      | (go_at_call 11; refine (samei_any p1 p2 k1 k2 L L _ (by omega) (by omega) (IRow.of_own (own_below hown1 hb6)) (IRow.of_own hown2)).mono ?_; rintro e w7 ⟨rfl, hb7⟩; have i0 := (hb7.cell (p := ⟨w.heap.size, 0, none⟩) z6).trans e0; have i1 := (hb7.cell (p := ⟨w.heap.size, 1, none⟩) z6).trans e1; have i2 := (hb7.cell (p := ⟨w.heap.size, 2, none⟩) z6).trans e2; rw [show decide (L = L) = true by simp]))
  go_wp2
  go_ret
  exact ⟨rfl, ((((((hw0.drew.trans (hb3.mono hw0.size)).trans (hb4.mono (by omega))).trans (hb5.mono (by omega))).trans (hb6.mono (by omega))).trans (hb7.mono (by omega))))⟩
end Go.Proofs.Ytbffapnohnfgdaa

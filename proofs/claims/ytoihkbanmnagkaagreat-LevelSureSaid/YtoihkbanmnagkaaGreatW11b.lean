/-
  What Get, Put and Take of a bucket hand back, and what the bucket is then. No condition but that the bucket's cells lie in memory.
-/
import Derived.Test.YtoihkbanmnagkaaGreatW11
set_option linter.unusedSimpArgs false
set_option linter.unusedVariables false
namespace Go.Proofs.YtoihkbanmnagkaaGreat
open Go.RowKit Go.Sort M

set_option maxHeartbeats 1000000 in
set_option maxRecDepth 100000 in
theorem get11_any (g o : Nat) (C : List Pl) (k : Ky) (w : World) (H : Bkt w g o C) :
    Calls Tryz.prog 65 #[.pointer (some ⟨g, o, none⟩), kyV k] w fun e w' => e = .returned (.tuple #[.int .i64 ((getC C k).getD 0), .bool (getC C k).isSome]) ∧ Below w.heap.size w w' := by
  have HF := Lib.hid (fun w H => find_any g o C k w H)
  have HH := Lib.hid H
  have h4 := H.four
  rcases idx_cases (hasK k) C with ⟨i, hi, h1, h2, h3⟩ | ⟨h1, h2⟩
  · rw [getC_hit hi h1 h3]
    rw [h2] at HF
    clear h1 h2 h3 H
    have hi4 : i < 4 := by omega
    unfold kyV at *
    go_enter Tryz.func65, Tryz.ntmps65
    go_wp2_with fail
    refine (HF.out _ (HH.out.below (by go_grown))).mono ?_
    rintro e w1 ⟨rfl, hb1⟩
    have hw1 : Below w.heap.size w w1 := Below.trans (by go_grown) (hb1.mono (by go_size))
    obtain ⟨c0, c1, c2, c3, c4⟩ := (HH.out.below hw1).at i hi
    have hz1 := hw1.size
    have hl := HH.out.lt
    clear hb1
    go_wp2
    go_ret2
    exact ⟨rfl, by go_grown⟩
  · rw [getC_miss h1]
    rw [h2] at HF
    clear h1 h2 H
    unfold kyV at *
    go_enter Tryz.func65, Tryz.ntmps65
    go_wp2_with fail
    refine (HF.out _ (HH.out.below (by go_grown))).mono ?_
    rintro e w1 ⟨rfl, hb1⟩
    have hw1 : Below w.heap.size w w1 := Below.trans (by go_grown) (hb1.mono (by go_size))
    clear hb1
    go_wp2
    go_ret2
    exact ⟨rfl, by go_grown⟩
set_option maxHeartbeats 1000000 in
set_option maxRecDepth 100000 in
theorem take11_any (g o : Nat) (C : List Pl) (k : Ky) (w : World) (H : Bkt w g o C) :
    Calls Tryz.prog 71 #[.pointer (some ⟨g, o, none⟩), kyV k] w fun e w' => e = .returned (.bool (takeC C k).isSome) ∧ Bkt w' g o ((takeC C k).getD C) ∧ Turn w w' g o 20 := by
  have HF := Lib.hid (fun w H => find_any g o C k w H)
  have HH := Lib.hid H
  have h4 := H.four
  rcases idx_cases (hasK k) C with ⟨i, hi, h1, h2, h3⟩ | ⟨h1, h2⟩
  · rw [show takeC C k = some (C.set i none) by unfold takeC; rw [h1]]
    rw [h2] at HF
    clear h1 h2 h3 H
    have hi4 : i < 4 := by omega
    unfold kyV at *
    go_enter Tryz.func71, Tryz.ntmps71
    go_wp2_with fail
    refine (HF.out _ (HH.out.below (by go_grown))).mono ?_
    rintro e w1 ⟨rfl, hb1⟩
    have hw1 : Below w.heap.size w w1 := Below.trans (by go_grown) (hb1.mono (by go_size))
    have H1 := HH.out.below hw1
    obtain ⟨c0, c1, c2, c3, c4⟩ := H1.at i hi
    have f0 := H1.free (i * 5) (by omega)
    have f1 := H1.free (i * 5 + 1) (by omega)
    have f2 := H1.free (i * 5 + 2) (by omega)
    have f3 := H1.free (i * 5 + 3) (by omega)
    have f4 := H1.free (i * 5 + 4) (by omega)
    have hz1 := hw1.size
    have hl := HH.out.lt
    simp only [← Nat.add_assoc] at f1 f2 f3 f4
    clear hb1 H1
    go_wp2
    go_ret
    have hP := (HH.out.below hw1).put i hi none
    exact ⟨rfl, hP.1, (Turn.of_below hl hw1).trans hP.2⟩
  · rw [show takeC C k = none by unfold takeC; rw [h1]]
    rw [h2] at HF
    clear h1 h2 H
    unfold kyV at *
    go_enter Tryz.func71, Tryz.ntmps71
    go_wp2_with fail
    refine (HF.out _ (HH.out.below (by go_grown))).mono ?_
    rintro e w1 ⟨rfl, hb1⟩
    have hw1 : Below w.heap.size w w1 := Below.trans (by go_grown) (hb1.mono (by go_size))
    have hl := HH.out.lt
    clear hb1
    go_wp2
    go_ret
    exact ⟨rfl, HH.out.below hw1, Turn.of_below hl hw1⟩
set_option maxHeartbeats 1000000 in
set_option maxRecDepth 100000 in
theorem put11_any (g o : Nat) (C : List Pl) (k : Ky) (v : Int) (w : World) (H : Bkt w g o C) :
    Calls Tryz.prog 77 #[.pointer (some ⟨g, o, none⟩), kyV k, .int .i64 v] w fun e w' => e = .returned (.bool (putC C k v).isSome) ∧ Bkt w' g o ((putC C k v).getD C) ∧ Turn w w' g o 20 := by
  have HF := Lib.hid (fun w H => find_any g o C k w H)
  have HE := Lib.hid (fun w H => empty_any g o C w H)
  have HH := Lib.hid H
  have h4 := H.four
  rcases idx_cases (hasK k) C with ⟨i, hi, h1, h2, h3⟩ | ⟨h1, h2⟩
  · rw [show putC C k v = some (C.set i (some ⟨k, v⟩)) by unfold putC; rw [h1]]
    rw [h2] at HF
    clear h1 h2 h3 H HE
    have hi4 : i < 4 := by omega
    unfold kyV at *
    go_enter Tryz.func77, Tryz.ntmps77
    go_wp2_with fail
    refine (HF.out _ (HH.out.below (by go_grown))).mono ?_
    rintro e w1 ⟨rfl, hb1⟩
    have hw1 : Below w.heap.size w w1 := Below.trans (by go_grown) (hb1.mono (by go_size))
    have b0 : w1.cell? ⟨w.heap.size, 0, none⟩ = some (.int .u64 (k.h : Int)) := by
      rw [hb1.cell (by simp <;> omega)]
      first | assumption | (simp [go_sem]; done) | (simp [go_sem, *]; done)
    have b1 : w1.cell? ⟨w.heap.size, 1, none⟩ = some (.int .u64 (k.l : Int)) := by
      rw [hb1.cell (by simp <;> omega)]
      first | assumption | (simp [go_sem]; done) | (simp [go_sem, *]; done)
    have b2 : w1.cell? ⟨w.heap.size, 2, none⟩ = some (.int .i64 k.n) := by
      rw [hb1.cell (by simp <;> omega)]
      first | assumption | (simp [go_sem]; done) | (simp [go_sem, *]; done)
    have H1 := HH.out.below hw1
    obtain ⟨c0, c1, c2, c3, c4⟩ := H1.at i hi
    have f0 := H1.free (i * 5) (by omega)
    have f1 := H1.free (i * 5 + 1) (by omega)
    have f2 := H1.free (i * 5 + 2) (by omega)
    have f3 := H1.free (i * 5 + 3) (by omega)
    have f4 := H1.free (i * 5 + 4) (by omega)
    have hz1 := hw1.size
    have hl := HH.out.lt
    simp only [← Nat.add_assoc] at f1 f2 f3 f4
    clear hb1 H1
    go_wp2_with fail
    go_region
    go_wp2
    go_ret
    have hP := HH.out.put_drew hw1 i hi (some ⟨k, v⟩)
    exact ⟨rfl, hP.1, hP.2⟩
  · rcases idx_cases Option.isNone C with ⟨i, hi, h5, h6, h7⟩ | ⟨h5, h6⟩
    · rw [show putC C k v = some (C.set i (some ⟨k, v⟩)) by unfold putC; rw [h1]; simp only; rw [h5]]
      rw [h2] at HF
      rw [h6] at HE
      clear h1 h2 h5 h6 h7 H
      have hi4 : i < 4 := by omega
      unfold kyV at *
      go_enter Tryz.func77, Tryz.ntmps77
      go_wp2_with fail
      refine (HF.out _ (HH.out.below (by go_grown))).mono ?_
      rintro e w2 ⟨rfl, hb2⟩
      have hw2 : Below w.heap.size w w2 := Below.trans (by go_grown) (hb2.mono (by go_size))
      have d0 : w2.cell? ⟨w.heap.size, 0, none⟩ = some (.int .u64 (k.h : Int)) := by
        rw [hb2.cell (by simp <;> omega)]
        first | assumption | (simp [go_sem]; done) | (simp [go_sem, *]; done)
      have d1 : w2.cell? ⟨w.heap.size, 1, none⟩ = some (.int .u64 (k.l : Int)) := by
        rw [hb2.cell (by simp <;> omega)]
        first | assumption | (simp [go_sem]; done) | (simp [go_sem, *]; done)
      have d2 : w2.cell? ⟨w.heap.size, 2, none⟩ = some (.int .i64 k.n) := by
        rw [hb2.cell (by simp <;> omega)]
        first | assumption | (simp [go_sem]; done) | (simp [go_sem, *]; done)
      have hz2 : w.heap.size < w2.heap.size := by
        have hs := hb2.size
        try simp only [World.size_alloc, World.size_setCell] at hs
        omega
      clear hb2
      go_wp2_with fail
      refine (HE.out _ (HH.out.below hw2)).mono ?_
      rintro e w1 ⟨rfl, hb1⟩
      have hw1 := hw2.trans (hb1.mono hw2.size)
      have b0 := (hb1.cell (p := ⟨w.heap.size, 0, none⟩) hz2).trans d0
      have b1 := (hb1.cell (p := ⟨w.heap.size, 1, none⟩) hz2).trans d1
      have b2 := (hb1.cell (p := ⟨w.heap.size, 2, none⟩) hz2).trans d2
      have hz3 := Nat.lt_of_lt_of_le hz2 hb1.size
      clear d0 d1 d2 hw2 hz2 hb1
      have H1 := HH.out.below hw1
      obtain ⟨c0, c1, c2, c3, c4⟩ := H1.at i hi
      have f0 := H1.free (i * 5) (by omega)
      have f1 := H1.free (i * 5 + 1) (by omega)
      have f2 := H1.free (i * 5 + 2) (by omega)
      have f3 := H1.free (i * 5 + 3) (by omega)
      have f4 := H1.free (i * 5 + 4) (by omega)
      have hz1 := hw1.size
      have hl := HH.out.lt
      simp only [← Nat.add_assoc] at f1 f2 f3 f4
      clear H1
      go_wp2_with fail
      go_region
      go_wp2
      go_ret
      have hP := HH.out.put_drew hw1 i hi (some ⟨k, v⟩)
      exact ⟨rfl, hP.1, hP.2⟩
    · rw [show putC C k v = none by unfold putC; rw [h1]; simp only; rw [h5]]
      rw [h2] at HF
      rw [h6] at HE
      clear h1 h2 h5 h6 H
      unfold kyV at *
      go_enter Tryz.func77, Tryz.ntmps77
      go_wp2_with fail
      refine (HF.out _ (HH.out.below (by go_grown))).mono ?_
      rintro e w2 ⟨rfl, hb2⟩
      have hw2 : Below w.heap.size w w2 := Below.trans (by go_grown) (hb2.mono (by go_size))
      clear hb2
      go_wp2_with fail
      refine (HE.out _ (HH.out.below hw2)).mono ?_
      rintro e w1 ⟨rfl, hb1⟩
      have hw1 := hw2.trans (hb1.mono hw2.size)
      have hl := HH.out.lt
      clear hb1
      go_wp2
      go_ret
      exact ⟨rfl, HH.out.below hw1, Turn.of_below hl hw1⟩
end Go.Proofs.YtoihkbanmnagkaaGreat

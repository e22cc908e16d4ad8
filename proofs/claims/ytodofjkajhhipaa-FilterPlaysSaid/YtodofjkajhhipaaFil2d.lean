/-
  What New of a counting filter makes. No condition but those that stand in each.
-/
import Derived.Test.YtodofjkajhhipaaFil
set_option linter.unusedSimpArgs false
set_option linter.unusedVariables false
namespace Go.Proofs.Ytodofjkajhhipaa
open Go.RowKit Go.Sort M

set_option maxHeartbeats 2000000 in
theorem fnew_bad (s : Nat) (k m : Int) (h : ¬ (1 ≤ k ∧ k ≤ 16 ∧ 1 ≤ m ∧ m ≤ 65536)) (w : World) :
    Calls Try.prog 8 #[.int .u64 s, .int .i64 k, .int .i64 m] w fun e w' => e = .returned (.tuple #[.pointer none, .int .i64 1]) ∧ Below w.heap.size w w' := by
  by_cases k0 : k < 1
  · go_enter Try.func8, Try.ntmps8
    go_wp2
    go_ret2
    exact ⟨rfl, by go_grown⟩
  · by_cases k1 : 16 < k
    · go_enter Try.func8, Try.ntmps8
      go_wp2
      go_ret2
      exact ⟨rfl, by go_grown⟩
    · by_cases m0 : m < 1
      · go_enter Try.func8, Try.ntmps8
        go_wp2
        go_ret2
        exact ⟨rfl, by go_grown⟩
      · have m1 : 65536 < m := by omega
        clear h
        go_enter Try.func8, Try.ntmps8
        go_wp2
        go_ret2
        exact ⟨rfl, by go_grown⟩
set_option maxHeartbeats 2000000 in
theorem fnew_any (s : Nat) (k m : Int) (ws : W64 s) (k0 : 1 ≤ k) (k1 : k ≤ 16) (m0 : 1 ≤ m) (m1 : m ≤ 65536) (w : World) :
    Calls Try.prog 8 #[.int .u64 s, .int .i64 k, .int .i64 m] w fun e w' => ∃ f, e = .returned (.tuple #[.pointer (some ⟨f, 0, none⟩), .int .i64 0]) ∧ Fil w' w.heap.size w'.heap.size f s k (List.replicate m.toNat 0) ∧ Below w.heap.size w w' := by
  have hm : min m.toNat 65536 = m.toNat := by omega
  have HM := Lib.hid hm
  clear hm
  go_enter Try.func8, Try.ntmps8
  go_wp2_with fail
  refine (new_any m (by omega) (by omega) _).mono ?_
  rintro e w1 ⟨v, rfl, ⟨g1, h1, rfl, N1⟩, hb1⟩
  have hw1 : Below w.heap.size w w1 := Below.trans (by go_grown) (hb1.mono (by go_size))
  have hz1 := hw1.size
  have N1' := N1.le (B' := w.heap.size) (by go_size)
  rw [HM.out] at N1'
  clear N1 hb1
  go_wp2_with fail
  refine (bnew_any m (by omega) (by omega) _).mono ?_
  rintro e w2 ⟨v, rfl, ⟨g2, h2, rfl, N2⟩, hb2⟩
  have hw2 : Below w.heap.size w w2 := hw1.trans (hb2.mono hz1)
  have hz2 := hb2.size
  rw [HM.out] at N2
  have HN1 := Lib.hid N1'
  have HN2 := Lib.hid N2
  have HB2 := Lib.hid hb2
  clear N1' N2 hb2
  go_wp2
  go_ret2
  have a1 := HN1.out.lt
  have a2 := HN1.out.low2
  have b1 := HN2.out.low
  have b2 := HN2.out.lt
  have b3 := HN2.out.low2
  refine ⟨w2.heap.size, rfl, ⟨g1, h1, g2, h2, ?_⟩, by go_grown⟩
  refine ⟨by simp [go_sem], by simp [go_sem], by simp [go_sem], by simp [go_sem], (HN1.out.below HB2.out).kept (World.grownBy_alloc _ _ none) (by simp) (by simp), ?_, by simp [onsC], by simp, ⟨by omega, by simp⟩, ⟨by simp; omega, by simp; omega⟩, ⟨by simp; omega, by simp; omega⟩, ⟨by omega, by omega, by omega⟩, ⟨by omega, by omega, by omega⟩, ws⟩
  rw [onsC_zero]
  exact (HN2.out.le hz1).kept (World.grownBy_alloc _ _ none) (by simp) (by simp)
end Go.Proofs.Ytodofjkajhhipaa

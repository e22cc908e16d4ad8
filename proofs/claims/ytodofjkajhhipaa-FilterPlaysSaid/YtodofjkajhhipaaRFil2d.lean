/-
  What the reference's NewFilter makes. No condition but those that stand in each.
-/
import Derived.Test.YtodofjkajhhipaaRFil
set_option linter.unusedSimpArgs false
set_option linter.unusedVariables false
namespace Go.Proofs.Ytodofjkajhhipaa
open Go.RowKit Go.Sort M

set_option maxHeartbeats 2000000 in
theorem rnew_bad (s : Nat) (k m : Int) (h : ¬ (1 ≤ k ∧ k ≤ 16 ∧ 1 ≤ m ∧ m ≤ 65536)) (w : World) :
    Calls Try.prog 9 #[.int .u64 s, .int .i64 k, .int .i64 m] w fun e w' => e = .returned (.tuple #[.pointer none, .int .i64 1]) ∧ Below w.heap.size w w' := by
  by_cases k0 : k < 1
  · go_enter Try.func9, Try.ntmps9
    go_wp2
    go_ret2
    exact ⟨rfl, by go_grown⟩
  · by_cases k1 : 16 < k
    · go_enter Try.func9, Try.ntmps9
      go_wp2
      go_ret2
      exact ⟨rfl, by go_grown⟩
    · by_cases m0 : m < 1
      · go_enter Try.func9, Try.ntmps9
        go_wp2
        go_ret2
        exact ⟨rfl, by go_grown⟩
      · have m1 : 65536 < m := by omega
        clear h
        go_enter Try.func9, Try.ntmps9
        go_wp2
        go_ret2
        exact ⟨rfl, by go_grown⟩
set_option maxHeartbeats 2000000 in
theorem rnew_any (s : Nat) (k : Int) (m : Nat) (ws : W64 s) (k0 : 1 ≤ k) (k1 : k ≤ 16) (m0 : 1 ≤ m) (m1 : m ≤ 65536) (w : World) :
    Calls Try.prog 9 #[.int .u64 s, .int .i64 k, .int .i64 m] w fun e w' => ∃ f g, e = .returned (.tuple #[.pointer (some ⟨f, 0, none⟩), .int .i64 0]) ∧ RFil w' w.heap.size w'.heap.size f g s k (List.replicate m 0) ∧ Below w.heap.size w w' := by
  have hmk := make_row (P := Try.prog) (t := 42) Try.underlying42 infoI m (by omega) (by unfold maxLen; omega)
  go_enter Try.func9, Try.ntmps9
  go_wp2
  go_ret2
  refine ⟨w.heap.size + 1, w.heap.size, by simp, ?_, by go_grown⟩
  refine ⟨by simp [go_sem], by simp [go_sem], by simp [go_sem], ?_, fun c hc => by rw [List.eq_of_mem_replicate hc]; omega, by simpa using m1, by simp, ⟨by omega, by simp⟩, by simp; omega, by omega, ws⟩
  rw [List.length_replicate, iC_zero]
  refine World.ownsRow.alloc ?_ _
  have := World.ownsRow_lit (base := w.heap.size) (e := 3) (size := 1) w (madeCells #[.int .i64 0] m) m (Nat.le_refl _) (by unfold maxLen; omega) (by simp [madeCells])
  exact this
end Go.Proofs.Ytodofjkajhhipaa

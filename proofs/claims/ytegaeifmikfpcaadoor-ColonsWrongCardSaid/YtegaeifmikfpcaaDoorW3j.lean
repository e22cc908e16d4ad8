/-
  What the program's split of an address into eight numbers, and its look for the longest row of numbers 0, hand back. No condition but those that stand in each.
-/
import Derived.Test.YtegaeifmikfpcaaDoorW3i
set_option linter.unusedSimpArgs false
set_option linter.unusedVariables false
namespace Go.Proofs.YtegaeifmikfpcaaDoor
open Go.RowKit Go.Sort M

theorem wr0 (x : Nat) : IntKind.u16.wrap ((x : Int) / 281474976710656) = ((word x 0 : Nat) : Int) := by rw [IntKind.wrap_u16]; unfold word; omega
theorem wr1 (x : Nat) : IntKind.u16.wrap ((x : Int) / 4294967296) = ((word x 1 : Nat) : Int) := by rw [IntKind.wrap_u16]; unfold word; omega
theorem wr2 (x : Nat) : IntKind.u16.wrap ((x : Int) / 65536) = ((word x 2 : Nat) : Int) := by rw [IntKind.wrap_u16]; unfold word; omega
theorem wr3 (x : Nat) : IntKind.u16.wrap (x : Int) = ((word x 3 : Nat) : Int) := by rw [IntKind.wrap_u16]; unfold word; omega
def selW (k j x : Nat) : Int := if j < k then (x : Int) else 0
set_option maxHeartbeats 2000000 in
set_option maxRecDepth 100000 in
theorem split_any (hi lo : Nat) (ha : W64 hi) (hb : W64 lo) :
    Gives Tryd.prog 22 #[.agg #[.int .u64 hi, .int .u64 lo]] (.agg #[.int .u16 (word hi 0 : Nat), .int .u16 (word hi 1 : Nat), .int .u16 (word hi 2 : Nat), .int .u16 (word hi 3 : Nat), .int .u16 (word lo 0 : Nat), .int .u16 (word lo 1 : Nat), .int .u16 (word lo 2 : Nat), .int .u16 (word lo 3 : Nat)]) := by
  intro w
  go_enter Tryd.func22, Tryd.ntmps22
  go_wp2
  go_loopw [6] (fun i wr => ∃ k : Nat, k ≤ 4 ∧ i = .int .i64 k ∧ Below w.heap.size w wr ∧ w.heap.size + 2 < wr.heap.size ∧
      wr.cell? ⟨w.heap.size, 0, none⟩ = some (.int .u64 hi) ∧ wr.cell? ⟨w.heap.size, 1, none⟩ = some (.int .u64 lo) ∧
      wr.cell? ⟨w.heap.size + 1, 0, none⟩ = some (.int .u16 0) ∧ wr.cell? ⟨w.heap.size + 1, 1, none⟩ = some (.int .u16 0) ∧ wr.cell? ⟨w.heap.size + 1, 2, none⟩ = some (.int .u16 0) ∧ wr.cell? ⟨w.heap.size + 1, 3, none⟩ = some (.int .u16 0) ∧
      wr.cell? ⟨w.heap.size + 1, 4, none⟩ = some (.int .u16 0) ∧ wr.cell? ⟨w.heap.size + 1, 5, none⟩ = some (.int .u16 0) ∧ wr.cell? ⟨w.heap.size + 1, 6, none⟩ = some (.int .u16 0) ∧ wr.cell? ⟨w.heap.size + 1, 7, none⟩ = some (.int .u16 0) ∧
      wr.cell? ⟨w.heap.size + 2, 0, none⟩ = some (.int .u16 (selW k 0 (word hi 0))) ∧ wr.cell? ⟨w.heap.size + 2, 1, none⟩ = some (.int .u16 (selW k 1 (word hi 1))) ∧ wr.cell? ⟨w.heap.size + 2, 2, none⟩ = some (.int .u16 (selW k 2 (word hi 2))) ∧ wr.cell? ⟨w.heap.size + 2, 3, none⟩ = some (.int .u16 (selW k 3 (word hi 3))) ∧
      wr.cell? ⟨w.heap.size + 2, 4, none⟩ = some (.int .u16 (selW k 0 (word lo 0))) ∧ wr.cell? ⟨w.heap.size + 2, 5, none⟩ = some (.int .u16 (selW k 1 (word lo 1))) ∧ wr.cell? ⟨w.heap.size + 2, 6, none⟩ = some (.int .u16 (selW k 2 (word lo 2))) ∧ wr.cell? ⟨w.heap.size + 2, 7, none⟩ = some (.int .u16 (selW k 3 (word lo 3))) ∧
      wr.frozen? ⟨w.heap.size + 1, 0, none⟩ = false ∧ wr.frozen? ⟨w.heap.size + 1, 1, none⟩ = false ∧ wr.frozen? ⟨w.heap.size + 1, 2, none⟩ = false ∧ wr.frozen? ⟨w.heap.size + 1, 3, none⟩ = false ∧ wr.frozen? ⟨w.heap.size + 1, 4, none⟩ = false ∧ wr.frozen? ⟨w.heap.size + 1, 5, none⟩ = false ∧ wr.frozen? ⟨w.heap.size + 1, 6, none⟩ = false ∧ wr.frozen? ⟨w.heap.size + 1, 7, none⟩ = false ∧
      wr.frozen? ⟨w.heap.size + 2, 0, none⟩ = false ∧ wr.frozen? ⟨w.heap.size + 2, 1, none⟩ = false ∧ wr.frozen? ⟨w.heap.size + 2, 2, none⟩ = false ∧ wr.frozen? ⟨w.heap.size + 2, 3, none⟩ = false ∧ wr.frozen? ⟨w.heap.size + 2, 4, none⟩ = false ∧ wr.frozen? ⟨w.heap.size + 2, 5, none⟩ = false ∧ wr.frozen? ⟨w.heap.size + 2, 6, none⟩ = false ∧ wr.frozen? ⟨w.heap.size + 2, 7, none⟩ = false) (fun i _ => 4 - (intOf i).toNat)
  case atStart =>
    refine ⟨0, by omega, rfl, by go_grown, by go_size, ?_⟩
    simp [go_sem, selW]
  case round =>
    obtain ⟨k, hk, rfl, hw0, hz, c0, c1, d0, d1, d2, d3, d4, d5, d6, d7, a0, a1, a2, a3, a4, a5, a6, a7, f0, f1, f2, f3, f4, f5, f6, f7, e0, e1, e2, e3, e4, e5, e6, e7⟩ := hrel
    by_cases hlt : k < 4
    · obtain rfl | rfl | rfl | rfl : k = 0 ∨ k = 1 ∨ k = 2 ∨ k = 3 := by omega
      ·
        go_wp2
        rw [wr0 hi, wr0 lo]
        go_roundw
        case rel =>
          refine ⟨0 + 1, by omega, by go_num, by go_grown, by go_size, ?_⟩
          simp [go_sem, selW, c0, c1, a0, a1, a2, a3, a4, a5, a6, a7, d0, d1, d2, d3, d4, d5, d6, d7, e0, e1, e2, e3, e4, e5, e6, e7, f0, f1, f2, f3, f4, f5, f6, f7, hz]
        case measure => simp [intOf]
      ·
        go_wp2
        rw [wr1 hi, wr1 lo]
        go_roundw
        case rel =>
          refine ⟨1 + 1, by omega, by go_num, by go_grown, by go_size, ?_⟩
          simp [go_sem, selW, c0, c1, a0, a1, a2, a3, a4, a5, a6, a7, d0, d1, d2, d3, d4, d5, d6, d7, e0, e1, e2, e3, e4, e5, e6, e7, f0, f1, f2, f3, f4, f5, f6, f7, hz]
        case measure => simp [intOf]
      ·
        go_wp2
        rw [wr2 hi, wr2 lo]
        go_roundw
        case rel =>
          refine ⟨2 + 1, by omega, by go_num, by go_grown, by go_size, ?_⟩
          simp [go_sem, selW, c0, c1, a0, a1, a2, a3, a4, a5, a6, a7, d0, d1, d2, d3, d4, d5, d6, d7, e0, e1, e2, e3, e4, e5, e6, e7, f0, f1, f2, f3, f4, f5, f6, f7, hz]
        case measure => simp [intOf]
      ·
        go_wp2
        rw [wr3 hi, wr3 lo]
        go_roundw
        case rel =>
          refine ⟨3 + 1, by omega, by go_num, by go_grown, by go_size, ?_⟩
          simp [go_sem, selW, c0, c1, a0, a1, a2, a3, a4, a5, a6, a7, d0, d1, d2, d3, d4, d5, d6, d7, e0, e1, e2, e3, e4, e5, e6, e7, f0, f1, f2, f3, f4, f5, f6, f7, hz]
        case measure => simp [intOf]
    · obtain rfl : k = 4 := by omega
      simp only [selW, Nat.reduceLT, if_true] at a0 a1 a2 a3 a4 a5 a6 a7
      go_wp2
      refine bodyPost_ret (by simp [results, Tryd.results22, go_sem, d0, d1, d2, d3, d4, d5, d6, d7, f0, f1, f2, f3, f4, f5, f6, f7, a0, a1, a2, a3, a4, a5, a6, a7, hz]; try rfl) rfl ?_
      exact ⟨rfl, by go_grown⟩
end Go.Proofs.YtegaeifmikfpcaaDoor

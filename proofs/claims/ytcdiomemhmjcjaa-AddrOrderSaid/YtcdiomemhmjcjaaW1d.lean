/-
  How many bits two addresses have in common, by the reference's count one by one; and the given laws' own example. No condition but that the words are words of 64 bits.
-/
import Derived.Test.YtcdiomemhmjcjaaW1c
namespace Go.Proofs.Ytcdiomemhmjcjaa
open Go.RowKit Go.Sort M

set_option maxHeartbeats 400000 in
theorem rcommon_any (h1 l1 h2 l2 : Nat) (ha : W64 h1) (hb : W64 l1) (hc : W64 h2) (hd : W64 l2) :
    Gives Try.prog 17 #[.agg #[.int .u64 h1, .int .u64 l1], .agg #[.int .u64 h2, .int .u64 l2]] (.int .i64 (commonN h1 l1 h2 l2)) := by
  intro w
  go_enter Try.func17, Try.ntmps17
  go_wp2_with fail
  go_loopw [5] (fun i wr => ∃ k : Nat, k ≤ 128 ∧ i = .int .i64 k ∧ Hid (∀ j, j < k → bitN h1 l1 j = bitN h2 l2 j) ∧ Below w.heap.size w wr ∧ w.heap.size + 2 ≤ wr.heap.size ∧ wr.cell? ⟨w.heap.size, 0, none⟩ = some (.int .u64 h1) ∧ wr.cell? ⟨w.heap.size, 1, none⟩ = some (.int .u64 l1) ∧
      wr.cell? ⟨w.heap.size + 1, 0, none⟩ = some (.int .u64 h2) ∧ wr.cell? ⟨w.heap.size + 1, 1, none⟩ = some (.int .u64 l2))
    (fun i _ => 128 - (intOf i).toNat)
  case atStart =>
    refine ⟨0, Nat.zero_le _, rfl, fun j hj => absurd hj (Nat.not_lt_zero _), by go_grown, by go_size, ?_⟩
    simp [go_sem]
  case round =>
    obtain ⟨k, hk, rfl, same, hw0, hz, c0, c1, c2, c3⟩ := hrel
    have z0 : w.heap.size < wr.heap.size := by omega
    have z1 : w.heap.size + 1 < wr.heap.size := by omega
    by_cases hlt : k < 128
    · have d0 : decide ((k : Int) < 128) = true := by simp; omega
      have hA : Gives Try.prog 9 #[.agg #[.int .u64 h1, .int .u64 l1], .int .i64 (k : Int)] (.int .i64 (bitI h1 l1 k)) := rbit_any h1 l1 k ha hb
      have hB : Gives Try.prog 9 #[.agg #[.int .u64 h2, .int .u64 l2], .int .i64 (k : Int)] (.int .i64 (bitI h2 l2 k)) := rbit_any h2 l2 k hc hd
      cases b1 : bitN h1 l1 k <;> cases b2 : bitN h2 l2 k
      all_goals
        rw [bitI_of _ _ _ _ b1] at hA
        rw [bitI_of _ _ _ _ b2] at hB
        simp only [cond_true, cond_false] at hA hB
        have HA := Lib.hid hA
        have HB := Lib.hid hB
        have B1 := Lib.hid b1
        have B2 := Lib.hid b2
        clear hA hB b1 b2
        go_wp2_with fail
        have kg := cell_grow
        refine region_whole (by kernel_rfl) (by kernel_rfl) ?_
        repeat (any_goals (first | go_big_quiet_step ((go_at_call 9; (first | (with_reducible exact Gives.at HA.out _ _ _) | (with_reducible exact Gives.at HB.out _ _ _)))) | quiet_step ((go_at_call 9; (first | (with_reducible exact Gives.at HA.out _ _ _) | (with_reducible exact Gives.at HB.out _ _ _))))))
        refine wpQuiet_nil ?_
        clear kg
        intro w1 hb1
        obtain ⟨hc1, hf1⟩ := bcell hb1
        have hw1 : Below w.heap.size w w1 := by
          refine Below.trans ?_ (hb1.mono ?_)
          · go_grown
          · go_size
        obtain ⟨hc1, hf1⟩ := bcell hb1
        have c0 := (hc1 _ _ (by omega)).trans c0
        have c1 := (hc1 _ _ (by omega)).trans c1
        have c2 := (hc1 _ _ (by omega)).trans c2
        have c3 := (hc1 _ _ (by omega)).trans c3
        have hw0 := Below.trans hw0 (hb1.mono (by omega))
        have hz := Nat.le_trans hz hb1.size
        clear hc1 hf1 hb1
        go_wp2
      all_goals first
        | (go_ret
           exact ⟨ret_num (by rw [commonN_unique h1 l1 h2 l2 k ha hb hc hd hk same.out (fun _ => by rw [B1.out, B2.out]; decide)]), by go_grown⟩)
        | (go_roundw
           case rel =>
             refine ⟨k + 1, by omega, by go_num, fun j hj => ?_, hw0, hz, c0, c1, c2, c3⟩
             by_cases hjk : j = k
             · rw [hjk, B1.out, B2.out]
             · exact same.out j (by omega)
           case measure => simp [intOf]; omega)
    · have d0 : decide ((k : Int) < 128) = false := by simp; omega
      go_wp2_with fail
      have kg := cell_grow
      refine region_whole (by kernel_rfl) (by kernel_rfl) ?_
      repeat (any_goals (first | go_big_quiet_step (fail) | quiet_step (fail)))
      refine wpQuiet_nil ?_
      clear kg
      intro w1 hb1
      obtain ⟨hc1, hf1⟩ := bcell hb1
      have hw1 : Below w.heap.size w w1 := by
        refine Below.trans ?_ (hb1.mono ?_)
        · go_grown
        · go_size
      obtain ⟨hc1, hf1⟩ := bcell hb1
      have c0 := (hc1 _ _ (by omega)).trans c0
      have c1 := (hc1 _ _ (by omega)).trans c1
      have c2 := (hc1 _ _ (by omega)).trans c2
      have c3 := (hc1 _ _ (by omega)).trans c3
      have hw0 := Below.trans hw0 (hb1.mono (by omega))
      have hz := Nat.le_trans hz hb1.size
      clear hc1 hf1 hb1
      go_wp2
      go_ret
      exact ⟨ret_num (by rw [commonN_unique h1 l1 h2 l2 k ha hb hc hd hk same.out (fun h => absurd h hlt)]), by go_grown⟩
end Go.Proofs.Ytcdiomemhmjcjaa

/-
  The given laws of chapter 1 as walks, continued: AddrCuts and AddrCommon hand back true, for every input. No condition but that the words are words of 64 bits.
-/
import Derived.Test.YtcdiomemhmjcjaaL1
namespace Go.Proofs.Ytcdiomemhmjcjaa
open Go.RowKit Go.Sort M

set_option maxHeartbeats 400000 in
theorem cuts_walk (hi lo : Nat) (n m i : Int) (ha : W64 hi) (hb : W64 lo) :
    Gives Try.prog 4 #[.agg #[.int .u64 hi, .int .u64 lo], .int .i64 n, .int .i64 m, .int .i64 i] (.bool true) := by
  intro w
  have ea := eql_addr
  by_cases hv : (0 ≤ n ∧ n ≤ 128) ∧ (0 ≤ m ∧ m ≤ 128) ∧ (0 ≤ i ∧ i ≤ 127)
  · obtain ⟨⟨n0, n1⟩, ⟨m0, m1⟩, ⟨i0, i1⟩⟩ := hv
    obtain ⟨X, hX⟩ : ∃ X, X = cutW hi n.toNat := ⟨_, rfl⟩
    obtain ⟨Y, hY⟩ : ∃ Y, Y = cutW lo (n.toNat - 64) := ⟨_, rfl⟩
    have wX : W64 X := hX ▸ ha.cut _
    have wY : W64 Y := hY ▸ hb.cut _
    have h1 := cut_any hi lo n ha hb
    have h2 := cut_any X Y m wX wY
    have h3 := right_any X Y n wX wY
    have h4 := has_any X Y n hi lo wX wY ha hb
    have h5 := bit_any X Y i wX wY
    have h6 := bit_any hi lo i ha hb
    have h7 := common_any X Y hi lo wX wY ha hb
    have hc := common_cut hi lo n.toNat ha hb (by omega)
    rw [← hX, ← hY] at h1 hc
    rw [hX, hY, cutW_cutW, cutW_cutW, ← hX, ← hY] at h2
    rw [show rightB X Y n = true by rw [hX, hY]; exact right_cut hi lo n n0 n1] at h3
    rw [show hasB X Y n hi lo = true by rw [hX, hY]; exact has_cut hi lo n n0 n1] at h4
    rw [hX, hY, bitI_cut hi lo n i n0 i0, ← hX, ← hY] at h5
    obtain ⟨C, hC⟩ : ∃ C : Nat, C = commonN X Y hi lo := ⟨_, rfl⟩
    rw [← hC] at h7 hc
    have hc' : n ≤ C := by omega
    have H1 := Lib.hid h1
    have H3 := Lib.hid h3
    have H4 := Lib.hid h4
    have H6 := Lib.hid h6
    have H7 := Lib.hid h7
    clear h1 h3 h4 h6 h7 hX hY hC hc
    by_cases hmn : m < n
    all_goals
      have h8 := cut_any hi lo (if m < n then m else n) ha hb
      first | rw [if_pos hmn] at h8 | rw [if_neg hmn] at h8
      first
        | (rw [show min n.toNat m.toNat = m.toNat by omega, show min (n.toNat - 64) (m.toNat - 64) = m.toNat - 64 by omega] at h2)
        | (rw [show min n.toNat m.toNat = n.toNat by omega, show min (n.toNat - 64) (m.toNat - 64) = n.toNat - 64 by omega] at h2)
      have H2 := Lib.hid h2
      have H8 := Lib.hid h8
      clear h2 h8
      by_cases hni : n ≤ i
      all_goals
        have h9 := h5
        first | rw [if_pos hni] at h9 | rw [if_neg hni] at h9
        have H5 := Lib.hid h9
        clear h9 h5
        go_enter Try.func4, Try.ntmps4
        go_wp2_with fail
        refine (alive1_any _).mono ?_
        rintro e0 w0 ⟨rfl, hb0⟩
        have hw0 : Below w.heap.size w w0 := by
          refine Below.trans ?_ (hb0.mono ?_)
          · go_grown
          · go_size
        have c0 : w0.cell? ⟨w.heap.size, 0, none⟩ = some (.int .u64 hi) := by
          rw [hb0.cell (by simp <;> omega)]
          first | assumption | (simp [go_sem]; done) | (simp [go_sem, *]; done)
        have c1 : w0.cell? ⟨w.heap.size, 1, none⟩ = some (.int .u64 lo) := by
          rw [hb0.cell (by simp <;> omega)]
          first | assumption | (simp [go_sem]; done) | (simp [go_sem, *]; done)
        have z0 : w.heap.size < w0.heap.size := by
          have hs := hb0.size
          try simp only [World.size_alloc, World.size_setCell] at hs
          omega
        go_wp2_with fail
        refine (H1.out _).mono ?_
        rintro e1 w1 ⟨rfl, hb1⟩
        have hw1 : Below w.heap.size w w1 := by
          refine Below.trans ?_ (hb1.mono ?_)
          · go_grown
          · go_size
        have c0 : w1.cell? ⟨w.heap.size, 0, none⟩ = some (.int .u64 hi) := by
          rw [hb1.cell (by simp <;> omega)]
          first | assumption | (simp [go_sem]; done) | (simp [go_sem, *]; done)
        have c1 : w1.cell? ⟨w.heap.size, 1, none⟩ = some (.int .u64 lo) := by
          rw [hb1.cell (by simp <;> omega)]
          first | assumption | (simp [go_sem]; done) | (simp [go_sem, *]; done)
        have z1 : w.heap.size < w1.heap.size := by
          have hs := hb1.size
          try simp only [World.size_alloc, World.size_setCell] at hs
          omega
        go_wp2_with fail
        refine (H6.out _).mono ?_
        rintro e2 w2 ⟨rfl, hb2⟩
        have hw2 : Below w.heap.size w w2 := by
          refine Below.trans ?_ (hb2.mono ?_)
          · go_grown
          · go_size
        have c0 : w2.cell? ⟨w.heap.size, 0, none⟩ = some (.int .u64 hi) := by
          rw [hb2.cell (by simp <;> omega)]
          first | assumption | (simp [go_sem]; done) | (simp [go_sem, *]; done)
        have c1 : w2.cell? ⟨w.heap.size, 1, none⟩ = some (.int .u64 lo) := by
          rw [hb2.cell (by simp <;> omega)]
          first | assumption | (simp [go_sem]; done) | (simp [go_sem, *]; done)
        have c2 : w2.cell? ⟨w1.heap.size, 0, none⟩ = some (.int .u64 X) := by
          rw [hb2.cell (by simp <;> omega)]
          first | assumption | (simp [go_sem]; done) | (simp [go_sem, *]; done)
        have c3 : w2.cell? ⟨w1.heap.size, 1, none⟩ = some (.int .u64 Y) := by
          rw [hb2.cell (by simp <;> omega)]
          first | assumption | (simp [go_sem]; done) | (simp [go_sem, *]; done)
        have z2 : w.heap.size < w2.heap.size := by
          have hs := hb2.size
          try simp only [World.size_alloc, World.size_setCell] at hs
          omega
        have z3 : w1.heap.size < w2.heap.size := by
          have hs := hb2.size
          try simp only [World.size_alloc, World.size_setCell] at hs
          omega
        go_wp2_with fail
        have kg := cell_grow
        refine region_whole (by kernel_rfl) (by kernel_rfl) ?_
        repeat (any_goals (first | go_big_quiet_step (first | (go_at_call 10; (first | (with_reducible exact Gives.at H2.out _ _ _) | (with_reducible exact Gives.at H8.out _ _ _))) | (go_at_call 12; exact Gives.at H3.out _ _ _) | (go_at_call 14; exact Gives.at H4.out _ _ _) | (go_at_call 8; exact Gives.at H5.out _ _ _) | (go_at_call 16; exact Gives.at H7.out _ _ _)) | quiet_step (first | (go_at_call 10; (first | (with_reducible exact Gives.at H2.out _ _ _) | (with_reducible exact Gives.at H8.out _ _ _))) | (go_at_call 12; exact Gives.at H3.out _ _ _) | (go_at_call 14; exact Gives.at H4.out _ _ _) | (go_at_call 8; exact Gives.at H5.out _ _ _) | (go_at_call 16; exact Gives.at H7.out _ _ _))))
        refine wpQuiet_nil ?_
        clear kg
        intro w3 hb3
        obtain ⟨hc3, hf3⟩ := bcell hb3
        have hw3 : Below w.heap.size w w3 := by
          refine Below.trans ?_ (hb3.mono ?_)
          · go_grown
          · go_size
        go_wp2
        go_ret
        exact ⟨rfl, by go_grown⟩
  · go_enter Try.func4, Try.ntmps4
    go_wp2_with fail
    refine (alive1_any _).mono ?_
    rintro e0 w0 ⟨rfl, hb0⟩
    have hw0 : Below w.heap.size w w0 := by
      refine Below.trans ?_ (hb0.mono ?_)
      · go_grown
      · go_size
    go_wp2_with fail
    all_goals first
      | (exfalso; omega)
      | (go_ret; exact ⟨rfl, by go_grown⟩)
end Go.Proofs.Ytcdiomemhmjcjaa

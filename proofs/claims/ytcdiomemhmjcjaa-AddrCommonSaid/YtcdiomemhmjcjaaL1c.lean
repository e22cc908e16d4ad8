/-
  The given laws of chapter 1 as walks, continued: AddrCommon hands back true, for every input. No condition but that the words are words of 64 bits.
-/
import Derived.Test.YtcdiomemhmjcjaaL1
namespace Go.Proofs.Ytcdiomemhmjcjaa
open Go.RowKit Go.Sort M

set_option maxHeartbeats 400000 in
theorem common_walk (h1 l1 h2 l2 : Nat) (ha : W64 h1) (hb : W64 l1) (hc : W64 h2) (hd : W64 l2) :
    Gives Try.prog 6 #[.agg #[.int .u64 h1, .int .u64 l1], .agg #[.int .u64 h2, .int .u64 l2]] (.bool true) := by
  intro w
  have ea := eql_addr
  have k1 := common_any h1 l1 h2 l2 ha hb hc hd
  have k2 := common_any h2 l2 h1 l1 hc hd ha hb
  have k3 := cut_any h1 l1 (commonN h1 l1 h2 l2 : Int) ha hb
  have k4 := cut_any h2 l2 (commonN h1 l1 h2 l2 : Int) hc hd
  have k5 := bit_any h1 l1 (commonN h1 l1 h2 l2 : Int) ha hb
  have k6 := bit_any h2 l2 (commonN h1 l1 h2 l2 : Int) hc hd
  obtain ⟨g1, g2⟩ := cut_common h1 l1 h2 l2 ha hb hc hd
  rw [commonN_symm] at k2
  rw [Int.toNat_natCast, g1, g2] at k3
  rw [Int.toNat_natCast] at k4
  have hle := commonN_le h1 l1 h2 l2
  have hfull := commonN_full h1 l1 h2 l2 ha hb hc hd
  have hnext := commonN_next h1 l1 h2 l2 ha hb hc hd
  have hself : h1 = h2 → l1 = l2 → commonN h1 l1 h2 l2 = 128 := fun e1 e2 => by subst e1 e2; exact commonN_self h1 l1
  generalize commonN h1 l1 h2 l2 = C at k1 k2 k3 k4 k5 k6 hle hfull hnext hself
  have K1 := Lib.hid k1
  have K2 := Lib.hid k2
  have K3 := Lib.hid k3
  have K4 := Lib.hid k4
  clear k1 k2 k3 k4 g1 g2
  by_cases hC : C = 128
  · obtain ⟨e1, e2⟩ := hfull hC
    subst hC e1 e2
    clear hfull hnext hself
    have K1' : Hid (Gives Try.prog 16 #[.agg #[.int .u64 h1, .int .u64 l1], .agg #[.int .u64 h1, .int .u64 l1]] (.int .i64 128)) := K1
    have K3' : Hid (Gives Try.prog 10 #[.agg #[.int .u64 h1, .int .u64 l1], .int .i64 128] (.agg #[.int .u64 (cutW h1 128 : Nat), .int .u64 (cutW l1 (128 - 64) : Nat)])) := K3
    clear K1 K2 K3 K4
    have d1 : decide (h1 = h1) = true := by simp
    go_enter Try.func6, Try.ntmps6
    go_wp2_with fail
    refine (alive1_any _).mono ?_
    rintro e0 w0 ⟨rfl, hb0⟩
    have hw0 : Below w.heap.size w w0 := by
      refine Below.trans ?_ (hb0.mono ?_)
      · go_grown
      · go_size
    have c0 : w0.cell? ⟨w.heap.size, 0, none⟩ = some (.int .u64 h1) := by
      rw [hb0.cell (by simp <;> omega)]
      first | assumption | (simp [go_sem]; done) | (simp [go_sem, *]; done)
    have c1 : w0.cell? ⟨w.heap.size, 1, none⟩ = some (.int .u64 l1) := by
      rw [hb0.cell (by simp <;> omega)]
      first | assumption | (simp [go_sem]; done) | (simp [go_sem, *]; done)
    have c2 : w0.cell? ⟨w.heap.size + 1, 0, none⟩ = some (.int .u64 h1) := by
      rw [hb0.cell (by simp <;> omega)]
      first | assumption | (simp [go_sem]; done) | (simp [go_sem, *]; done)
    have c3 : w0.cell? ⟨w.heap.size + 1, 1, none⟩ = some (.int .u64 l1) := by
      rw [hb0.cell (by simp <;> omega)]
      first | assumption | (simp [go_sem]; done) | (simp [go_sem, *]; done)
    have z0 : w.heap.size < w0.heap.size := by
      have hs := hb0.size
      try simp only [World.size_alloc, World.size_setCell] at hs
      omega
    have z1 : w.heap.size + 1 < w0.heap.size := by
      have hs := hb0.size
      try simp only [World.size_alloc, World.size_setCell] at hs
      omega
    go_wp2_with fail
    refine (K1'.out _).mono ?_
    rintro e1 w1 ⟨rfl, hb1⟩
    have hw1 : Below w.heap.size w w1 := by
      refine Below.trans ?_ (hb1.mono ?_)
      · go_grown
      · go_size
    have c0 : w1.cell? ⟨w.heap.size, 0, none⟩ = some (.int .u64 h1) := by
      rw [hb1.cell (by simp <;> omega)]
      first | assumption | (simp [go_sem]; done) | (simp [go_sem, *]; done)
    have c1 : w1.cell? ⟨w.heap.size, 1, none⟩ = some (.int .u64 l1) := by
      rw [hb1.cell (by simp <;> omega)]
      first | assumption | (simp [go_sem]; done) | (simp [go_sem, *]; done)
    have c2 : w1.cell? ⟨w.heap.size + 1, 0, none⟩ = some (.int .u64 h1) := by
      rw [hb1.cell (by simp <;> omega)]
      first | assumption | (simp [go_sem]; done) | (simp [go_sem, *]; done)
    have c3 : w1.cell? ⟨w.heap.size + 1, 1, none⟩ = some (.int .u64 l1) := by
      rw [hb1.cell (by simp <;> omega)]
      first | assumption | (simp [go_sem]; done) | (simp [go_sem, *]; done)
    have z0 : w.heap.size < w1.heap.size := by
      have hs := hb1.size
      try simp only [World.size_alloc, World.size_setCell] at hs
      omega
    have z1 : w.heap.size + 1 < w1.heap.size := by
      have hs := hb1.size
      try simp only [World.size_alloc, World.size_setCell] at hs
      omega
    go_wp2_with fail
    have kg := cell_grow
    refine region_whole (by kernel_rfl) (by kernel_rfl) ?_
    repeat (any_goals (first | go_big_quiet_step (first | (go_at_call 10; exact Gives.at K3'.out _ _ _) | (go_at_call 16; exact Gives.at K1'.out _ _ _)) | quiet_step (first | (go_at_call 10; exact Gives.at K3'.out _ _ _) | (go_at_call 16; exact Gives.at K1'.out _ _ _))))
    refine wpQuiet_nil ?_
    clear kg
    intro w2 hb2
    obtain ⟨hc2, hf2⟩ := bcell hb2
    have hw2 : Below w.heap.size w w2 := by
      refine Below.trans ?_ (hb2.mono ?_)
      · go_grown
      · go_size
    go_wp2
    go_ret
    exact ⟨rfl, by go_grown⟩
  · have hne : ¬ (h1 = h2 ∧ l1 = l2) := fun ⟨e1, e2⟩ => hC (hself e1 e2)
    have hb' := hnext (by omega)
    have d1 : (decide (h1 = h2) && decide (l1 = l2)) = false := by
      by_cases e1 : h1 = h2 <;> by_cases e2 : l1 = l2 <;> simp_all
    have d2 : ((C : Int) == 128) = false := by simp; omega
    have d3 : decide ((C : Int) = 128) = false := by simp; omega
    have d4 : decide ((128 : Int) < C) = false := by simp; omega
    have d5 : (!decide (h1 = h2) || !decide (l1 = l2)) = true := by
      by_cases e1 : h1 = h2 <;> by_cases e2 : l1 = l2 <;> simp_all
    clear hfull hnext hself hne
    cases b1 : bitN h1 l1 C <;> cases b2 : bitN h2 l2 C
    case false.false => rw [b1, b2] at hb'; exact absurd rfl hb'
    case true.true => rw [b1, b2] at hb'; exact absurd rfl hb'
    all_goals
      rw [bitI_of _ _ _ _ b1] at k5
      rw [bitI_of _ _ _ _ b2] at k6
      simp only [cond_true, cond_false] at k5 k6
      have K5 := Lib.hid k5
      have K6 := Lib.hid k6
      clear k5 k6 b1 b2 hb'
      go_enter Try.func6, Try.ntmps6
      go_wp2_with fail
      refine (alive1_any _).mono ?_
      rintro e0 w0 ⟨rfl, hb0⟩
      have hw0 : Below w.heap.size w w0 := by
        refine Below.trans ?_ (hb0.mono ?_)
        · go_grown
        · go_size
      have c0 : w0.cell? ⟨w.heap.size, 0, none⟩ = some (.int .u64 h1) := by
        rw [hb0.cell (by simp <;> omega)]
        first | assumption | (simp [go_sem]; done) | (simp [go_sem, *]; done)
      have c1 : w0.cell? ⟨w.heap.size, 1, none⟩ = some (.int .u64 l1) := by
        rw [hb0.cell (by simp <;> omega)]
        first | assumption | (simp [go_sem]; done) | (simp [go_sem, *]; done)
      have c2 : w0.cell? ⟨w.heap.size + 1, 0, none⟩ = some (.int .u64 h2) := by
        rw [hb0.cell (by simp <;> omega)]
        first | assumption | (simp [go_sem]; done) | (simp [go_sem, *]; done)
      have c3 : w0.cell? ⟨w.heap.size + 1, 1, none⟩ = some (.int .u64 l2) := by
        rw [hb0.cell (by simp <;> omega)]
        first | assumption | (simp [go_sem]; done) | (simp [go_sem, *]; done)
      have z0 : w.heap.size < w0.heap.size := by
        have hs := hb0.size
        try simp only [World.size_alloc, World.size_setCell] at hs
        omega
      have z1 : w.heap.size + 1 < w0.heap.size := by
        have hs := hb0.size
        try simp only [World.size_alloc, World.size_setCell] at hs
        omega
      go_wp2_with fail
      refine (K1.out _).mono ?_
      rintro e1 w1 ⟨rfl, hb1⟩
      have hw1 : Below w.heap.size w w1 := by
        refine Below.trans ?_ (hb1.mono ?_)
        · go_grown
        · go_size
      have c0 : w1.cell? ⟨w.heap.size, 0, none⟩ = some (.int .u64 h1) := by
        rw [hb1.cell (by simp <;> omega)]
        first | assumption | (simp [go_sem]; done) | (simp [go_sem, *]; done)
      have c1 : w1.cell? ⟨w.heap.size, 1, none⟩ = some (.int .u64 l1) := by
        rw [hb1.cell (by simp <;> omega)]
        first | assumption | (simp [go_sem]; done) | (simp [go_sem, *]; done)
      have c2 : w1.cell? ⟨w.heap.size + 1, 0, none⟩ = some (.int .u64 h2) := by
        rw [hb1.cell (by simp <;> omega)]
        first | assumption | (simp [go_sem]; done) | (simp [go_sem, *]; done)
      have c3 : w1.cell? ⟨w.heap.size + 1, 1, none⟩ = some (.int .u64 l2) := by
        rw [hb1.cell (by simp <;> omega)]
        first | assumption | (simp [go_sem]; done) | (simp [go_sem, *]; done)
      have z0 : w.heap.size < w1.heap.size := by
        have hs := hb1.size
        try simp only [World.size_alloc, World.size_setCell] at hs
        omega
      have z1 : w.heap.size + 1 < w1.heap.size := by
        have hs := hb1.size
        try simp only [World.size_alloc, World.size_setCell] at hs
        omega
      go_wp2_with fail
      have kg := cell_grow
      refine region_whole (by kernel_rfl) (by kernel_rfl) ?_
      repeat (any_goals (first | go_big_quiet_step (first | (go_at_call 10; (first | (with_reducible exact Gives.at K3.out _ _ _) | (with_reducible exact Gives.at K4.out _ _ _))) | (go_at_call 16; exact Gives.at K2.out _ _ _) | (go_at_call 8; (first | (with_reducible exact Gives.at K5.out _ _ _) | (with_reducible exact Gives.at K6.out _ _ _)))) | quiet_step (first | (go_at_call 10; (first | (with_reducible exact Gives.at K3.out _ _ _) | (with_reducible exact Gives.at K4.out _ _ _))) | (go_at_call 16; exact Gives.at K2.out _ _ _) | (go_at_call 8; (first | (with_reducible exact Gives.at K5.out _ _ _) | (with_reducible exact Gives.at K6.out _ _ _))))))
      refine wpQuiet_nil ?_
      clear kg
      intro w2 hb2
      obtain ⟨hc2, hf2⟩ := bcell hb2
      have hw2 : Below w.heap.size w w2 := by
        refine Below.trans ?_ (hb2.mono ?_)
        · go_grown
        · go_size
      go_wp2
      go_ret
      exact ⟨rfl, by go_grown⟩
end Go.Proofs.Ytcdiomemhmjcjaa

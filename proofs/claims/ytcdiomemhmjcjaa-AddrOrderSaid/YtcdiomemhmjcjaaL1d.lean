/-
  The given laws of chapter 1 as walks, continued: AddrOrder hands back true, for every input. No condition but that the words are words of 64 bits.
-/
import Derived.Test.YtcdiomemhmjcjaaL1
namespace Go.Proofs.Ytcdiomemhmjcjaa
open Go.RowKit Go.Sort M

/-- Two prefixes are held against each other number by number. -/
theorem neq_pfx (a b : Nat) (n : Int) (c d : Nat) (m : Int) (w : World) : (binOp .neq 26 (.agg #[.int .u64 a, .int .u64 b, .int .i64 n]) (.agg #[.int .u64 c, .int .u64 d, .int .i64 m])).run Try.prog w =
    .ok (.bool (!decide (a = c ∧ b = d ∧ n = m))) w := by
  have e1 : decide (a = c ∧ b = d ∧ n = m) = (decide ((a : Int) = c) && (decide ((b : Int) = d) && decide (n = m))) := by
    rw [← Bool.decide_and, ← Bool.decide_and, decide_eq_decide]; omega
  rw [e1]
  by_cases h1 : (a : Int) = c <;> by_cases h2 : (b : Int) = d <;> by_cases h3 : n = m <;> simp [go_sem, h1, h2, h3]

set_option maxHeartbeats 8000000 in
theorem order_walk (h1 l1 : Nat) (n1 : Int) (h2 l2 : Nat) (n2 : Int) (h3 l3 : Nat) (n3 : Int) (a1 : W64 h1) (b1 : W64 l1) (a2 : W64 h2) (b2 : W64 l2) :
    Gives Try.prog 5 #[.agg #[.int .u64 h1, .int .u64 l1, .int .i64 n1], .agg #[.int .u64 h2, .int .u64 l2, .int .i64 n2], .agg #[.int .u64 h3, .int .u64 l3, .int .i64 n3]] (.bool true) := by
  intro w
  have k0 := less_any h1 l1 n1 h1 l1 n1
  rw [lessB_self] at k0
  have k1 := less_any h1 l1 n1 h2 l2 n2
  have k2 := less_any h2 l2 n2 h1 l1 n1
  have k3 := less_any h2 l2 n2 h3 l3 n3
  have k4 := less_any h1 l1 n1 h3 l3 n3
  have k5 := has_any h1 l1 n1 h2 l2 a1 b1 a2 b2
  have k6 := right_any h2 l2 n2 a2 b2
  have t1 := lessB_total h1 l1 n1 h2 l2 n2
  have t2 := lessB_trans h1 l1 n1 h2 l2 n2 h3 l3 n3
  have t3 := less_of_has h1 l1 n1 h2 l2 n2
  have t4 : h1 = h2 ∧ l1 = l2 ∧ n1 = n2 → lessB h1 l1 n1 h2 l2 n2 = false := fun ⟨e1, e2, e3⟩ => by subst e1 e2 e3; exact lessB_self _ _ _
  have nq : ∀ w : World, (binOp .neq 26 (.agg #[.int .u64 h1, .int .u64 l1, .int .i64 n1]) (.agg #[.int .u64 h2, .int .u64 l2, .int .i64 n2])).run Try.prog w = .ok (.bool (!decide (h1 = h2 ∧ l1 = l2 ∧ n1 = n2))) w := neq_pfx h1 l1 n1 h2 l2 n2
  generalize hL1 : lessB h1 l1 n1 h2 l2 n2 = L1 at *
  generalize hL2 : lessB h2 l2 n2 h1 l1 n1 = L2 at *
  generalize hL3 : lessB h2 l2 n2 h3 l3 n3 = L3 at *
  generalize hL4 : lessB h1 l1 n1 h3 l3 n3 = L4 at *
  generalize hB5 : hasB h1 l1 n1 h2 l2 = B5 at *
  generalize hB6 : rightB h2 l2 n2 = B6 at *
  generalize hE : decide (h1 = h2 ∧ l1 = l2 ∧ n1 = n2) = E at *
  clear hL1 hL2 hL3 hL4 hB5 hB6
  have t1' : E = false → L2 = !L1 := fun h => t1 (by simpa [← hE] using h)
  have t4' : E = true → L1 = false := fun h => t4 (by simpa [← hE] using h)
  clear t1 t4 hE
  have t3' : B5 = true → decide (n1 < n2) = true → L1 = true := fun x y => t3 x (by simpa using y)
  clear t3
  have K0 := Lib.hid k0
  have K1 := Lib.hid k1
  have K2 := Lib.hid k2
  have K3 := Lib.hid k3
  have K4 := Lib.hid k4
  have K5 := Lib.hid k5
  have K6 := Lib.hid k6
  clear k0 k1 k2 k3 k4 k5 k6
  cases E
  · have e2 := t1' rfl
    subst e2
    clear t1' t4'
    cases L1
    · clear t2
      have t3 : ¬ (B5 = true ∧ n1 < n2) := fun ⟨x, y⟩ => Bool.false_ne_true (t3' x (by simpa using y))
      clear t3'
      cases B5 <;> cases B6 <;> by_cases hn : n1 < n2
      all_goals first
        | (exfalso; exact t3 ⟨rfl, hn⟩)
        | skip
      all_goals
        go_enter Try.func5, Try.ntmps5
        go_wp2_with fail
        refine (alive1_any _).mono ?_
        rintro e0 w0 ⟨rfl, hb0⟩
        have hw0 : Below w.heap.size w w0 := by
          refine Below.trans ?_ (hb0.mono ?_)
          · go_grown
          · go_size
        have c0 : w0.cell? ⟨w.heap.size, 0, none⟩ = some (.int .u64 h1) := by
          rw [hb0.cell (by simp <;> omega)]
          first | assumption | (simp [go_sem]; done) | (simp [go_sem, *]; done)
        have c1 : w0.cell? ⟨w.heap.size, 1, none⟩ = some (.int .u64 l1) := by
          rw [hb0.cell (by simp <;> omega)]
          first | assumption | (simp [go_sem]; done) | (simp [go_sem, *]; done)
        have c2 : w0.cell? ⟨w.heap.size, 2, none⟩ = some (.int .i64 n1) := by
          rw [hb0.cell (by simp <;> omega)]
          first | assumption | (simp [go_sem]; done) | (simp [go_sem, *]; done)
        have c3 : w0.cell? ⟨w.heap.size + 1, 0, none⟩ = some (.int .u64 h2) := by
          rw [hb0.cell (by simp <;> omega)]
          first | assumption | (simp [go_sem]; done) | (simp [go_sem, *]; done)
        have c4 : w0.cell? ⟨w.heap.size + 1, 1, none⟩ = some (.int .u64 l2) := by
          rw [hb0.cell (by simp <;> omega)]
          first | assumption | (simp [go_sem]; done) | (simp [go_sem, *]; done)
        have c5 : w0.cell? ⟨w.heap.size + 1, 2, none⟩ = some (.int .i64 n2) := by
          rw [hb0.cell (by simp <;> omega)]
          first | assumption | (simp [go_sem]; done) | (simp [go_sem, *]; done)
        have z0 : w.heap.size < w0.heap.size := by
          have hs := hb0.size
          try simp only [World.size_alloc, World.size_setCell] at hs
          omega
        have z1 : w.heap.size + 1 < w0.heap.size := by
          have hs := hb0.size
          try simp only [World.size_alloc, World.size_setCell] at hs
          omega
        have c6 : w0.cell? ⟨w.heap.size + 2, 0, none⟩ = some (.int .u64 h3) := by
          rw [hb0.cell (by simp <;> omega)]
          first | assumption | (simp [go_sem]; done) | (simp [go_sem, *]; done)
        have c7 : w0.cell? ⟨w.heap.size + 2, 1, none⟩ = some (.int .u64 l3) := by
          rw [hb0.cell (by simp <;> omega)]
          first | assumption | (simp [go_sem]; done) | (simp [go_sem, *]; done)
        have c8 : w0.cell? ⟨w.heap.size + 2, 2, none⟩ = some (.int .i64 n3) := by
          rw [hb0.cell (by simp <;> omega)]
          first | assumption | (simp [go_sem]; done) | (simp [go_sem, *]; done)
        have z2 : w.heap.size + 2 < w0.heap.size := by
          have hs := hb0.size
          try simp only [World.size_alloc, World.size_setCell] at hs
          omega
        go_wp2_with fail
        have kg := cell_grow
        refine region_whole (by kernel_rfl) (by kernel_rfl) ?_
        repeat (any_goals (first | go_big_quiet_step ((go_at_call 18; (first | (with_reducible exact Gives.at K0.out _ _ _) | (with_reducible exact Gives.at K1.out _ _ _) | (with_reducible exact Gives.at K2.out _ _ _) | (with_reducible exact Gives.at K3.out _ _ _) | (with_reducible exact Gives.at K4.out _ _ _)))) | quiet_step ((go_at_call 18; (first | (with_reducible exact Gives.at K0.out _ _ _) | (with_reducible exact Gives.at K1.out _ _ _) | (with_reducible exact Gives.at K2.out _ _ _) | (with_reducible exact Gives.at K3.out _ _ _) | (with_reducible exact Gives.at K4.out _ _ _))))))
        refine wpQuiet_nil ?_
        clear kg
        intro w1 hb1
        obtain ⟨hc1, hf1⟩ := bcell hb1
        have hw1 : Below w.heap.size w w1 := by
          refine Below.trans ?_ (hb1.mono ?_)
          · go_grown
          · go_size
        have c0 : w1.cell? ⟨w.heap.size, 0, none⟩ = some (.int .u64 h1) := by
          rw [hb1.cell (by simp <;> omega)]
          first | assumption | (simp [go_sem]; done) | (simp [go_sem, *]; done)
        have c1 : w1.cell? ⟨w.heap.size, 1, none⟩ = some (.int .u64 l1) := by
          rw [hb1.cell (by simp <;> omega)]
          first | assumption | (simp [go_sem]; done) | (simp [go_sem, *]; done)
        have c2 : w1.cell? ⟨w.heap.size, 2, none⟩ = some (.int .i64 n1) := by
          rw [hb1.cell (by simp <;> omega)]
          first | assumption | (simp [go_sem]; done) | (simp [go_sem, *]; done)
        have c3 : w1.cell? ⟨w.heap.size + 1, 0, none⟩ = some (.int .u64 h2) := by
          rw [hb1.cell (by simp <;> omega)]
          first | assumption | (simp [go_sem]; done) | (simp [go_sem, *]; done)
        have c4 : w1.cell? ⟨w.heap.size + 1, 1, none⟩ = some (.int .u64 l2) := by
          rw [hb1.cell (by simp <;> omega)]
          first | assumption | (simp [go_sem]; done) | (simp [go_sem, *]; done)
        have c5 : w1.cell? ⟨w.heap.size + 1, 2, none⟩ = some (.int .i64 n2) := by
          rw [hb1.cell (by simp <;> omega)]
          first | assumption | (simp [go_sem]; done) | (simp [go_sem, *]; done)
        have z0 : w.heap.size < w1.heap.size := by
          have hs := hb1.size
          try simp only [World.size_alloc, World.size_setCell] at hs
          omega
        have z1 : w.heap.size + 1 < w1.heap.size := by
          have hs := hb1.size
          try simp only [World.size_alloc, World.size_setCell] at hs
          omega
        clear hc1 hf1
        go_wp2_with fail
        refine (K5.out _).mono ?_
        rintro e2 w2 ⟨rfl, hb2⟩
        have hw2 : Below w.heap.size w w2 := by
          refine Below.trans ?_ (hb2.mono ?_)
          · go_grown
          · go_size
        have c0 : w2.cell? ⟨w.heap.size, 0, none⟩ = some (.int .u64 h1) := by
          rw [hb2.cell (by simp <;> omega)]
          first | assumption | (simp [go_sem]; done) | (simp [go_sem, *]; done)
        have c1 : w2.cell? ⟨w.heap.size, 1, none⟩ = some (.int .u64 l1) := by
          rw [hb2.cell (by simp <;> omega)]
          first | assumption | (simp [go_sem]; done) | (simp [go_sem, *]; done)
        have c2 : w2.cell? ⟨w.heap.size, 2, none⟩ = some (.int .i64 n1) := by
          rw [hb2.cell (by simp <;> omega)]
          first | assumption | (simp [go_sem]; done) | (simp [go_sem, *]; done)
        have c3 : w2.cell? ⟨w.heap.size + 1, 0, none⟩ = some (.int .u64 h2) := by
          rw [hb2.cell (by simp <;> omega)]
          first | assumption | (simp [go_sem]; done) | (simp [go_sem, *]; done)
        have c4 : w2.cell? ⟨w.heap.size + 1, 1, none⟩ = some (.int .u64 l2) := by
          rw [hb2.cell (by simp <;> omega)]
          first | assumption | (simp [go_sem]; done) | (simp [go_sem, *]; done)
        have c5 : w2.cell? ⟨w.heap.size + 1, 2, none⟩ = some (.int .i64 n2) := by
          rw [hb2.cell (by simp <;> omega)]
          first | assumption | (simp [go_sem]; done) | (simp [go_sem, *]; done)
        have z0 : w.heap.size < w2.heap.size := by
          have hs := hb2.size
          try simp only [World.size_alloc, World.size_setCell] at hs
          omega
        have z1 : w.heap.size + 1 < w2.heap.size := by
          have hs := hb2.size
          try simp only [World.size_alloc, World.size_setCell] at hs
          omega
        go_wp2_with fail
        first
          | (go_ret
             exact ⟨rfl, by go_grown⟩)
          | (skip
             refine (K6.out _).mono ?_
             rintro e3 w3 ⟨rfl, hb3⟩
             have hw3 : Below w.heap.size w w3 := by
               refine Below.trans ?_ (hb3.mono ?_)
               · go_grown
               · go_size
             have c0 : w3.cell? ⟨w.heap.size, 0, none⟩ = some (.int .u64 h1) := by
               rw [hb3.cell (by simp <;> omega)]
               first | assumption | (simp [go_sem]; done) | (simp [go_sem, *]; done)
             have c1 : w3.cell? ⟨w.heap.size, 1, none⟩ = some (.int .u64 l1) := by
               rw [hb3.cell (by simp <;> omega)]
               first | assumption | (simp [go_sem]; done) | (simp [go_sem, *]; done)
             have c2 : w3.cell? ⟨w.heap.size, 2, none⟩ = some (.int .i64 n1) := by
               rw [hb3.cell (by simp <;> omega)]
               first | assumption | (simp [go_sem]; done) | (simp [go_sem, *]; done)
             have c3 : w3.cell? ⟨w.heap.size + 1, 0, none⟩ = some (.int .u64 h2) := by
               rw [hb3.cell (by simp <;> omega)]
               first | assumption | (simp [go_sem]; done) | (simp [go_sem, *]; done)
             have c4 : w3.cell? ⟨w.heap.size + 1, 1, none⟩ = some (.int .u64 l2) := by
               rw [hb3.cell (by simp <;> omega)]
               first | assumption | (simp [go_sem]; done) | (simp [go_sem, *]; done)
             have c5 : w3.cell? ⟨w.heap.size + 1, 2, none⟩ = some (.int .i64 n2) := by
               rw [hb3.cell (by simp <;> omega)]
               first | assumption | (simp [go_sem]; done) | (simp [go_sem, *]; done)
             have z0 : w.heap.size < w3.heap.size := by
               have hs := hb3.size
               try simp only [World.size_alloc, World.size_setCell] at hs
               omega
             have z1 : w.heap.size + 1 < w3.heap.size := by
               have hs := hb3.size
               try simp only [World.size_alloc, World.size_setCell] at hs
               omega
             go_wp2_with fail
             first
               | (go_ret
                  exact ⟨rfl, by go_grown⟩)
               | (skip
                  refine (K1.out _).mono ?_
                  rintro e4 w4 ⟨rfl, hb4⟩
                  have hw4 : Below w.heap.size w w4 := by
                    refine Below.trans ?_ (hb4.mono ?_)
                    · go_grown
                    · go_size
                  go_wp2_with fail
                  go_ret
                  exact ⟨rfl, by go_grown⟩))
    · cases L3
      · clear t2 t3'
        cases B5 <;> cases B6 <;> by_cases hn : n1 < n2
        all_goals first
          | (exfalso; exact t3 ⟨rfl, hn⟩)
          | skip
        all_goals
          go_enter Try.func5, Try.ntmps5
          go_wp2_with fail
          refine (alive1_any _).mono ?_
          rintro e0 w0 ⟨rfl, hb0⟩
          have hw0 : Below w.heap.size w w0 := by
            refine Below.trans ?_ (hb0.mono ?_)
            · go_grown
            · go_size
          have c0 : w0.cell? ⟨w.heap.size, 0, none⟩ = some (.int .u64 h1) := by
            rw [hb0.cell (by simp <;> omega)]
            first | assumption | (simp [go_sem]; done) | (simp [go_sem, *]; done)
          have c1 : w0.cell? ⟨w.heap.size, 1, none⟩ = some (.int .u64 l1) := by
            rw [hb0.cell (by simp <;> omega)]
            first | assumption | (simp [go_sem]; done) | (simp [go_sem, *]; done)
          have c2 : w0.cell? ⟨w.heap.size, 2, none⟩ = some (.int .i64 n1) := by
            rw [hb0.cell (by simp <;> omega)]
            first | assumption | (simp [go_sem]; done) | (simp [go_sem, *]; done)
          have c3 : w0.cell? ⟨w.heap.size + 1, 0, none⟩ = some (.int .u64 h2) := by
            rw [hb0.cell (by simp <;> omega)]
            first | assumption | (simp [go_sem]; done) | (simp [go_sem, *]; done)
          have c4 : w0.cell? ⟨w.heap.size + 1, 1, none⟩ = some (.int .u64 l2) := by
            rw [hb0.cell (by simp <;> omega)]
            first | assumption | (simp [go_sem]; done) | (simp [go_sem, *]; done)
          have c5 : w0.cell? ⟨w.heap.size + 1, 2, none⟩ = some (.int .i64 n2) := by
            rw [hb0.cell (by simp <;> omega)]
            first | assumption | (simp [go_sem]; done) | (simp [go_sem, *]; done)
          have z0 : w.heap.size < w0.heap.size := by
            have hs := hb0.size
            try simp only [World.size_alloc, World.size_setCell] at hs
            omega
          have z1 : w.heap.size + 1 < w0.heap.size := by
            have hs := hb0.size
            try simp only [World.size_alloc, World.size_setCell] at hs
            omega
          have c6 : w0.cell? ⟨w.heap.size + 2, 0, none⟩ = some (.int .u64 h3) := by
            rw [hb0.cell (by simp <;> omega)]
            first | assumption | (simp [go_sem]; done) | (simp [go_sem, *]; done)
          have c7 : w0.cell? ⟨w.heap.size + 2, 1, none⟩ = some (.int .u64 l3) := by
            rw [hb0.cell (by simp <;> omega)]
            first | assumption | (simp [go_sem]; done) | (simp [go_sem, *]; done)
          have c8 : w0.cell? ⟨w.heap.size + 2, 2, none⟩ = some (.int .i64 n3) := by
            rw [hb0.cell (by simp <;> omega)]
            first | assumption | (simp [go_sem]; done) | (simp [go_sem, *]; done)
          have z2 : w.heap.size + 2 < w0.heap.size := by
            have hs := hb0.size
            try simp only [World.size_alloc, World.size_setCell] at hs
            omega
          go_wp2_with fail
          have kg := cell_grow
          refine region_whole (by kernel_rfl) (by kernel_rfl) ?_
          repeat (any_goals (first | go_big_quiet_step ((go_at_call 18; (first | (with_reducible exact Gives.at K0.out _ _ _) | (with_reducible exact Gives.at K1.out _ _ _) | (with_reducible exact Gives.at K2.out _ _ _) | (with_reducible exact Gives.at K3.out _ _ _) | (with_reducible exact Gives.at K4.out _ _ _)))) | quiet_step ((go_at_call 18; (first | (with_reducible exact Gives.at K0.out _ _ _) | (with_reducible exact Gives.at K1.out _ _ _) | (with_reducible exact Gives.at K2.out _ _ _) | (with_reducible exact Gives.at K3.out _ _ _) | (with_reducible exact Gives.at K4.out _ _ _))))))
          refine wpQuiet_nil ?_
          clear kg
          intro w1 hb1
          obtain ⟨hc1, hf1⟩ := bcell hb1
          have hw1 : Below w.heap.size w w1 := by
            refine Below.trans ?_ (hb1.mono ?_)
            · go_grown
            · go_size
          have c0 : w1.cell? ⟨w.heap.size, 0, none⟩ = some (.int .u64 h1) := by
            rw [hb1.cell (by simp <;> omega)]
            first | assumption | (simp [go_sem]; done) | (simp [go_sem, *]; done)
          have c1 : w1.cell? ⟨w.heap.size, 1, none⟩ = some (.int .u64 l1) := by
            rw [hb1.cell (by simp <;> omega)]
            first | assumption | (simp [go_sem]; done) | (simp [go_sem, *]; done)
          have c2 : w1.cell? ⟨w.heap.size, 2, none⟩ = some (.int .i64 n1) := by
            rw [hb1.cell (by simp <;> omega)]
            first | assumption | (simp [go_sem]; done) | (simp [go_sem, *]; done)
          have c3 : w1.cell? ⟨w.heap.size + 1, 0, none⟩ = some (.int .u64 h2) := by
            rw [hb1.cell (by simp <;> omega)]
            first | assumption | (simp [go_sem]; done) | (simp [go_sem, *]; done)
          have c4 : w1.cell? ⟨w.heap.size + 1, 1, none⟩ = some (.int .u64 l2) := by
            rw [hb1.cell (by simp <;> omega)]
            first | assumption | (simp [go_sem]; done) | (simp [go_sem, *]; done)
          have c5 : w1.cell? ⟨w.heap.size + 1, 2, none⟩ = some (.int .i64 n2) := by
            rw [hb1.cell (by simp <;> omega)]
            first | assumption | (simp [go_sem]; done) | (simp [go_sem, *]; done)
          have z0 : w.heap.size < w1.heap.size := by
            have hs := hb1.size
            try simp only [World.size_alloc, World.size_setCell] at hs
            omega
          have z1 : w.heap.size + 1 < w1.heap.size := by
            have hs := hb1.size
            try simp only [World.size_alloc, World.size_setCell] at hs
            omega
          clear hc1 hf1
          go_wp2_with fail
          refine (K5.out _).mono ?_
          rintro e2 w2 ⟨rfl, hb2⟩
          have hw2 : Below w.heap.size w w2 := by
            refine Below.trans ?_ (hb2.mono ?_)
            · go_grown
            · go_size
          have c0 : w2.cell? ⟨w.heap.size, 0, none⟩ = some (.int .u64 h1) := by
            rw [hb2.cell (by simp <;> omega)]
            first | assumption | (simp [go_sem]; done) | (simp [go_sem, *]; done)
          have c1 : w2.cell? ⟨w.heap.size, 1, none⟩ = some (.int .u64 l1) := by
            rw [hb2.cell (by simp <;> omega)]
            first | assumption | (simp [go_sem]; done) | (simp [go_sem, *]; done)
          have c2 : w2.cell? ⟨w.heap.size, 2, none⟩ = some (.int .i64 n1) := by
            rw [hb2.cell (by simp <;> omega)]
            first | assumption | (simp [go_sem]; done) | (simp [go_sem, *]; done)
          have c3 : w2.cell? ⟨w.heap.size + 1, 0, none⟩ = some (.int .u64 h2) := by
            rw [hb2.cell (by simp <;> omega)]
            first | assumption | (simp [go_sem]; done) | (simp [go_sem, *]; done)
          have c4 : w2.cell? ⟨w.heap.size + 1, 1, none⟩ = some (.int .u64 l2) := by
            rw [hb2.cell (by simp <;> omega)]
            first | assumption | (simp [go_sem]; done) | (simp [go_sem, *]; done)
          have c5 : w2.cell? ⟨w.heap.size + 1, 2, none⟩ = some (.int .i64 n2) := by
            rw [hb2.cell (by simp <;> omega)]
            first | assumption | (simp [go_sem]; done) | (simp [go_sem, *]; done)
          have z0 : w.heap.size < w2.heap.size := by
            have hs := hb2.size
            try simp only [World.size_alloc, World.size_setCell] at hs
            omega
          have z1 : w.heap.size + 1 < w2.heap.size := by
            have hs := hb2.size
            try simp only [World.size_alloc, World.size_setCell] at hs
            omega
          go_wp2_with fail
          first
            | (go_ret
               exact ⟨rfl, by go_grown⟩)
            | (skip
               refine (K6.out _).mono ?_
               rintro e3 w3 ⟨rfl, hb3⟩
               have hw3 : Below w.heap.size w w3 := by
                 refine Below.trans ?_ (hb3.mono ?_)
                 · go_grown
                 · go_size
               have c0 : w3.cell? ⟨w.heap.size, 0, none⟩ = some (.int .u64 h1) := by
                 rw [hb3.cell (by simp <;> omega)]
                 first | assumption | (simp [go_sem]; done) | (simp [go_sem, *]; done)
               have c1 : w3.cell? ⟨w.heap.size, 1, none⟩ = some (.int .u64 l1) := by
                 rw [hb3.cell (by simp <;> omega)]
                 first | assumption | (simp [go_sem]; done) | (simp [go_sem, *]; done)
               have c2 : w3.cell? ⟨w.heap.size, 2, none⟩ = some (.int .i64 n1) := by
                 rw [hb3.cell (by simp <;> omega)]
                 first | assumption | (simp [go_sem]; done) | (simp [go_sem, *]; done)
               have c3 : w3.cell? ⟨w.heap.size + 1, 0, none⟩ = some (.int .u64 h2) := by
                 rw [hb3.cell (by simp <;> omega)]
                 first | assumption | (simp [go_sem]; done) | (simp [go_sem, *]; done)
               have c4 : w3.cell? ⟨w.heap.size + 1, 1, none⟩ = some (.int .u64 l2) := by
                 rw [hb3.cell (by simp <;> omega)]
                 first | assumption | (simp [go_sem]; done) | (simp [go_sem, *]; done)
               have c5 : w3.cell? ⟨w.heap.size + 1, 2, none⟩ = some (.int .i64 n2) := by
                 rw [hb3.cell (by simp <;> omega)]
                 first | assumption | (simp [go_sem]; done) | (simp [go_sem, *]; done)
               have z0 : w.heap.size < w3.heap.size := by
                 have hs := hb3.size
                 try simp only [World.size_alloc, World.size_setCell] at hs
                 omega
               have z1 : w.heap.size + 1 < w3.heap.size := by
                 have hs := hb3.size
                 try simp only [World.size_alloc, World.size_setCell] at hs
                 omega
               go_wp2_with fail
               first
                 | (go_ret
                    exact ⟨rfl, by go_grown⟩)
                 | (skip
                    refine (K1.out _).mono ?_
                    rintro e4 w4 ⟨rfl, hb4⟩
                    have hw4 : Below w.heap.size w w4 := by
                      refine Below.trans ?_ (hb4.mono ?_)
                      · go_grown
                      · go_size
                    go_wp2_with fail
                    go_ret
                    exact ⟨rfl, by go_grown⟩))
      · obtain rfl : L4 = true := t2 rfl rfl
        clear t2 t3'
        cases B5 <;> cases B6 <;> by_cases hn : n1 < n2
        all_goals first
          | (exfalso; exact t3 ⟨rfl, hn⟩)
          | skip
        all_goals
          go_enter Try.func5, Try.ntmps5
          go_wp2_with fail
          refine (alive1_any _).mono ?_
          rintro e0 w0 ⟨rfl, hb0⟩
          have hw0 : Below w.heap.size w w0 := by
            refine Below.trans ?_ (hb0.mono ?_)
            · go_grown
            · go_size
          have c0 : w0.cell? ⟨w.heap.size, 0, none⟩ = some (.int .u64 h1) := by
            rw [hb0.cell (by simp <;> omega)]
            first | assumption | (simp [go_sem]; done) | (simp [go_sem, *]; done)
          have c1 : w0.cell? ⟨w.heap.size, 1, none⟩ = some (.int .u64 l1) := by
            rw [hb0.cell (by simp <;> omega)]
            first | assumption | (simp [go_sem]; done) | (simp [go_sem, *]; done)
          have c2 : w0.cell? ⟨w.heap.size, 2, none⟩ = some (.int .i64 n1) := by
            rw [hb0.cell (by simp <;> omega)]
            first | assumption | (simp [go_sem]; done) | (simp [go_sem, *]; done)
          have c3 : w0.cell? ⟨w.heap.size + 1, 0, none⟩ = some (.int .u64 h2) := by
            rw [hb0.cell (by simp <;> omega)]
            first | assumption | (simp [go_sem]; done) | (simp [go_sem, *]; done)
          have c4 : w0.cell? ⟨w.heap.size + 1, 1, none⟩ = some (.int .u64 l2) := by
            rw [hb0.cell (by simp <;> omega)]
            first | assumption | (simp [go_sem]; done) | (simp [go_sem, *]; done)
          have c5 : w0.cell? ⟨w.heap.size + 1, 2, none⟩ = some (.int .i64 n2) := by
            rw [hb0.cell (by simp <;> omega)]
            first | assumption | (simp [go_sem]; done) | (simp [go_sem, *]; done)
          have z0 : w.heap.size < w0.heap.size := by
            have hs := hb0.size
            try simp only [World.size_alloc, World.size_setCell] at hs
            omega
          have z1 : w.heap.size + 1 < w0.heap.size := by
            have hs := hb0.size
            try simp only [World.size_alloc, World.size_setCell] at hs
            omega
          have c6 : w0.cell? ⟨w.heap.size + 2, 0, none⟩ = some (.int .u64 h3) := by
            rw [hb0.cell (by simp <;> omega)]
            first | assumption | (simp [go_sem]; done) | (simp [go_sem, *]; done)
          have c7 : w0.cell? ⟨w.heap.size + 2, 1, none⟩ = some (.int .u64 l3) := by
            rw [hb0.cell (by simp <;> omega)]
            first | assumption | (simp [go_sem]; done) | (simp [go_sem, *]; done)
          have c8 : w0.cell? ⟨w.heap.size + 2, 2, none⟩ = some (.int .i64 n3) := by
            rw [hb0.cell (by simp <;> omega)]
            first | assumption | (simp [go_sem]; done) | (simp [go_sem, *]; done)
          have z2 : w.heap.size + 2 < w0.heap.size := by
            have hs := hb0.size
            try simp only [World.size_alloc, World.size_setCell] at hs
            omega
          go_wp2_with fail
          have kg := cell_grow
          refine region_whole (by kernel_rfl) (by kernel_rfl) ?_
          repeat (any_goals (first | go_big_quiet_step ((go_at_call 18; (first | (with_reducible exact Gives.at K0.out _ _ _) | (with_reducible exact Gives.at K1.out _ _ _) | (with_reducible exact Gives.at K2.out _ _ _) | (with_reducible exact Gives.at K3.out _ _ _) | (with_reducible exact Gives.at K4.out _ _ _)))) | quiet_step ((go_at_call 18; (first | (with_reducible exact Gives.at K0.out _ _ _) | (with_reducible exact Gives.at K1.out _ _ _) | (with_reducible exact Gives.at K2.out _ _ _) | (with_reducible exact Gives.at K3.out _ _ _) | (with_reducible exact Gives.at K4.out _ _ _))))))
          refine wpQuiet_nil ?_
          clear kg
          intro w1 hb1
          obtain ⟨hc1, hf1⟩ := bcell hb1
          have hw1 : Below w.heap.size w w1 := by
            refine Below.trans ?_ (hb1.mono ?_)
            · go_grown
            · go_size
          have c0 : w1.cell? ⟨w.heap.size, 0, none⟩ = some (.int .u64 h1) := by
            rw [hb1.cell (by simp <;> omega)]
            first | assumption | (simp [go_sem]; done) | (simp [go_sem, *]; done)
          have c1 : w1.cell? ⟨w.heap.size, 1, none⟩ = some (.int .u64 l1) := by
            rw [hb1.cell (by simp <;> omega)]
            first | assumption | (simp [go_sem]; done) | (simp [go_sem, *]; done)
          have c2 : w1.cell? ⟨w.heap.size, 2, none⟩ = some (.int .i64 n1) := by
            rw [hb1.cell (by simp <;> omega)]
            first | assumption | (simp [go_sem]; done) | (simp [go_sem, *]; done)
          have c3 : w1.cell? ⟨w.heap.size + 1, 0, none⟩ = some (.int .u64 h2) := by
            rw [hb1.cell (by simp <;> omega)]
            first | assumption | (simp [go_sem]; done) | (simp [go_sem, *]; done)
          have c4 : w1.cell? ⟨w.heap.size + 1, 1, none⟩ = some (.int .u64 l2) := by
            rw [hb1.cell (by simp <;> omega)]
            first | assumption | (simp [go_sem]; done) | (simp [go_sem, *]; done)
          have c5 : w1.cell? ⟨w.heap.size + 1, 2, none⟩ = some (.int .i64 n2) := by
            rw [hb1.cell (by simp <;> omega)]
            first | assumption | (simp [go_sem]; done) | (simp [go_sem, *]; done)
          have z0 : w.heap.size < w1.heap.size := by
            have hs := hb1.size
            try simp only [World.size_alloc, World.size_setCell] at hs
            omega
          have z1 : w.heap.size + 1 < w1.heap.size := by
            have hs := hb1.size
            try simp only [World.size_alloc, World.size_setCell] at hs
            omega
          clear hc1 hf1
          go_wp2_with fail
          refine (K5.out _).mono ?_
          rintro e2 w2 ⟨rfl, hb2⟩
          have hw2 : Below w.heap.size w w2 := by
            refine Below.trans ?_ (hb2.mono ?_)
            · go_grown
            · go_size
          have c0 : w2.cell? ⟨w.heap.size, 0, none⟩ = some (.int .u64 h1) := by
            rw [hb2.cell (by simp <;> omega)]
            first | assumption | (simp [go_sem]; done) | (simp [go_sem, *]; done)
          have c1 : w2.cell? ⟨w.heap.size, 1, none⟩ = some (.int .u64 l1) := by
            rw [hb2.cell (by simp <;> omega)]
            first | assumption | (simp [go_sem]; done) | (simp [go_sem, *]; done)
          have c2 : w2.cell? ⟨w.heap.size, 2, none⟩ = some (.int .i64 n1) := by
            rw [hb2.cell (by simp <;> omega)]
            first | assumption | (simp [go_sem]; done) | (simp [go_sem, *]; done)
          have c3 : w2.cell? ⟨w.heap.size + 1, 0, none⟩ = some (.int .u64 h2) := by
            rw [hb2.cell (by simp <;> omega)]
            first | assumption | (simp [go_sem]; done) | (simp [go_sem, *]; done)
          have c4 : w2.cell? ⟨w.heap.size + 1, 1, none⟩ = some (.int .u64 l2) := by
            rw [hb2.cell (by simp <;> omega)]
            first | assumption | (simp [go_sem]; done) | (simp [go_sem, *]; done)
          have c5 : w2.cell? ⟨w.heap.size + 1, 2, none⟩ = some (.int .i64 n2) := by
            rw [hb2.cell (by simp <;> omega)]
            first | assumption | (simp [go_sem]; done) | (simp [go_sem, *]; done)
          have z0 : w.heap.size < w2.heap.size := by
            have hs := hb2.size
            try simp only [World.size_alloc, World.size_setCell] at hs
            omega
          have z1 : w.heap.size + 1 < w2.heap.size := by
            have hs := hb2.size
            try simp only [World.size_alloc, World.size_setCell] at hs
            omega
          go_wp2_with fail
          first
            | (go_ret
               exact ⟨rfl, by go_grown⟩)
            | (skip
               refine (K6.out _).mono ?_
               rintro e3 w3 ⟨rfl, hb3⟩
               have hw3 : Below w.heap.size w w3 := by
                 refine Below.trans ?_ (hb3.mono ?_)
                 · go_grown
                 · go_size
               have c0 : w3.cell? ⟨w.heap.size, 0, none⟩ = some (.int .u64 h1) := by
                 rw [hb3.cell (by simp <;> omega)]
                 first | assumption | (simp [go_sem]; done) | (simp [go_sem, *]; done)
               have c1 : w3.cell? ⟨w.heap.size, 1, none⟩ = some (.int .u64 l1) := by
                 rw [hb3.cell (by simp <;> omega)]
                 first | assumption | (simp [go_sem]; done) | (simp [go_sem, *]; done)
               have c2 : w3.cell? ⟨w.heap.size, 2, none⟩ = some (.int .i64 n1) := by
                 rw [hb3.cell (by simp <;> omega)]
                 first | assumption | (simp [go_sem]; done) | (simp [go_sem, *]; done)
               have c3 : w3.cell? ⟨w.heap.size + 1, 0, none⟩ = some (.int .u64 h2) := by
                 rw [hb3.cell (by simp <;> omega)]
                 first | assumption | (simp [go_sem]; done) | (simp [go_sem, *]; done)
               have c4 : w3.cell? ⟨w.heap.size + 1, 1, none⟩ = some (.int .u64 l2) := by
                 rw [hb3.cell (by simp <;> omega)]
                 first | assumption | (simp [go_sem]; done) | (simp [go_sem, *]; done)
               have c5 : w3.cell? ⟨w.heap.size + 1, 2, none⟩ = some (.int .i64 n2) := by
                 rw [hb3.cell (by simp <;> omega)]
                 first | assumption | (simp [go_sem]; done) | (simp [go_sem, *]; done)
               have z0 : w.heap.size < w3.heap.size := by
                 have hs := hb3.size
                 try simp only [World.size_alloc, World.size_setCell] at hs
                 omega
               have z1 : w.heap.size + 1 < w3.heap.size := by
                 have hs := hb3.size
                 try simp only [World.size_alloc, World.size_setCell] at hs
                 omega
               go_wp2_with fail
               first
                 | (go_ret
                    exact ⟨rfl, by go_grown⟩)
                 | (skip
                    refine (K1.out _).mono ?_
                    rintro e4 w4 ⟨rfl, hb4⟩
                    have hw4 : Below w.heap.size w w4 := by
                      refine Below.trans ?_ (hb4.mono ?_)
                      · go_grown
                      · go_size
                    go_wp2_with fail
                    go_ret
                    exact ⟨rfl, by go_grown⟩))
  · obtain rfl := t4' rfl
    clear t1' t2
    have t3 : ¬ (B5 = true ∧ n1 < n2) := fun ⟨x, y⟩ => Bool.false_ne_true (t3' x (by simpa using y))
    clear t3' t4'
    cases B5 <;> cases B6 <;> by_cases hn : n1 < n2
    all_goals first
      | (exfalso; exact t3 ⟨rfl, hn⟩)
      | skip
    all_goals
      go_enter Try.func5, Try.ntmps5
      go_wp2_with fail
      refine (alive1_any _).mono ?_
      rintro e0 w0 ⟨rfl, hb0⟩
      have hw0 : Below w.heap.size w w0 := by
        refine Below.trans ?_ (hb0.mono ?_)
        · go_grown
        · go_size
      have c0 : w0.cell? ⟨w.heap.size, 0, none⟩ = some (.int .u64 h1) := by
        rw [hb0.cell (by simp <;> omega)]
        first | assumption | (simp [go_sem]; done) | (simp [go_sem, *]; done)
      have c1 : w0.cell? ⟨w.heap.size, 1, none⟩ = some (.int .u64 l1) := by
        rw [hb0.cell (by simp <;> omega)]
        first | assumption | (simp [go_sem]; done) | (simp [go_sem, *]; done)
      have c2 : w0.cell? ⟨w.heap.size, 2, none⟩ = some (.int .i64 n1) := by
        rw [hb0.cell (by simp <;> omega)]
        first | assumption | (simp [go_sem]; done) | (simp [go_sem, *]; done)
      have c3 : w0.cell? ⟨w.heap.size + 1, 0, none⟩ = some (.int .u64 h2) := by
        rw [hb0.cell (by simp <;> omega)]
        first | assumption | (simp [go_sem]; done) | (simp [go_sem, *]; done)
      have c4 : w0.cell? ⟨w.heap.size + 1, 1, none⟩ = some (.int .u64 l2) := by
        rw [hb0.cell (by simp <;> omega)]
        first | assumption | (simp [go_sem]; done) | (simp [go_sem, *]; done)
      have c5 : w0.cell? ⟨w.heap.size + 1, 2, none⟩ = some (.int .i64 n2) := by
        rw [hb0.cell (by simp <;> omega)]
        first | assumption | (simp [go_sem]; done) | (simp [go_sem, *]; done)
      have z0 : w.heap.size < w0.heap.size := by
        have hs := hb0.size
        try simp only [World.size_alloc, World.size_setCell] at hs
        omega
      have z1 : w.heap.size + 1 < w0.heap.size := by
        have hs := hb0.size
        try simp only [World.size_alloc, World.size_setCell] at hs
        omega
      have c6 : w0.cell? ⟨w.heap.size + 2, 0, none⟩ = some (.int .u64 h3) := by
        rw [hb0.cell (by simp <;> omega)]
        first | assumption | (simp [go_sem]; done) | (simp [go_sem, *]; done)
      have c7 : w0.cell? ⟨w.heap.size + 2, 1, none⟩ = some (.int .u64 l3) := by
        rw [hb0.cell (by simp <;> omega)]
        first | assumption | (simp [go_sem]; done) | (simp [go_sem, *]; done)
      have c8 : w0.cell? ⟨w.heap.size + 2, 2, none⟩ = some (.int .i64 n3) := by
        rw [hb0.cell (by simp <;> omega)]
        first | assumption | (simp [go_sem]; done) | (simp [go_sem, *]; done)
      have z2 : w.heap.size + 2 < w0.heap.size := by
        have hs := hb0.size
        try simp only [World.size_alloc, World.size_setCell] at hs
        omega
      go_wp2_with fail
      have kg := cell_grow
      refine region_whole (by kernel_rfl) (by kernel_rfl) ?_
      repeat (any_goals (first | go_big_quiet_step ((go_at_call 18; (first | (with_reducible exact Gives.at K0.out _ _ _) | (with_reducible exact Gives.at K1.out _ _ _) | (with_reducible exact Gives.at K2.out _ _ _) | (with_reducible exact Gives.at K3.out _ _ _) | (with_reducible exact Gives.at K4.out _ _ _)))) | quiet_step ((go_at_call 18; (first | (with_reducible exact Gives.at K0.out _ _ _) | (with_reducible exact Gives.at K1.out _ _ _) | (with_reducible exact Gives.at K2.out _ _ _) | (with_reducible exact Gives.at K3.out _ _ _) | (with_reducible exact Gives.at K4.out _ _ _))))))
      refine wpQuiet_nil ?_
      clear kg
      intro w1 hb1
      obtain ⟨hc1, hf1⟩ := bcell hb1
      have hw1 : Below w.heap.size w w1 := by
        refine Below.trans ?_ (hb1.mono ?_)
        · go_grown
        · go_size
      have c0 : w1.cell? ⟨w.heap.size, 0, none⟩ = some (.int .u64 h1) := by
        rw [hb1.cell (by simp <;> omega)]
        first | assumption | (simp [go_sem]; done) | (simp [go_sem, *]; done)
      have c1 : w1.cell? ⟨w.heap.size, 1, none⟩ = some (.int .u64 l1) := by
        rw [hb1.cell (by simp <;> omega)]
        first | assumption | (simp [go_sem]; done) | (simp [go_sem, *]; done)
      have c2 : w1.cell? ⟨w.heap.size, 2, none⟩ = some (.int .i64 n1) := by
        rw [hb1.cell (by simp <;> omega)]
        first | assumption | (simp [go_sem]; done) | (simp [go_sem, *]; done)
      have c3 : w1.cell? ⟨w.heap.size + 1, 0, none⟩ = some (.int .u64 h2) := by
        rw [hb1.cell (by simp <;> omega)]
        first | assumption | (simp [go_sem]; done) | (simp [go_sem, *]; done)
      have c4 : w1.cell? ⟨w.heap.size + 1, 1, none⟩ = some (.int .u64 l2) := by
        rw [hb1.cell (by simp <;> omega)]
        first | assumption | (simp [go_sem]; done) | (simp [go_sem, *]; done)
      have c5 : w1.cell? ⟨w.heap.size + 1, 2, none⟩ = some (.int .i64 n2) := by
        rw [hb1.cell (by simp <;> omega)]
        first | assumption | (simp [go_sem]; done) | (simp [go_sem, *]; done)
      have z0 : w.heap.size < w1.heap.size := by
        have hs := hb1.size
        try simp only [World.size_alloc, World.size_setCell] at hs
        omega
      have z1 : w.heap.size + 1 < w1.heap.size := by
        have hs := hb1.size
        try simp only [World.size_alloc, World.size_setCell] at hs
        omega
      clear hc1 hf1
      go_wp2_with fail
      refine (K5.out _).mono ?_
      rintro e2 w2 ⟨rfl, hb2⟩
      have hw2 : Below w.heap.size w w2 := by
        refine Below.trans ?_ (hb2.mono ?_)
        · go_grown
        · go_size
      have c0 : w2.cell? ⟨w.heap.size, 0, none⟩ = some (.int .u64 h1) := by
        rw [hb2.cell (by simp <;> omega)]
        first | assumption | (simp [go_sem]; done) | (simp [go_sem, *]; done)
      have c1 : w2.cell? ⟨w.heap.size, 1, none⟩ = some (.int .u64 l1) := by
        rw [hb2.cell (by simp <;> omega)]
        first | assumption | (simp [go_sem]; done) | (simp [go_sem, *]; done)
      have c2 : w2.cell? ⟨w.heap.size, 2, none⟩ = some (.int .i64 n1) := by
        rw [hb2.cell (by simp <;> omega)]
        first | assumption | (simp [go_sem]; done) | (simp [go_sem, *]; done)
      have c3 : w2.cell? ⟨w.heap.size + 1, 0, none⟩ = some (.int .u64 h2) := by
        rw [hb2.cell (by simp <;> omega)]
        first | assumption | (simp [go_sem]; done) | (simp [go_sem, *]; done)
      have c4 : w2.cell? ⟨w.heap.size + 1, 1, none⟩ = some (.int .u64 l2) := by
        rw [hb2.cell (by simp <;> omega)]
        first | assumption | (simp [go_sem]; done) | (simp [go_sem, *]; done)
      have c5 : w2.cell? ⟨w.heap.size + 1, 2, none⟩ = some (.int .i64 n2) := by
        rw [hb2.cell (by simp <;> omega)]
        first | assumption | (simp [go_sem]; done) | (simp [go_sem, *]; done)
      have z0 : w.heap.size < w2.heap.size := by
        have hs := hb2.size
        try simp only [World.size_alloc, World.size_setCell] at hs
        omega
      have z1 : w.heap.size + 1 < w2.heap.size := by
        have hs := hb2.size
        try simp only [World.size_alloc, World.size_setCell] at hs
        omega
      go_wp2_with fail
      first
        | (go_ret
           exact ⟨rfl, by go_grown⟩)
        | (skip
           refine (K6.out _).mono ?_
           rintro e3 w3 ⟨rfl, hb3⟩
           have hw3 : Below w.heap.size w w3 := by
             refine Below.trans ?_ (hb3.mono ?_)
             · go_grown
             · go_size
           have c0 : w3.cell? ⟨w.heap.size, 0, none⟩ = some (.int .u64 h1) := by
             rw [hb3.cell (by simp <;> omega)]
             first | assumption | (simp [go_sem]; done) | (simp [go_sem, *]; done)
           have c1 : w3.cell? ⟨w.heap.size, 1, none⟩ = some (.int .u64 l1) := by
             rw [hb3.cell (by simp <;> omega)]
             first | assumption | (simp [go_sem]; done) | (simp [go_sem, *]; done)
           have c2 : w3.cell? ⟨w.heap.size, 2, none⟩ = some (.int .i64 n1) := by
             rw [hb3.cell (by simp <;> omega)]
             first | assumption | (simp [go_sem]; done) | (simp [go_sem, *]; done)
           have c3 : w3.cell? ⟨w.heap.size + 1, 0, none⟩ = some (.int .u64 h2) := by
             rw [hb3.cell (by simp <;> omega)]
             first | assumption | (simp [go_sem]; done) | (simp [go_sem, *]; done)
           have c4 : w3.cell? ⟨w.heap.size + 1, 1, none⟩ = some (.int .u64 l2) := by
             rw [hb3.cell (by simp <;> omega)]
             first | assumption | (simp [go_sem]; done) | (simp [go_sem, *]; done)
           have c5 : w3.cell? ⟨w.heap.size + 1, 2, none⟩ = some (.int .i64 n2) := by
             rw [hb3.cell (by simp <;> omega)]
             first | assumption | (simp [go_sem]; done) | (simp [go_sem, *]; done)
           have z0 : w.heap.size < w3.heap.size := by
             have hs := hb3.size
             try simp only [World.size_alloc, World.size_setCell] at hs
             omega
           have z1 : w.heap.size + 1 < w3.heap.size := by
             have hs := hb3.size
             try simp only [World.size_alloc, World.size_setCell] at hs
             omega
           go_wp2_with fail
           first
             | (go_ret
                exact ⟨rfl, by go_grown⟩)
             | (skip
                refine (K1.out _).mono ?_
                rintro e4 w4 ⟨rfl, hb4⟩
                have hw4 : Below w.heap.size w w4 := by
                  refine Below.trans ?_ (hb4.mono ?_)
                  · go_grown
                  · go_size
                go_wp2_with fail
                go_ret
                exact ⟨rfl, by go_grown⟩))
end Go.Proofs.Ytcdiomemhmjcjaa

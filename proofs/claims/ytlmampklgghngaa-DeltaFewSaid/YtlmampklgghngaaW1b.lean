/-
  What addr.Right, Has, Common and Less hand back, for every prefix and address. No condition but that the words are words of 64 bits.
-/
import Derived.Test.YtlmampklgghngaaW5
import Derived.Test.YtlmampklgghngaaShelf
set_option linter.unusedSimpArgs false
set_option linter.unusedVariables false
namespace Go.Proofs.Ytlmampklgghngaa
open Go.RowKit Go.Sort M

/-- Two addresses are held against each other word by word. -/
theorem eql_addr (a b c d : Nat) (w : World) : (binOp .eql 25 (.agg #[.int .u64 a, .int .u64 b]) (.agg #[.int .u64 c, .int .u64 d])).run Try.prog w = .ok (.bool (decide (a = c) && decide (b = d))) w := by
  have e1 : decide (a = c) = decide ((a : Int) = c) := by rw [decide_eq_decide]; omega
  have e2 : decide (b = d) = decide ((b : Int) = d) := by rw [decide_eq_decide]; omega
  rw [e1, e2]
  by_cases h1 : (a : Int) = c <;> by_cases h2 : (b : Int) = d <;> simp [go_sem, h1, h2]

set_option maxHeartbeats 400000 in
theorem right_any (hi lo : Nat) (n : Int) (ha : W64 hi) (hb : W64 lo) :
    Gives Try.prog 70 #[.agg #[.int .u64 hi, .int .u64 lo, .int .i64 n]] (.bool (rightB hi lo n)) := by
  intro w
  have ea := eql_addr
  by_cases h0 : 0 ≤ n
  · have d0 : decide (0 ≤ n) = true := by simpa using h0
    by_cases h1 : n ≤ 128
    · have d1 : decide (n ≤ 128) = true := by simpa using h1
      go_enter Try.func70, Try.ntmps70
      go_wp2_with fail
      have kg := cell_grow
      refine region_whole (by kernel_rfl) (by kernel_rfl) ?_
      repeat (any_goals (first | go_big_quiet_step ((go_at_call 72; exact Gives.at (cut_any hi lo n ha hb) _ _ _)) | quiet_step ((go_at_call 72; exact Gives.at (cut_any hi lo n ha hb) _ _ _))))
      refine wpQuiet_nil ?_
      clear kg
      intro w1 hb1
      obtain ⟨hc1, hf1⟩ := bcell hb1
      have hw1 : Below w.heap.size w w1 := by
        refine Below.trans ?_ (hb1.mono ?_)
        · go_grown
        · first | omega | go_size
      go_wp2
      go_ret
      refine ⟨ret_bool ?_, by go_grown⟩
      simp [rightB, h0, h1]
    · have d1 : decide (n ≤ 128) = false := by simpa using h1
      go_enter Try.func70, Try.ntmps70
      go_wp2_with fail
      have kg := cell_grow
      refine region_whole (by kernel_rfl) (by kernel_rfl) ?_
      repeat (any_goals (first | go_big_quiet_step (fail) | quiet_step (fail)))
      refine wpQuiet_nil ?_
      clear kg
      intro w1 hb1
      obtain ⟨hc1, hf1⟩ := bcell hb1
      have hw1 : Below w.heap.size w w1 := by
        refine Below.trans ?_ (hb1.mono ?_)
        · go_grown
        · first | omega | go_size
      go_wp2
      go_ret
      refine ⟨ret_bool ?_, by go_grown⟩
      unfold rightB
      rw [eq_comm, decide_eq_false_iff_not]
      omega
  · have d0 : decide (0 ≤ n) = false := by simpa using h0
    go_enter Try.func70, Try.ntmps70
    go_wp2_with fail
    have kg := cell_grow
    refine region_whole (by kernel_rfl) (by kernel_rfl) ?_
    repeat (any_goals (first | go_big_quiet_step (fail) | quiet_step (fail)))
    refine wpQuiet_nil ?_
    clear kg
    intro w1 hb1
    obtain ⟨hc1, hf1⟩ := bcell hb1
    have hw1 : Below w.heap.size w w1 := by
      refine Below.trans ?_ (hb1.mono ?_)
      · go_grown
      · first | omega | go_size
    go_wp2
    go_ret
    refine ⟨ret_bool ?_, by go_grown⟩
    unfold rightB
    rw [eq_comm, decide_eq_false_iff_not]
    omega

set_option maxHeartbeats 400000 in
theorem less_any (h1 l1 : Nat) (n1 : Int) (h2 l2 : Nat) (n2 : Int) :
    Gives Try.prog 34 #[.agg #[.int .u64 h1, .int .u64 l1, .int .i64 n1], .agg #[.int .u64 h2, .int .u64 l2, .int .i64 n2]] (.bool (lessB h1 l1 n1 h2 l2 n2)) := by
  intro w
  by_cases e1 : h1 = h2
  · by_cases e2 : l1 = l2
    · subst e1 e2
      go_enter Try.func34, Try.ntmps34
      go_wp2
      go_ret
      refine ⟨ret_bool ?_, by go_grown⟩
      simp [lessB]
    · subst e1
      go_enter Try.func34, Try.ntmps34
      go_wp2
      go_ret
      refine ⟨ret_bool ?_, by go_grown⟩
      simp [lessB, e2]
  · go_enter Try.func34, Try.ntmps34
    go_wp2
    go_ret
    refine ⟨ret_bool ?_, by go_grown⟩
    simp [lessB, e1]

set_option maxHeartbeats 400000 in
theorem common_any (h1 l1 h2 l2 : Nat) (ha : W64 h1) (hb : W64 l1) (hc : W64 h2) (hd : W64 l2) :
    Gives Try.prog 37 #[.agg #[.int .u64 h1, .int .u64 l1], .agg #[.int .u64 h2, .int .u64 l2]] (.int .i64 (commonN h1 l1 h2 l2)) := by
  intro w
  have hx : h1 ^^^ h2 < 2 ^ 64 := Nat.xor_lt_two_pow ha hc
  have hy : l1 ^^^ l2 < 2 ^ 64 := Nat.xor_lt_two_pow hb hd
  have b1 := bitLen_le (h1 ^^^ h2)
  have b2 := bitLen_le (l1 ^^^ l2)
  have x1 : bits .xor .u64 (h1 : Int) (h2 : Int) = ((h1 ^^^ h2 : Nat) : Int) := bits_xor_u64_nat _ _ ha.lt hc.lt
  have x2 : bits .xor .u64 (l1 : Int) (l2 : Int) = ((l1 ^^^ l2 : Nat) : Int) := bits_xor_u64_nat _ _ hb.lt hd.lt
  have c1 : ∀ w, Calls Try.prog 53 #[.int .u64 ((h1 ^^^ h2 : Nat) : Int)] w fun e w' => e = .returned (.int .i64 (64 - (Lib.bitLen (h1 ^^^ h2) : Int))) ∧ w = w' := fun w =>
    (Try.bits_LeadingZeros64 _ w (by omega) (by omega)).mono fun e w' ⟨he, hw⟩ => ⟨by rw [he, Int.toNat_natCast], hw.symm⟩
  have c2 : ∀ w, Calls Try.prog 53 #[.int .u64 ((l1 ^^^ l2 : Nat) : Int)] w fun e w' => e = .returned (.int .i64 (64 - (Lib.bitLen (l1 ^^^ l2) : Int))) ∧ w = w' := fun w =>
    (Try.bits_LeadingZeros64 _ w (by omega) (by omega)).mono fun e w' ⟨he, hw⟩ => ⟨by rw [he, Int.toNat_natCast], hw.symm⟩
  have C1 := Lib.hid c1
  have C2 := Lib.hid c2
  clear hx hy c1 c2
  by_cases e1 : h1 = h2
  · subst e1
    go_enter Try.func37, Try.ntmps37
    go_wp2_with (go_at_call 53; refine (C2.out _).mono ?_; rintro e w' ⟨rfl, rfl⟩)
    go_ret
    refine ⟨ret_num ?_, by go_grown⟩
    simp [commonN]
    omega
  · go_enter Try.func37, Try.ntmps37
    go_wp2_with (go_at_call 53; refine (C1.out _).mono ?_; rintro e w' ⟨rfl, rfl⟩)
    go_ret
    refine ⟨ret_num ?_, by go_grown⟩
    simp [commonN, e1]
    omega
end Go.Proofs.Ytlmampklgghngaa

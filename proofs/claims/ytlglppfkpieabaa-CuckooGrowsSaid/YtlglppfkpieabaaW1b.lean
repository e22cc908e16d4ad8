/-
  What addr.Right, Has, Common and Less hand back, for every prefix and address. No condition but that the words are words of 64 bits.
-/
import Derived.Test.YtlglppfkpieabaaW1
import Derived.Test.YtlglppfkpieabaaShelf
set_option linter.unusedSimpArgs false
set_option linter.unusedVariables false
namespace Go.Proofs.Ytlglppfkpieabaa
open Go.RowKit Go.Sort M

/-- Two addresses are held against each other word by word. -/
theorem eql_addr (a b c d : Nat) (w : World) : (binOp .eql 25 (.agg #[.int .u64 a, .int .u64 b]) (.agg #[.int .u64 c, .int .u64 d])).run Try.prog w = .ok (.bool (decide (a = c) && decide (b = d))) w := by
  have e1 : decide (a = c) = decide ((a : Int) = c) := by rw [decide_eq_decide]; omega
  have e2 : decide (b = d) = decide ((b : Int) = d) := by rw [decide_eq_decide]; omega
  rw [e1, e2]
  by_cases h1 : (a : Int) = c <;> by_cases h2 : (b : Int) = d <;> simp [go_sem, h1, h2]

set_option maxHeartbeats 400000 in
theorem less_any (h1 l1 : Nat) (n1 : Int) (h2 l2 : Nat) (n2 : Int) :
    Gives Try.prog 48 #[.agg #[.int .u64 h1, .int .u64 l1, .int .i64 n1], .agg #[.int .u64 h2, .int .u64 l2, .int .i64 n2]] (.bool (lessB h1 l1 n1 h2 l2 n2)) := by
  intro w
  by_cases e1 : h1 = h2
  · by_cases e2 : l1 = l2
    · subst e1 e2
      go_enter Try.func48, Try.ntmps48
      go_wp2
      go_ret
      refine ⟨ret_bool ?_, by go_grown⟩
      simp [lessB]
    · subst e1
      go_enter Try.func48, Try.ntmps48
      go_wp2
      go_ret
      refine ⟨ret_bool ?_, by go_grown⟩
      simp [lessB, e2]
  · go_enter Try.func48, Try.ntmps48
    go_wp2
    go_ret
    refine ⟨ret_bool ?_, by go_grown⟩
    simp [lessB, e1]

end Go.Proofs.Ytlglppfkpieabaa

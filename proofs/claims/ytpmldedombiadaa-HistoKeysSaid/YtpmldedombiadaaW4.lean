/-
  What package spread's raise and Count hand back. No condition but that the words are words of 64 bits.
-/
import Derived.Test.YtpmldedombiadaaW1b
import Derived.Test.YtpmldedombiadaaM4
set_option linter.unusedSimpArgs false
set_option linter.unusedVariables false
namespace Go.Proofs.Ytpmldedombiadaa
open Go.RowKit Go.Sort M

theorem wrap_mod (x : Nat) : IntKind.u64.wrap (x : Int) = ((x % 2 ^ 64 : Nat) : Int) := by
  rw [IntKind.wrap_u64]; omega
theorem wrap_shl (x : Nat) (i : Int) (j : Nat) (h : i.toNat = j) : IntKind.u64.wrap ((x : Int) * 2 ^ i.toNat) = ((x * 2 ^ j % 2 ^ 64 : Nat) : Int) := by
  have e : ((x : Int) * 2 ^ i.toNat) = ((x * 2 ^ j : Nat) : Int) := by rw [h, Int.natCast_mul, Int.natCast_pow]; rfl
  rw [e, wrap_mod]
theorem shr_nat (x : Nat) (i : Int) (j : Nat) (h : i.toNat = j) : ((x : Int) / 2 ^ i.toNat) = ((x / 2 ^ j : Nat) : Int) := by
  rw [h, Int.natCast_ediv, Int.natCast_pow]; rfl
def cntN (h l : Nat) (n m : Int) : Nat := if rightB h l n = true ∧ n ≤ m ∧ m ≤ 128 ∧ m - n ≤ 8 then 2 ^ (m - n).toNat else 0
theorem cnt_none {h l : Nat} {n m : Int} (hc : ¬ (rightB h l n = true ∧ n ≤ m ∧ m ≤ 128 ∧ m - n ≤ 8)) : cntN h l n m = 0 := if_neg hc
theorem cnt_some {h l : Nat} {n m : Int} (hc : rightB h l n = true ∧ n ≤ m ∧ m ≤ 128 ∧ m - n ≤ 8) : cntN h l n m = 2 ^ (m - n).toNat := if_pos hc
theorem cnt_le (h l : Nat) (n m : Int) : cntN h l n m ≤ 256 := by
  unfold cntN
  split
  · rename_i hc
    exact Nat.pow_le_pow_right (by decide) (by omega : (m - n).toNat ≤ 8)
  · omega
theorem shr256 (d : Nat) (h : 9 ≤ d) : ((256 : Int) / 2 ^ d) = 0 := by
  have : (256 : Nat) / 2 ^ d = 0 := Nat.div_eq_of_lt (Nat.lt_of_lt_of_le (by decide : 256 < 2 ^ 9) (Nat.pow_le_pow_right (by decide) h))
  have e : ((256 : Int) / 2 ^ d) = ((256 / 2 ^ d : Nat) : Int) := by rw [Int.natCast_ediv, Int.natCast_pow]; rfl
  rw [e, this]; rfl
theorem shr256_ne (d : Nat) (h : d ≤ 8) : ((256 : Int) / 2 ^ d == 0) = false := by
  rcases (show d = 0 ∨ d = 1 ∨ d = 2 ∨ d = 3 ∨ d = 4 ∨ d = 5 ∨ d = 6 ∨ d = 7 ∨ d = 8 by omega) with rfl | rfl | rfl | rfl | rfl | rfl | rfl | rfl | rfl <;> rfl
theorem shl_small (d : Nat) (h : d ≤ 8) : wrap64 (2 ^ d) = ((2 ^ d : Nat) : Int) := by
  rcases (show d = 0 ∨ d = 1 ∨ d = 2 ∨ d = 3 ∨ d = 4 ∨ d = 5 ∨ d = 6 ∨ d = 7 ∨ d = 8 by omega) with rfl | rfl | rfl | rfl | rfl | rfl | rfl | rfl | rfl <;> (unfold wrap64; decide +kernel)
end Go.Proofs.Ytpmldedombiadaa

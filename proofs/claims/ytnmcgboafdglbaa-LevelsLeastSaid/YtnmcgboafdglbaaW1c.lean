/-
  What the reference's answers on addresses hand back: the same as package addr's calls. No condition but that the words are words of 64 bits.
-/
import Derived.Test.YtnmcgboafdglbaaW1b
set_option linter.unusedSimpArgs false
set_option linter.unusedVariables false
namespace Go.Proofs.Ytnmcgboafdglbaa
open Go.RowKit Go.Sort M

theorem shl_one (k : Nat) (h : k < 64) : IntKind.u64.wrap (2 ^ k) = ((2 ^ k : Nat) : Int) := by
  have h1 : 2 ^ k < 2 ^ 64 := Nat.pow_lt_pow_right (by decide) h
  have e : (2 ^ k : Int) = ((2 ^ k : Nat) : Int) := by simp
  rw [e, IntKind.wrap_u64]
  generalize 2 ^ k = x at *
  omega
theorem or_shl (x k : Nat) (hx : W64 x) (h : k < 64) : bits BinOp.or IntKind.u64 (x : Int) (IntKind.u64.wrap (2 ^ k)) = ((x ||| 2 ^ k : Nat) : Int) := by
  rw [shl_one k h, bits_or_u64_nat _ _ hx.lt (Nat.pow_lt_pow_right (by decide) h : 2 ^ k < 2 ^ 64)]

set_option maxHeartbeats 400000 in
theorem cap_any (n lo hi : Int) (w : World) :
    Calls Try.prog 21 #[.int .i64 n, .int .i64 lo, .int .i64 hi] w fun e w' => e = .returned (.int .i64 (if n < lo then lo else if hi < n then hi else n)) ∧ w = w' := by
  by_cases h1 : n < lo
  · go_enter Try.func21, Try.ntmps21
    go_wp2
    go_ret
    exact ⟨ret_num (by simp [h1]), rfl⟩
  · by_cases h2 : hi < n
    · go_enter Try.func21, Try.ntmps21
      go_wp2
      go_ret
      exact ⟨ret_num (by simp [h1, h2]), rfl⟩
    · go_enter Try.func21, Try.ntmps21
      go_wp2
      go_ret
      exact ⟨ret_num (by simp [h1, h2]), rfl⟩

/-- An address with bit k turned on. -/
def onHi (hi k : Nat) : Nat := if k < 64 then hi ||| 2 ^ (63 - k) else hi
def onLo (lo k : Nat) : Nat := if k < 64 then lo else lo ||| 2 ^ (127 - k)

theorem on_cut (hi lo k : Nat) (hb : W64 lo) (h : k < 128) (hbit : bitN hi lo k = true) : onHi (cutW hi k) k = cutW hi (k + 1) ∧ onLo (cutW lo (k - 64)) k = cutW lo (k + 1 - 64) := by
  unfold bitN at hbit
  unfold onHi onLo
  by_cases h1 : k < 64
  · rw [if_pos h1] at hbit
    rw [if_pos h1, if_pos h1, cutW_succ hi k h1, if_pos hbit, show k - 64 = 0 by omega, show k + 1 - 64 = 0 by omega]
    exact ⟨rfl, rfl⟩
  · rw [if_neg h1, if_pos h] at hbit
    rw [if_neg h1, if_neg h1, cutW_full hi k (by omega), cutW_full hi (k + 1) (by omega), show k + 1 - 64 = (k - 64) + 1 by omega, cutW_succ lo (k - 64) (by omega), show 63 - (k - 64) = 127 - k by omega, if_pos hbit]
    exact ⟨rfl, rfl⟩
theorem off_cut (hi lo k : Nat) (h : k < 128) (hbit : bitN hi lo k = false) : cutW hi k = cutW hi (k + 1) ∧ cutW lo (k - 64) = cutW lo (k + 1 - 64) := by
  unfold bitN at hbit
  by_cases h1 : k < 64
  · rw [if_pos h1] at hbit
    rw [cutW_succ hi k h1, hbit, show k - 64 = 0 by omega, show k + 1 - 64 = 0 by omega]
    exact ⟨rfl, rfl⟩
  · rw [if_neg h1, if_pos h] at hbit
    rw [cutW_full hi k (by omega), cutW_full hi (k + 1) (by omega), show k + 1 - 64 = (k - 64) + 1 by omega, cutW_succ lo (k - 64) (by omega), show 63 - (k - 64) = 127 - k by omega, hbit]
    exact ⟨rfl, rfl⟩
theorem cutW_w64 (x n : Nat) (h : W64 x) : W64 (cutW x n) := Nat.lt_of_le_of_lt (cutW_le x n) h
theorem cutW_cap (x n : Nat) : cutW x (min n 128) = cutW x n ∧ cutW x (min n 128 - 64) = cutW x (n - 64) := by
  unfold cutW
  rw [show 64 - min n 128 = 64 - n by omega, show 64 - (min n 128 - 64) = 64 - (n - 64) by omega]
  exact ⟨rfl, rfl⟩

end Go.Proofs.Ytnmcgboafdglbaa

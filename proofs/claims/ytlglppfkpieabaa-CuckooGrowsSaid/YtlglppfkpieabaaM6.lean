/-
  Plain mathematics: the high word of a product, by halves; that it is below the second factor, and grows with the first; where numbers as far apart as may be lie, and how many lie in one place. No condition but those that stand in each.
-/
import Derived.Test.YtlglppfkpieabaaM5
set_option linter.unusedSimpArgs false
set_option linter.unusedVariables false
namespace Go.Proofs.Ytlglppfkpieabaa.M

/-- The high word of the product of x and m. -/
def redN (x m : Nat) : Nat := x * m / 2 ^ 64
theorem redN_zero (m : Nat) : redN 0 m = 0 := by unfold redN; simp
theorem redN_lt (x m : Nat) (hx : W64 x) (hm : 0 < m) : redN x m < m := by
  unfold redN
  rw [Nat.div_lt_iff_lt_mul (by decide), Nat.mul_comm m]
  exact Nat.mul_lt_mul_of_pos_right hx hm
theorem redN_mono (x y m : Nat) (h : x ≤ y) : redN x m ≤ redN y m := Nat.div_le_div_right (Nat.mul_le_mul_right m h)
theorem redN_last (m : Nat) (h0 : 0 < m) (h1 : m ≤ 2 ^ 64) : redN (2 ^ 64 - 1) m = m - 1 := by
  unfold redN
  rw [Nat.sub_mul, Nat.one_mul]
  omega
/-- .. by halves. -/
theorem redN_halves (x m : Nat) :
    redN x m = x / 2 ^ 32 * (m / 2 ^ 32) + (x / 2 ^ 32 * (m % 2 ^ 32) + x % 2 ^ 32 * (m % 2 ^ 32) / 2 ^ 32) / 2 ^ 32 + (x % 2 ^ 32 * (m / 2 ^ 32) + (x / 2 ^ 32 * (m % 2 ^ 32) + x % 2 ^ 32 * (m % 2 ^ 32) / 2 ^ 32) % 2 ^ 32) / 2 ^ 32 := by
  unfold redN
  have e : x * m = x / 2 ^ 32 * (m / 2 ^ 32) * 2 ^ 64 + x / 2 ^ 32 * (m % 2 ^ 32) * 2 ^ 32 + x % 2 ^ 32 * (m / 2 ^ 32) * 2 ^ 32 + x % 2 ^ 32 * (m % 2 ^ 32) := by
    have h1 : x = x / 2 ^ 32 * 2 ^ 32 + x % 2 ^ 32 := by omega
    have h2 : m = m / 2 ^ 32 * 2 ^ 32 + m % 2 ^ 32 := by omega
    generalize x / 2 ^ 32 = a at h1 ⊢
    generalize x % 2 ^ 32 = b at h1 ⊢
    generalize m / 2 ^ 32 = c at h2 ⊢
    generalize m % 2 ^ 32 = d at h2 ⊢
    rw [h1, h2, Nat.add_mul, Nat.mul_add, Nat.mul_add, show (2 : Nat) ^ 64 = 2 ^ 32 * 2 ^ 32 from by decide]
    generalize (2 : Nat) ^ 32 = k
    rw [show a * k * (c * k) = a * c * (k * k) by rw [Nat.mul_mul_mul_comm], show a * k * d = a * d * k by rw [Nat.mul_right_comm], show b * (c * k) = b * c * k by rw [Nat.mul_assoc]]
    omega
  rw [e]
  generalize x / 2 ^ 32 * (m / 2 ^ 32) = p
  generalize x / 2 ^ 32 * (m % 2 ^ 32) = q
  generalize x % 2 ^ 32 * (m / 2 ^ 32) = r
  generalize x % 2 ^ 32 * (m % 2 ^ 32) = s
  omega
theorem half_mul (a b : Nat) (ha : a < 2 ^ 32) (hb : b < 2 ^ 32) : a * b ≤ 18446744065119617025 := Nat.mul_le_mul (Nat.le_sub_one_of_lt ha) (Nat.le_sub_one_of_lt hb)

/-- m * k numbers, as far apart as may be: in which place number i lies. -/
theorem place_eq (m k i : Nat) (hm0 : 1 ≤ m) (hm : m ≤ 60) (hk0 : 1 ≤ k) (hk : k ≤ 20) (hi0 : 1 ≤ i) (hi : i < m * k) :
    redN (i * ((2 ^ 64 - 1) / (m * k))) m = (i - 1) / k := by
  have hn1 : m * k ≤ 1200 := Nat.mul_le_mul hm hk
  have hn0 : 0 < m * k := Nat.mul_pos hm0 hk0
  have hq : (i - 1) / k < m := by rw [Nat.div_lt_iff_lt_mul hk0]; omega
  have hi2 : i = (i - 1) / k * k + (i - 1) % k + 1 := by have := Nat.div_add_mod' (i - 1) k; omega
  have hr : (i - 1) % k < k := Nat.mod_lt _ hk0
  have hs := Nat.div_add_mod (2 ^ 64 - 1) (m * k)
  have hs2 := Nat.mod_lt (2 ^ 64 - 1) hn0
  generalize (2 ^ 64 - 1) / (m * k) = s at hs ⊢
  generalize (2 ^ 64 - 1) % (m * k) = e at hs hs2
  generalize (i - 1) / k = q at hq hi2 ⊢
  generalize (i - 1) % k = r at hr hi2
  unfold redN
  rw [Nat.mul_assoc]
  have hT : k * (s * m) + e = 2 ^ 64 - 1 := by rw [← hs, Nat.mul_comm m k, Nat.mul_assoc, Nat.mul_comm m s]
  generalize s * m = T at hT ⊢
  have e1 : i * T = q * (k * T) + (r + 1) * T := by rw [hi2, Nat.add_assoc, Nat.add_mul, Nat.mul_assoc]
  have h1 : (r + 1) * T ≤ k * T := Nat.mul_le_mul_right T hr
  have h2 : T ≤ (r + 1) * T := by rw [Nat.add_mul]; omega
  have h3 : k * T ≤ 20 * T := Nat.mul_le_mul_right T hk
  have h4 : q * (k * T) + q * (e + 1) = q * 2 ^ 64 := by rw [← Nat.mul_add]; congr 1; omega
  have h5 : q * (e + 1) ≤ 60 * 1200 := Nat.mul_le_mul (by omega) (by omega)
  rw [e1]
  generalize (r + 1) * T = u at h1 h2 ⊢
  generalize q * (e + 1) = v at h4 h5
  generalize k * T = z at hT h1 h3 h4 ⊢
  generalize q * z = y at h4 ⊢
  omega

/-- How many of the first i numbers lie in place j. -/
def cntN (k j i : Nat) : Nat := (if j = 0 ∧ 0 < i then 1 else 0) + min k (i - 1 - j * k)
theorem cntN_start (k j : Nat) : cntN k j 0 = 0 := by unfold cntN; simp
theorem cntN_zero (k j : Nat) : cntN k j 1 = if j = 0 then 1 else 0 := by unfold cntN; simp
theorem cntN_step (k j i : Nat) (hk : 0 < k) (hi : 1 ≤ i) : cntN k j (i + 1) = cntN k j i + if j = (i - 1) / k then 1 else 0 := by
  unfold cntN
  have h0 : (if j = 0 ∧ 0 < i + 1 then 1 else 0) = if j = 0 ∧ 0 < i then 1 else 0 := by simp [hi, show 0 < i from hi]
  rw [h0]
  have hd := Nat.div_add_mod' (i - 1) k
  have hr := Nat.mod_lt (i - 1) hk
  generalize (i - 1) / k = q at hd ⊢
  generalize (i - 1) % k = r at hd hr
  by_cases h : j = q
  · subst h
    rw [if_pos rfl]
    omega
  · rw [if_neg h]
    rcases Nat.lt_or_gt_of_ne h with h | h
    · have : (j + 1) * k ≤ q * k := Nat.mul_le_mul_right k h
      rw [Nat.add_mul, Nat.one_mul] at this
      omega
    · have : (q + 1) * k ≤ j * k := Nat.mul_le_mul_right k h
      rw [Nat.add_mul, Nat.one_mul] at this
      omega
theorem cntN_end (m k j : Nat) (hj : j < m) (hk : 0 < k) : k - 1 ≤ cntN k j (m * k) ∧ cntN k j (m * k) ≤ k + 1 := by
  unfold cntN
  have : (j + 1) * k ≤ m * k := Nat.mul_le_mul_right k hj
  rw [Nat.add_mul, Nat.one_mul] at this
  split <;> omega
end Go.Proofs.Ytlglppfkpieabaa.M

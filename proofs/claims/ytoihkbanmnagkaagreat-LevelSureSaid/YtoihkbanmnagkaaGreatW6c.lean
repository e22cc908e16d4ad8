/-
  What the reference's row of places hands back: a new row of numbers. No condition but that the words are words of 64 bits, and that the count of places is a whole number of 64 bits.
-/
import Derived.Test.YtoihkbanmnagkaaGreatOwn
import Derived.Test.YtoihkbanmnagkaaGreatM5
import Derived.Test.YtoihkbanmnagkaaGreatRow
import Derived.Laws.Bits64b
import Derived.Shelf.Bits.Mul64
import Derived.Test.YtoihkbanmnagkaaGreatProg
/-
  What package mixer, and the reference's answers to it, hand back, for every number, seed and prefix. No condition on the number that is mixed; that the words of a prefix are words of 64 bits.
-/
set_option linter.unusedSimpArgs false
set_option linter.unusedVariables false
namespace Go.Proofs.YtoihkbanmnagkaaGreat
open Go.RowKit Go.Sort M

/-- A whole number as a word of 64 bits. -/
def wordZ (n : Int) : Nat := (n % 18446744073709551616).toNat
theorem wordZ_w (n : Int) : W64 (wordZ n) := W64.mk (by unfold wordZ; omega)
theorem wordZ_nat (x : Nat) (h : W64 x) : wordZ (x : Int) = x := by
  have := h.lt
  unfold wordZ
  omega
theorem wrap_word (n : Int) : IntKind.u64.wrap n = (wordZ n : Int) := by
  rw [IntKind.wrap_u64]
  unfold wordZ
  omega
/-- What is mixed of a word, as the walks write it. -/
def mixZ (x : Int) : Int := (mixN (wordZ x) : Nat)
theorem mixZ_nat (x : Nat) (h : W64 x) : mixZ (x : Int) = (mixN x : Nat) := by unfold mixZ; rw [wordZ_nat x h]
theorem add_word (x : Int) : IntKind.u64.wrap (x + 11400714819323198485) = (addW 11400714819323198485 (wordZ x) : Nat) := by
  rw [IntKind.wrap_u64]
  unfold addW wordZ
  omega
theorem mul_word (c x : Nat) : IntKind.u64.wrap ((x : Int) * (c : Int)) = (mulW c x : Nat) := by
  rw [IntKind.wrap_u64, ← Int.natCast_mul]
  unfold mulW
  omega
theorem xsh_word (x s : Nat) (h : W64 x) : bits BinOp.xor IntKind.u64 (x : Int) ((x : Int) / (2 ^ s : Nat)) = (xsh s x : Nat) := by
  rw [← Int.natCast_ediv, bits_xor_u64_nat _ _ h.lt (Nat.lt_of_le_of_lt (Nat.div_le_self _ _) h.lt)]
  rfl
theorem mix_eq (x : Int) :
    bits BinOp.xor IntKind.u64 (IntKind.u64.wrap (bits BinOp.xor IntKind.u64 (IntKind.u64.wrap (bits BinOp.xor IntKind.u64 (IntKind.u64.wrap (x + 11400714819323198485)) (IntKind.u64.wrap (x + 11400714819323198485) / 1073741824) * 13787848793156543929)) (IntKind.u64.wrap (bits BinOp.xor IntKind.u64 (IntKind.u64.wrap (x + 11400714819323198485)) (IntKind.u64.wrap (x + 11400714819323198485) / 1073741824) * 13787848793156543929) / 134217728) * 10723151780598845931))
      (IntKind.u64.wrap (bits BinOp.xor IntKind.u64 (IntKind.u64.wrap (bits BinOp.xor IntKind.u64 (IntKind.u64.wrap (x + 11400714819323198485)) (IntKind.u64.wrap (x + 11400714819323198485) / 1073741824) * 13787848793156543929)) (IntKind.u64.wrap (bits BinOp.xor IntKind.u64 (IntKind.u64.wrap (x + 11400714819323198485)) (IntKind.u64.wrap (x + 11400714819323198485) / 1073741824) * 13787848793156543929) / 134217728) * 10723151780598845931) / 2147483648) = mixZ x := by
  have e1 := add_word x
  have w1 := addW_w 11400714819323198485 (wordZ x)
  have e2 := xsh_word _ 30 w1
  have w2 := xsh_w 30 _ w1
  have e3 := mul_word 13787848793156543929 (xsh 30 (addW 11400714819323198485 (wordZ x)))
  have w3 := mulW_w 13787848793156543929 (xsh 30 (addW 11400714819323198485 (wordZ x)))
  have e4 := xsh_word _ 27 w3
  have e5 := mul_word 10723151780598845931 (xsh 27 (mulW 13787848793156543929 (xsh 30 (addW 11400714819323198485 (wordZ x)))))
  have w5 := mulW_w 10723151780598845931 (xsh 27 (mulW 13787848793156543929 (xsh 30 (addW 11400714819323198485 (wordZ x)))))
  have e6 := xsh_word _ 31 w5
  simp only [Nat.reducePow, Int.cast_ofNat_Int] at e2 e3 e4 e5 e6
  rw [e1, e2, e3, e4, e5, e6]
  rfl

set_option maxHeartbeats 400000 in
theorem mix_any (x : Int) : Gives Tryz.prog 24 #[.int .u64 x] (.int .u64 (mixZ x)) := by
  intro w
  go_enter Tryz.func24, Tryz.ntmps24
  go_wp2
  go_ret
  exact ⟨ret_num (mix_eq x), by go_grown⟩
set_option maxHeartbeats 400000 in
theorem rmix_any (x : Int) : Gives Tryz.prog 27 #[.int .u64 x] (.int .u64 (mixZ x)) := by
  intro w
  go_enter Tryz.func27, Tryz.ntmps27
  go_wp2
  go_ret
  exact ⟨ret_num (mix_eq x), by go_grown⟩

theorem xor_word (x y : Nat) (h : W64 x) (h2 : W64 y) : bits BinOp.xor IntKind.u64 (x : Int) (y : Int) = (x ^^^ y : Nat) := bits_xor_u64_nat _ _ h.lt h2.lt
theorem hash_eq (s h l : Nat) (n : Int) (hs : W64 s) (hh : W64 h) (hl : W64 l) :
    mixZ (bits BinOp.xor IntKind.u64 (mixZ (bits BinOp.xor IntKind.u64 (mixZ (bits BinOp.xor IntKind.u64 (s : Int) (h : Int))) (l : Int))) (IntKind.u64.wrap n)) = (hashN s h l (wordZ n) : Nat) := by
  rw [xor_word s h hs hh, mixZ_nat _ (Nat.xor_lt_two_pow hs hh), xor_word _ l (mixN_w _) hl, mixZ_nat _ (Nat.xor_lt_two_pow (mixN_w _) hl), wrap_word, xor_word _ _ (mixN_w _) (wordZ_w n), mixZ_nat _ (Nat.xor_lt_two_pow (mixN_w _) (wordZ_w n))]
  rfl
set_option maxHeartbeats 400000 in
theorem hash_any (s h l : Nat) (n : Int) (hs : W64 s) (hh : W64 h) (hl : W64 l) :
    Gives Tryz.prog 107 #[.int .u64 s, .agg #[.int .u64 h, .int .u64 l, .int .i64 n]] (.int .u64 (hashN s h l (wordZ n))) := by
  intro w
  have he := Lib.hid (hash_eq s h l n hs hh hl)
  go_enter Tryz.func107, Tryz.ntmps107
  go_wp2_with fail
  have kg := cell_grow
  refine region_whole (by kernel_rfl) (by kernel_rfl) ?_
  repeat (any_goals (first | go_big_quiet_step (first | (go_at_call 24; exact Gives.at (mix_any _) _ _ _)) | quiet_step (first | (go_at_call 24; exact Gives.at (mix_any _) _ _ _))))
  refine wpQuiet_nil ?_
  clear kg
  intro w1 hb1
  obtain ⟨hc1, hf1⟩ := bcell hb1
  have hw1 : Below w.heap.size w w1 := by
    refine Below.trans ?_ (hb1.mono ?_)
    · go_grown
    · first | omega | go_size
  go_wp2
  go_ret
  exact ⟨ret_num he.out, by go_grown⟩
set_option maxHeartbeats 400000 in
theorem rhash_any (s h l : Nat) (n : Int) (hs : W64 s) (hh : W64 h) (hl : W64 l) :
    Gives Tryz.prog 83 #[.int .u64 s, .agg #[.int .u64 h, .int .u64 l, .int .i64 n]] (.int .u64 (hashN s h l (wordZ n))) := by
  intro w
  have he := Lib.hid (hash_eq s h l n hs hh hl)
  go_enter Tryz.func83, Tryz.ntmps83
  go_wp2_with fail
  have kg := cell_grow
  refine region_whole (by kernel_rfl) (by kernel_rfl) ?_
  repeat (any_goals (first | go_big_quiet_step (first | (go_at_call 27; exact Gives.at (rmix_any _) _ _ _)) | quiet_step (first | (go_at_call 27; exact Gives.at (rmix_any _) _ _ _))))
  refine wpQuiet_nil ?_
  clear kg
  intro w1 hb1
  obtain ⟨hc1, hf1⟩ := bcell hb1
  have hw1 : Below w.heap.size w w1 := by
    refine Below.trans ?_ (hb1.mono ?_)
    · go_grown
    · first | omega | go_size
  go_wp2
  go_ret
  exact ⟨ret_num he.out, by go_grown⟩
end Go.Proofs.YtoihkbanmnagkaaGreat
/-
  Plain mathematics: the high word of a product, by halves; that it is below the second factor, and grows with the first; where numbers as far apart as may be lie, and how many lie in one place. No condition but those that stand in each.
-/
set_option linter.unusedSimpArgs false
set_option linter.unusedVariables false
namespace Go.Proofs.YtoihkbanmnagkaaGreat.M

/-- The high word of the product of x and m. -/
def redN (x m : Nat) : Nat := x * m / 2 ^ 64
theorem redN_zero (m : Nat) : redN 0 m = 0 := by unfold redN; simp
theorem redN_lt (x m : Nat) (hx : W64 x) (hm : 0 < m) : redN x m < m := by
  unfold redN
  rw [Nat.div_lt_iff_lt_mul (by decide), Nat.mul_comm m]
  exact Nat.mul_lt_mul_of_pos_right hx hm
theorem redN_mono (x y m : Nat) (h : x ≤ y) : redN x m ≤ redN y m := Nat.div_le_div_right (Nat.mul_le_mul_right m h)
theorem redN_last (m : Nat) (h0 : 0 < m) (h1 : m ≤ 2 ^ 64) : redN (2 ^ 64 - 1) m = m - 1 := by
  unfold redN
  rw [Nat.sub_mul, Nat.one_mul]
  omega
/-- .. by halves. -/
theorem redN_halves (x m : Nat) :
    redN x m = x / 2 ^ 32 * (m / 2 ^ 32) + (x / 2 ^ 32 * (m % 2 ^ 32) + x % 2 ^ 32 * (m % 2 ^ 32) / 2 ^ 32) / 2 ^ 32 + (x % 2 ^ 32 * (m / 2 ^ 32) + (x / 2 ^ 32 * (m % 2 ^ 32) + x % 2 ^ 32 * (m % 2 ^ 32) / 2 ^ 32) % 2 ^ 32) / 2 ^ 32 := by
  unfold redN
  have e : x * m = x / 2 ^ 32 * (m / 2 ^ 32) * 2 ^ 64 + x / 2 ^ 32 * (m % 2 ^ 32) * 2 ^ 32 + x % 2 ^ 32 * (m / 2 ^ 32) * 2 ^ 32 + x % 2 ^ 32 * (m % 2 ^ 32) := by
    have h1 : x = x / 2 ^ 32 * 2 ^ 32 + x % 2 ^ 32 := by omega
    have h2 : m = m / 2 ^ 32 * 2 ^ 32 + m % 2 ^ 32 := by omega
    generalize x / 2 ^ 32 = a at h1 ⊢
    generalize x % 2 ^ 32 = b at h1 ⊢
    generalize m / 2 ^ 32 = c at h2 ⊢
    generalize m % 2 ^ 32 = d at h2 ⊢
    rw [h1, h2, Nat.add_mul, Nat.mul_add, Nat.mul_add, show (2 : Nat) ^ 64 = 2 ^ 32 * 2 ^ 32 from by decide]
    generalize (2 : Nat) ^ 32 = k
    rw [show a * k * (c * k) = a * c * (k * k) by rw [Nat.mul_mul_mul_comm], show a * k * d = a * d * k by rw [Nat.mul_right_comm], show b * (c * k) = b * c * k by rw [Nat.mul_assoc]]
    omega
  rw [e]
  generalize x / 2 ^ 32 * (m / 2 ^ 32) = p
  generalize x / 2 ^ 32 * (m % 2 ^ 32) = q
  generalize x % 2 ^ 32 * (m / 2 ^ 32) = r
  generalize x % 2 ^ 32 * (m % 2 ^ 32) = s
  omega
theorem half_mul (a b : Nat) (ha : a < 2 ^ 32) (hb : b < 2 ^ 32) : a * b ≤ 18446744065119617025 := Nat.mul_le_mul (Nat.le_sub_one_of_lt ha) (Nat.le_sub_one_of_lt hb)

/-- m * k numbers, as far apart as may be: in which place number i lies. -/
theorem place_eq (m k i : Nat) (hm0 : 1 ≤ m) (hm : m ≤ 60) (hk0 : 1 ≤ k) (hk : k ≤ 20) (hi0 : 1 ≤ i) (hi : i < m * k) :
    redN (i * ((2 ^ 64 - 1) / (m * k))) m = (i - 1) / k := by
  have hn1 : m * k ≤ 1200 := Nat.mul_le_mul hm hk
  have hn0 : 0 < m * k := Nat.mul_pos hm0 hk0
  have hq : (i - 1) / k < m := by rw [Nat.div_lt_iff_lt_mul hk0]; omega
  have hi2 : i = (i - 1) / k * k + (i - 1) % k + 1 := by have := Nat.div_add_mod' (i - 1) k; omega
  have hr : (i - 1) % k < k := Nat.mod_lt _ hk0
  have hs := Nat.div_add_mod (2 ^ 64 - 1) (m * k)
  have hs2 := Nat.mod_lt (2 ^ 64 - 1) hn0
  generalize (2 ^ 64 - 1) / (m * k) = s at hs ⊢
  generalize (2 ^ 64 - 1) % (m * k) = e at hs hs2
  generalize (i - 1) / k = q at hq hi2 ⊢
  generalize (i - 1) % k = r at hr hi2
  unfold redN
  rw [Nat.mul_assoc]
  have hT : k * (s * m) + e = 2 ^ 64 - 1 := by rw [← hs, Nat.mul_comm m k, Nat.mul_assoc, Nat.mul_comm m s]
  generalize s * m = T at hT ⊢
  have e1 : i * T = q * (k * T) + (r + 1) * T := by rw [hi2, Nat.add_assoc, Nat.add_mul, Nat.mul_assoc]
  have h1 : (r + 1) * T ≤ k * T := Nat.mul_le_mul_right T hr
  have h2 : T ≤ (r + 1) * T := by rw [Nat.add_mul]; omega
  have h3 : k * T ≤ 20 * T := Nat.mul_le_mul_right T hk
  have h4 : q * (k * T) + q * (e + 1) = q * 2 ^ 64 := by rw [← Nat.mul_add]; congr 1; omega
  have h5 : q * (e + 1) ≤ 60 * 1200 := Nat.mul_le_mul (by omega) (by omega)
  rw [e1]
  generalize (r + 1) * T = u at h1 h2 ⊢
  generalize q * (e + 1) = v at h4 h5
  generalize k * T = z at hT h1 h3 h4 ⊢
  generalize q * z = y at h4 ⊢
  omega

/-- How many of the first i numbers lie in place j. -/
def cntN6 (k j i : Nat) : Nat := (if j = 0 ∧ 0 < i then 1 else 0) + min k (i - 1 - j * k)
theorem cntN_start (k j : Nat) : cntN6 k j 0 = 0 := by unfold cntN6; simp
theorem cntN_zero (k j : Nat) : cntN6 k j 1 = if j = 0 then 1 else 0 := by unfold cntN6; simp
theorem cntN_step (k j i : Nat) (hk : 0 < k) (hi : 1 ≤ i) : cntN6 k j (i + 1) = cntN6 k j i + if j = (i - 1) / k then 1 else 0 := by
  unfold cntN6
  have h0 : (if j = 0 ∧ 0 < i + 1 then 1 else 0) = if j = 0 ∧ 0 < i then 1 else 0 := by simp [hi, show 0 < i from hi]
  rw [h0]
  have hd := Nat.div_add_mod' (i - 1) k
  have hr := Nat.mod_lt (i - 1) hk
  generalize (i - 1) / k = q at hd ⊢
  generalize (i - 1) % k = r at hd hr
  by_cases h : j = q
  · subst h
    rw [if_pos rfl]
    omega
  · rw [if_neg h]
    rcases Nat.lt_or_gt_of_ne h with h | h
    · have : (j + 1) * k ≤ q * k := Nat.mul_le_mul_right k h
      rw [Nat.add_mul, Nat.one_mul] at this
      omega
    · have : (q + 1) * k ≤ j * k := Nat.mul_le_mul_right k h
      rw [Nat.add_mul, Nat.one_mul] at this
      omega
theorem cntN_end (m k j : Nat) (hj : j < m) (hk : 0 < k) : k - 1 ≤ cntN6 k j (m * k) ∧ cntN6 k j (m * k) ≤ k + 1 := by
  unfold cntN6
  have : (j + 1) * k ≤ m * k := Nat.mul_le_mul_right k hj
  rw [Nat.add_mul, Nat.one_mul] at this
  split <;> omega
end Go.Proofs.YtoihkbanmnagkaaGreat.M
/-
  What the reference's answers of chapter 6 hand back: the place of a number, the two buckets of a prefix, the row of its places. No condition but that the words are words of 64 bits, and that the count of places is a whole number of 64 bits.
-/
set_option linter.unusedSimpArgs false
set_option linter.unusedVariables false
namespace Go.Proofs.YtoihkbanmnagkaaGreat
open Go.RowKit Go.Sort M

/-- The place of a number, of m places. -/
def redI (x : Nat) (m : Int) : Int := if m < 1 then 0 else (redN x m.toNat : Nat)
theorem redI_none {x : Nat} {m : Int} (h : m < 1) : redI x m = 0 := if_pos h
theorem redI_nat (x m : Nat) (h : 0 < m) : redI x (m : Int) = (redN x m : Nat) := by
  unfold redI
  rw [if_neg (by omega), Int.toNat_natCast]
theorem redI_nonneg (x : Nat) (m : Int) : 0 ≤ redI x m := by
  unfold redI
  split <;> omega
theorem redI_lt {x : Nat} {m : Int} (hx : W64 x) (h : 1 ≤ m) : redI x m < m := by
  obtain ⟨k, rfl⟩ := Int.eq_ofNat_of_zero_le (show 0 ≤ m by omega)
  rw [redI_nat x k (by omega)]
  have := redN_lt x k hx (by omega)
  omega

theorem mask32 (a : Nat) (h : W64 a) : bits BinOp.and IntKind.u64 (a : Int) 4294967295 = ((a % 4294967296 : Nat) : Int) := by
  have h := bits_and_u64_nat a 4294967295 h.lt (by omega)
  have e : a &&& 4294967295 = a % 4294967296 := Nat.and_two_pow_sub_one_eq_mod a 32
  rw [e] at h
  exact h
theorem div32 (a : Nat) : (a : Int) / 4294967296 = ((a / 4294967296 : Nat) : Int) := by omega
theorem wrapU (a : Nat) (ha : a < 18446744073709551616) : IntKind.u64.wrap (a : Int) = (a : Int) := by rw [IntKind.wrap_u64]; omega
theorem mulC (a b : Nat) : (a : Int) * (b : Int) = ((a * b : Nat) : Int) := (Int.natCast_mul a b).symm
theorem addC (a b : Nat) : (a : Int) + (b : Int) = ((a + b : Nat) : Int) := (Int.natCast_add a b).symm

theorem rred_eq (x k : Nat) (hx : W64 x) (h0 : 0 < k) (hk : k ≤ 9223372036854775807) :
    wrap64 (IntKind.u64.wrap (IntKind.u64.wrap (IntKind.u64.wrap ((x : Int) / 4294967296 * ((k : Int) / 4294967296)) +
        IntKind.u64.wrap (IntKind.u64.wrap ((x : Int) / 4294967296 * bits BinOp.and IntKind.u64 (k : Int) 4294967295) + IntKind.u64.wrap (bits BinOp.and IntKind.u64 (x : Int) 4294967295 * bits BinOp.and IntKind.u64 (k : Int) 4294967295) / 4294967296) / 4294967296) +
      IntKind.u64.wrap (IntKind.u64.wrap (bits BinOp.and IntKind.u64 (x : Int) 4294967295 * ((k : Int) / 4294967296)) +
        bits BinOp.and IntKind.u64 (IntKind.u64.wrap (IntKind.u64.wrap ((x : Int) / 4294967296 * bits BinOp.and IntKind.u64 (k : Int) 4294967295) + IntKind.u64.wrap (bits BinOp.and IntKind.u64 (x : Int) 4294967295 * bits BinOp.and IntKind.u64 (k : Int) 4294967295) / 4294967296)) 4294967295) / 4294967296)) = ((redN x k : Nat) : Int) := by
  have hxl := hx.lt
  have p1 := half_mul (x / 4294967296) (k % 4294967296) (by omega) (by omega)
  have p2 := half_mul (x % 4294967296) (k % 4294967296) (by omega) (by omega)
  have p3 := half_mul (x % 4294967296) (k / 4294967296) (by omega) (by omega)
  have p4 := half_mul (x / 4294967296) (k / 4294967296) (by omega) (by omega)
  have hlt := redN_lt x k hx h0
  have e := redN_halves x k
  simp only [Nat.reducePow] at e
  have q1 : x / 4294967296 * (k % 4294967296) < 18446744073709551616 := by omega
  have q2 : x % 4294967296 * (k % 4294967296) < 18446744073709551616 := by omega
  have q3 : x % 4294967296 * (k / 4294967296) < 18446744073709551616 := by omega
  have q4 : x / 4294967296 * (k / 4294967296) < 18446744073709551616 := by omega
  have q5 : x / 4294967296 * (k % 4294967296) + x % 4294967296 * (k % 4294967296) / 4294967296 < 18446744073709551616 := by omega
  have q6 : x % 4294967296 * (k / 4294967296) + (x / 4294967296 * (k % 4294967296) + x % 4294967296 * (k % 4294967296) / 4294967296) % 4294967296 < 18446744073709551616 := by omega
  have q7 : x / 4294967296 * (k / 4294967296) + (x / 4294967296 * (k % 4294967296) + x % 4294967296 * (k % 4294967296) / 4294967296) / 4294967296 < 18446744073709551616 := by omega
  have q8 : redN x k < 18446744073709551616 := by omega
  simp only [mask32 x hx, mask32 k (W64.mk (by omega)), div32, mulC, wrapU _ q1, wrapU _ q2, wrapU _ q3, wrapU _ q4, addC, wrapU _ q5, mask32 _ (W64.mk q5), wrapU _ q6, wrapU _ q7]
  rw [← e, wrapU _ q8, IntWalk.wrap64_in _ (by omega)]

set_option maxHeartbeats 1000000 in
theorem rred_any (x : Nat) (m : Int) (hx : W64 x) (hm : m ≤ 9223372036854775807) :
    Gives Tryz.prog 84 #[.int .u64 x, .int .i64 m] (.int .i64 (redI x m)) := by
  intro w
  by_cases h : m < 1
  · rw [redI_none h]
    go_enter Tryz.func84, Tryz.ntmps84
    go_wp2
    go_ret
    exact ⟨rfl, by go_grown⟩
  · obtain ⟨k, rfl⟩ := Int.eq_ofNat_of_zero_le (show 0 ≤ m by omega)
    rw [redI_nat x k (by omega)]
    have hk : W64 k := W64.mk (by omega)
    go_enter Tryz.func84, Tryz.ntmps84
    go_wp2
    go_ret
    exact ⟨ret_num (rred_eq x k hx (by omega) (by omega)), by go_grown⟩

/-- The two buckets of a hash. -/
def buckI (h i : Nat) (m : Int) : Int := redI (mixN (h ^^^ i)) m
theorem rmixx_any (h i : Nat) (hh : W64 h) (hi : W64 i) : Gives Tryz.prog 27 #[.int .u64 (bits BinOp.xor IntKind.u64 (h : Int) (i : Int))] (.int .u64 (mixN (h ^^^ i) : Nat)) := by
  have := rmix_any (bits BinOp.xor IntKind.u64 (h : Int) (i : Int))
  rw [xor_word h i hh hi, mixZ_nat _ (Nat.xor_lt_two_pow hh hi)] at this
  rwa [xor_word h i hh hi]
set_option maxHeartbeats 1000000 in
theorem rbuck_any (s h l : Nat) (n m : Int) (hs : W64 s) (hh : W64 h) (hl : W64 l) (hm : m ≤ 9223372036854775807) :
    Gives Tryz.prog 51 #[.int .u64 s, .agg #[.int .u64 h, .int .u64 l, .int .i64 n], .int .i64 m] (.tuple #[.int .i64 (buckI (hashN s h l (wordZ n)) 1 m), .int .i64 (buckI (hashN s h l (wordZ n)) 2 m)]) := by
  intro w
  have HH := Lib.hid (rhash_any s h l n hs hh hl)
  have hw : W64 (hashN s h l (wordZ n)) := mixN_w _
  generalize hashN s h l (wordZ n) = v at HH hw ⊢
  have HM1 := Lib.hid (rmixx_any v 1 hw (W64.mk (by omega)))
  have HM2 := Lib.hid (rmixx_any v 2 hw (W64.mk (by omega)))
  have HR1 := Lib.hid (rred_any (mixN (v ^^^ 1)) m (mixN_w _) hm)
  have HR2 := Lib.hid (rred_any (mixN (v ^^^ 2)) m (mixN_w _) hm)
  go_enter Tryz.func51, Tryz.ntmps51
  go_wp2_with fail
  refine (HH.out _).mono ?_
  rintro e0 w0 ⟨rfl, hb0⟩
  have hw0 : Below w.heap.size w w0 := by
    refine Below.trans ?_ (hb0.mono ?_)
    · go_grown
    · go_size
  go_wp2_with fail
  refine (HM1.out _).mono ?_
  rintro e w1 ⟨rfl, hb1⟩
  have hw1 := hw0.trans (hb1.mono hw0.size)
  go_wp2_with fail
  refine (HR1.out _).mono ?_
  rintro e w2 ⟨rfl, hb2⟩
  have hw2 := hw1.trans (hb2.mono hw1.size)
  go_wp2_with fail
  refine (HM2.out _).mono ?_
  rintro e w3 ⟨rfl, hb3⟩
  have hw3 := hw2.trans (hb3.mono hw2.size)
  go_wp2_with fail
  refine (HR2.out _).mono ?_
  rintro e w4 ⟨rfl, hb4⟩
  have hw4 := hw3.trans (hb4.mono hw3.size)
  go_wp2
  go_ret2
  exact ⟨rfl, hw4⟩
end Go.Proofs.YtoihkbanmnagkaaGreat
/-
  What the library's functions hand back, by the shelf's own theorems at this program's numbers. No condition but those that stand in each.
-/
namespace Go.Proofs
open Go.Shelf
def Tryz.lays264_ren : Go.Shelf.Ren := ⟨fun | 264 => 130 | n => n, fun | 53 => 22 | 46 => 100 | n => n, fun | n => n⟩
theorem Tryz.lays264 : Go.Proofs.Lays.n264 Tryz.prog Tryz.lays264_ren := {
  mixed := by kernel_rfl
  f264 := Tryz.func130.trans (congrArg some (by kernel_rfl))
  t46 := Tryz.underlying100
  a46 := Tryz.isAgg100
  z46 := Tryz.sizeOf100
  v46 := Tryz.zeroValue100
  t53 := Tryz.underlying22
  a53 := Tryz.isAgg22
  z53 := Tryz.sizeOf22
  v53 := Tryz.zeroValue22 }
open Go.RowKit Go.Lib in
theorem Tryz.bits_Mul64 (x y : Nat) (hx : x < 18446744073709551616) (hy : y < 18446744073709551616) (w : World) :
    Calls Tryz.prog 130 #[.int .u64 x, .int .u64 y] w fun e w' => e = .returned (.tuple #[.int .u64 ((x * y / 18446744073709551616 : Nat) : Int), .int .u64 ((x * y % 18446744073709551616 : Nat) : Int)]) ∧ w' = w := Any.bits_Mul64 Tryz.lays264 x y hx hy w
end Go.Proofs
/-
  What package pick hands back: the place of a number, the two buckets of a prefix. No condition but that the words are words of 64 bits, and that the count of places is a whole number of 64 bits.
-/
set_option linter.unusedSimpArgs false
set_option linter.unusedVariables false
namespace Go.Proofs.YtoihkbanmnagkaaGreat
open Go.RowKit Go.Sort M

theorem mul64_any (x y : Nat) (hx : W64 x) (hy : W64 y) : Gives Tryz.prog 130 #[.int .u64 x, .int .u64 y] (.tuple #[.int .u64 (redN x y : Nat), .int .u64 (x * y % 18446744073709551616 : Nat)]) :=
  Gives.still fun w => (Tryz.bits_Mul64 x y hx.lt hy.lt w).mono fun e w' ⟨he, hw⟩ => ⟨he, hw.symm⟩

set_option maxHeartbeats 1000000 in
theorem red_any (x : Nat) (m : Int) (hx : W64 x) (hm : m ≤ 9223372036854775807) :
    Gives Tryz.prog 108 #[.int .u64 x, .int .i64 m] (.int .i64 (redI x m)) := by
  intro w
  by_cases h : m < 1
  · rw [redI_none h]
    go_enter Tryz.func108, Tryz.ntmps108
    go_wp2
    go_ret
    exact ⟨rfl, by go_grown⟩
  · obtain ⟨k, rfl⟩ := Int.eq_ofNat_of_zero_le (show 0 ≤ m by omega)
    rw [redI_nat x k (by omega)]
    have hlt := redN_lt x k hx (by omega)
    have HM := Lib.hid (mul64_any x k hx (W64.mk (by omega)))
    have HL := Lib.hid (IntWalk.wrap64_in (redN x k : Nat) (by omega))
    clear hlt
    go_enter Tryz.func108, Tryz.ntmps108
    go_wp2_with fail
    refine (HM.out _).mono ?_
    rintro e0 w0 ⟨rfl, hb0⟩
    have hw0 : Below w.heap.size w w0 := by
      refine Below.trans ?_ (hb0.mono ?_)
      · go_grown
      · go_size
    go_wp2
    go_ret
    exact ⟨ret_num HL.out, hw0⟩
theorem mixx_any (h i : Nat) (hh : W64 h) (hi : W64 i) : Gives Tryz.prog 24 #[.int .u64 (bits BinOp.xor IntKind.u64 (h : Int) (i : Int))] (.int .u64 (mixN (h ^^^ i) : Nat)) := by
  have := mix_any (bits BinOp.xor IntKind.u64 (h : Int) (i : Int))
  rw [xor_word h i hh hi, mixZ_nat _ (Nat.xor_lt_two_pow hh hi)] at this
  rwa [xor_word h i hh hi]
set_option maxHeartbeats 1000000 in
theorem buck_any (s h l : Nat) (n m : Int) (hs : W64 s) (hh : W64 h) (hl : W64 l) (hm : m ≤ 9223372036854775807) :
    Gives Tryz.prog 89 #[.int .u64 s, .agg #[.int .u64 h, .int .u64 l, .int .i64 n], .int .i64 m] (.tuple #[.int .i64 (buckI (hashN s h l (wordZ n)) 1 m), .int .i64 (buckI (hashN s h l (wordZ n)) 2 m)]) := by
  intro w
  have HH := Lib.hid (hash_any s h l n hs hh hl)
  have hw : W64 (hashN s h l (wordZ n)) := mixN_w _
  generalize hashN s h l (wordZ n) = v at HH hw ⊢
  have HM1 := Lib.hid (mixx_any v 1 hw (W64.mk (by omega)))
  have HM2 := Lib.hid (mixx_any v 2 hw (W64.mk (by omega)))
  have HR1 := Lib.hid (red_any (mixN (v ^^^ 1)) m (mixN_w _) hm)
  have HR2 := Lib.hid (red_any (mixN (v ^^^ 2)) m (mixN_w _) hm)
  go_enter Tryz.func89, Tryz.ntmps89
  go_wp2_with fail
  refine (HH.out _).mono ?_
  rintro e0 w0 ⟨rfl, hb0⟩
  have hw0 : Below w.heap.size w w0 := by
    refine Below.trans ?_ (hb0.mono ?_)
    · go_grown
    · go_size
  go_wp2_with fail
  refine (HM1.out _).mono ?_
  rintro e w1 ⟨rfl, hb1⟩
  have hw1 := hw0.trans (hb1.mono hw0.size)
  go_wp2_with fail
  refine (HR1.out _).mono ?_
  rintro e w2 ⟨rfl, hb2⟩
  have hw2 := hw1.trans (hb2.mono hw1.size)
  go_wp2_with fail
  refine (HM2.out _).mono ?_
  rintro e w3 ⟨rfl, hb3⟩
  have hw3 := hw2.trans (hb3.mono hw2.size)
  go_wp2_with fail
  refine (HR2.out _).mono ?_
  rintro e w4 ⟨rfl, hb4⟩
  have hw4 := hw3.trans (hb4.mono hw3.size)
  go_wp2
  go_ret2
  exact ⟨rfl, hw4⟩
end Go.Proofs.YtoihkbanmnagkaaGreat
/-
  What the reference's row of places hands back: a new row of numbers. No condition but that the words are words of 64 bits, and that the count of places is a whole number of 64 bits.
-/
set_option linter.unusedSimpArgs false
set_option linter.unusedVariables false
namespace Go.Proofs.YtoihkbanmnagkaaGreat
open Go.RowKit Go.Sort M

/-- Number i of a hash's places, of m. -/
def placeI (h : Nat) (m : Int) (i : Nat) : Int := redI ((h + i * (mixN h ||| 1)) % 18446744073709551616) m
def placesK (h : Nat) (m : Int) (k : Nat) : List Int := (List.range k).map (placeI h m)
theorem placesK_len (h : Nat) (m : Int) (k : Nat) : (placesK h m k).length = k := by simp [placesK]
theorem placesK_succ (h : Nat) (m : Int) (k : Nat) : placesK h m (k + 1) = placesK h m k ++ [placeI h m k] := by simp [placesK, List.range_succ]
theorem placeI_nonneg (h : Nat) (m : Int) (i : Nat) : 0 ≤ placeI h m i := redI_nonneg _ _
theorem placeI_lt (h : Nat) (m : Int) (i : Nat) (hm : 1 ≤ m) : placeI h m i < m := redI_lt (W64.mk (Nat.mod_lt _ (by decide))) hm
/-- The places of a hash: k (at most 16) of m. -/
def placesI (h : Nat) (k m : Int) : List Int := if m < 1 then [] else placesK h m (min k.toNat 16)
theorem placesI_none {h : Nat} {k m : Int} (hm : m < 1) : placesI h k m = [] := if_pos hm
theorem placesI_few {h : Nat} {k m : Int} (hk : k < 1) : placesI h k m = [] := by
  unfold placesI
  split
  · rfl
  · rw [show k.toNat = 0 by omega]; rfl
theorem placesI_some {h : Nat} {k m : Int} (hm : ¬ m < 1) : placesI h k m = placesK h m (min k.toNat 16) := if_neg hm
theorem or_one (x : Nat) (h : W64 x) : bits BinOp.or IntKind.u64 (x : Int) 1 = ((x ||| 1 : Nat) : Int) := bits_or_u64_nat x 1 h.lt (by omega)
theorem or_one_w (x : Nat) (h : W64 x) : W64 (x ||| 1) := Nat.or_lt_two_pow h (by decide)
theorem mix_at (h : Nat) (w : W64 h) : Gives Tryz.prog 27 #[.int .u64 (h : Int)] (.int .u64 (mixN h : Nat)) := by
  have := rmix_any (h : Int)
  rwa [mixZ_nat h w] at this
theorem cap16_any (k : Int) (w : World) : Calls Tryz.prog 42 #[.int .i64 k, .int .i64 0, .int .i64 16] w fun e w' => e = .returned (.int .i64 (min k.toNat 16 : Nat)) ∧ w = w' := by
  by_cases h1 : k < 0
  · go_enter Tryz.func42, Tryz.ntmps42
    go_wp2
    go_ret
    exact ⟨ret_num (by omega), rfl⟩
  · by_cases h2 : 16 < k
    · go_enter Tryz.func42, Tryz.ntmps42
      go_wp2
      go_ret
      exact ⟨ret_num (by omega), rfl⟩
    · go_enter Tryz.func42, Tryz.ntmps42
      go_wp2
      go_ret
      exact ⟨ret_num (by omega), rfl⟩
theorem place_word (h g j : Nat) (hh : W64 h) (hg : W64 g) : IntKind.u64.wrap ((h : Int) + IntKind.u64.wrap ((j : Int) * (g : Int))) = (((h + j * g) % 18446744073709551616 : Nat) : Int) := by
  rw [mulC, IntKind.wrap_u64, IntKind.wrap_u64]
  omega

set_option maxHeartbeats 1000000 in
theorem rplaces_any (s h l : Nat) (n k m : Int) (hs : W64 s) (hh : W64 h) (hl : W64 l) (hm : m ≤ 9223372036854775807) :
    GivesInts 57 #[.int .u64 s, .agg #[.int .u64 h, .int .u64 l, .int .i64 n], .int .i64 k, .int .i64 m] (placesI (hashN s h l (wordZ n)) k m) := by
  intro w
  by_cases h1 : m < 1
  · rw [placesI_none h1]
    go_enter Tryz.func57, Tryz.ntmps57
    go_wp2
    go_ret
    exact ⟨none, 0, rfl, World.ownsRow_nil _ _ _ _, by go_grown⟩
  · rw [placesI_some h1]
    have HH := Lib.hid (rhash_any s h l n hs hh hl)
    have hw : W64 (hashN s h l (wordZ n)) := mixN_w _
    generalize hashN s h l (wordZ n) = v at HH hw ⊢
    have HM := Lib.hid (mix_at v hw)
    have HO := Lib.hid (or_one (mixN v) (mixN_w _))
    have HG := Lib.hid (or_one_w (mixN v) (mixN_w _))
    have HC := Lib.hid (cap16_any k)
    obtain ⟨c, hc⟩ : ∃ c, c = min k.toNat 16 := ⟨_, rfl⟩
    have hc16 : c ≤ 16 := by omega
    rw [← hc] at HC ⊢
    clear hc
    obtain ⟨i0, hi0, iz0, iz1, iz2⟩ := info_parts infoI
    go_enter Tryz.func57, Tryz.ntmps57
    go_wp2_with fail
    refine (HH.out _).mono ?_
    rintro e0 w0 ⟨rfl, hb0⟩
    have hw0 : Below w.heap.size w w0 := by
      refine Below.trans ?_ (hb0.mono ?_)
      · go_grown
      · go_size
    go_wp2_with fail
    refine (HM.out _).mono ?_
    rintro e w1 ⟨rfl, hb1⟩
    have hw1 := hw0.trans (hb1.mono hw0.size)
    clear hb0 hb1 hw0
    go_wp2_with (first | rw [HO.out] | fail)
    go_loopw [11, 12] (fun o i wr => ∃ (j : Nat), j ≤ c ∧ i = .int .i64 j ∧ wr.ownsRow w.heap.size 3 1 o j (ics (placesK v m j)) ∧ Below w.heap.size w wr) (fun _ i _ => c - (intOf i).toNat)
    case atStart => exact ⟨0, Nat.zero_le _, rfl, World.ownsRow_nil _ _ _ _, hw1⟩
    case round =>
      clear hw1
      obtain ⟨j, hj, rfl, hown, hw1⟩ := hrel
      have hz1 := hw1.size
      by_cases hlt : j < c
      · have hr := rred_any ((v + j * (mixN v ||| 1)) % 18446744073709551616) m (W64.mk (Nat.mod_lt _ (by decide))) hm
        rw [← place_word v (mixN v ||| 1) j hw HG.out] at hr
        have HR : Hid (Gives Tryz.prog 84 _ (.int .i64 (placeI v m j))) := Lib.hid hr
        clear hr
        go_wp2_with (go_at_call 42; refine (HC.out _).mono ?_; rintro e w' ⟨rfl, rfl⟩)
        refine (HR.out _).mono ?_
        rintro e w2 ⟨rfl, hb2⟩
        have hown2 := own_below hown hb2
        have hw2 := hw1.trans (hb2.mono hz1)
        have hz2 := hw2.size
        clear hown hb2 hw1 hz1
        go_wp2_with (at_builtin; go_loud (refine wpList_append_own _ rfl (.tmp 27) (.tmp 36) 78 rfl w.heap.size 3 i0 _ 1 8 Tryz.underlying78 hi0 iz0 iz1 iz2 rfl (by decide) _ _ _ rfl (hown2.alloc _) ⟨w2.heap.size, 0, none⟩ 1 1 [.int .i64 (placeI v m j)] rfl rfl (one_new (by simp [go_sem])) (by simp [Value.oneCell']) (by unfold maxLen; omega) (by omega) (by simp; omega) ?_))
        intro v3 w3 hown3 hg3 _
        have hown4 : w3.ownsRow w.heap.size 3 1 v3 (j + 1) (ics (placesK v m (j + 1))) := by rw [placesK_succ, ics_append]; exact hown3
        have hw3 : Below w.heap.size w w3 := (hw2.alloc hw2.size _).grown hg3 (by have := hw2.size; simp; omega) (fun j hj => (hown2.lt j hj).1)
        clear hown3 hg3 hown2 hw2
        go_wp2
        go_roundw
        case rel => exact ⟨j + 1, by omega, by go_num, hown4, hw3⟩
        case measure => simp [intOf]; omega
      · obtain rfl : j = c := by omega
        go_wp2_with (go_at_call 42; refine (HC.out _).mono ?_; rintro e w' ⟨rfl, rfl⟩)
        go_ret
        obtain ⟨p, q, rfl⟩ := own_slice hown
        refine ⟨p, q, ?_, ?_, hw1⟩
        · rw [placesK_len]; rfl
        · rw [placesK_len]; exact hown
end Go.Proofs.YtoihkbanmnagkaaGreat

/-
  The mathematics of floats of 64 bits that stand for whole numbers below 2^53, and of what a number weighs: cut down to a whole number from 0 to 2^30. No condition but those that stand in each.
-/
import Derived.WalkKit
import Derived.Laws.FloatArith
set_option linter.unusedSimpArgs false
set_option linter.unusedVariables false
namespace Go.Proofs.Ytdfmebfkhcdphaa.M
open Ieee

/-- The word of a whole number. -/
def fl (n : Nat) : Nat := Ieee.double.nearest false n 0
theorem floatOfInt_nat (n : Nat) : Go.floatOfInt .f64 (n : Int) = fl n := by
  unfold Go.floatOfInt FloatKind.nearest FloatKind.encode fl
  show Ieee.double.write (.number (decide ((n : Int) < 0)) (n : Int).natAbs 0) = _
  have h : decide ((n : Int) < 0) = false := by simp
  rw [h, Int.natAbs_natCast]
  rfl
theorem cut_floor (way : Toward) (hw : way = .down ∨ way = .zero) (n d : Nat) : way.cut false n d = n / 2 ^ d := by
  have key : n / (1 <<< min d (n.log2 + 2)) = n / 2 ^ d := by
    rw [Nat.shiftLeft_eq, Nat.one_mul]
    by_cases h : d ≤ n.log2 + 2
    · rw [Nat.min_eq_left h]
    · rw [Nat.min_eq_right (by omega)]
      have hn : n < 2 ^ (n.log2 + 1) := Nat.lt_log2_self
      rw [Nat.div_eq_of_lt (Nat.lt_of_lt_of_le hn (Nat.pow_le_pow_right (by omega) (by omega))), Nat.div_eq_of_lt (Nat.lt_of_lt_of_le hn (Nat.pow_le_pow_right (by omega) (by omega)))]
  unfold Toward.cut
  rcases hw with rfl | rfl <;> simp [key]
theorem cut_exact (n d : Nat) : Toward.even.cut false (n * 2 ^ d) d = n := by
  by_cases h0 : n = 0
  · subst h0
    simp [Toward.cut]
  · have hp := Nat.two_pow_pos d
    have h1 : 2 ^ d ≤ n * 2 ^ d := Nat.le_mul_of_pos_left _ (by omega)
    have hl : d ≤ (n * 2 ^ d).log2 + 2 := by
      have := (Nat.le_log2 (n := n * 2 ^ d) (k := d) (by omega)).2 h1
      omega
    have e1 : n * 2 ^ d / 2 ^ d = n := Nat.mul_div_cancel _ hp
    have e2 : n * 2 ^ d % 2 ^ d = 0 := Nat.mul_mod_left _ _
    have e3 : ((2 : Nat) ^ d == 0) = false := by simp
    unfold Toward.cut
    simp only [Nat.min_eq_left hl, Nat.shiftLeft_eq, Nat.one_mul, e1, e2, Nat.mul_zero, e3, Bool.false_and, Bool.or_false]
    simp
theorem log2_scale (n k : Nat) (h0 : 0 < n) : (n * 2 ^ k).log2 = n.log2 + k := by
  have hp := Nat.two_pow_pos k
  rw [Nat.log2_eq_iff (by have := Nat.mul_pos h0 hp; omega)]
  have h1 := Nat.log2_self_le (n := n) (by omega)
  have h2 := Nat.lt_log2_self (n := n)
  refine ⟨?_, ?_⟩
  · rw [Nat.pow_add]
    exact Nat.mul_le_mul_right _ h1
  · rw [show n.log2 + k + 1 = (n.log2 + 1) + k by omega, Nat.pow_add]
    exact Nat.mul_lt_mul_of_pos_right h2 hp
theorem lp : Ieee.double.leastPlace = -1074 := by decide +kernel
theorem bin : Ieee.double.binade = 4503599627370496 := by decide +kernel
theorem infr : Ieee.double.infRung = 9218868437227405312 := by decide +kernel
theorem sgw : Ieee.double.signWeight = 9223372036854775808 := by decide +kernel
theorem frb : (Ieee.double.fractionBits : Int) = 52 := rfl
theorem word_pos (r : Nat) : Ieee.double.word false r = r := rfl
theorem sig_lo (n : Nat) (h0 : 0 < n) (hn : n < 9007199254740992) : n.log2 ≤ 52 ∧ 4503599627370496 ≤ n * 2 ^ (52 - n.log2) ∧ n * 2 ^ (52 - n.log2) < 9007199254740992 := by
  have hl : n.log2 ≤ 52 := by
    have := (Nat.log2_lt (n := n) (k := 53) (by omega)).2 (by omega)
    omega
  have h1 := Nat.log2_self_le (n := n) (by omega)
  have h2 := Nat.lt_log2_self (n := n)
  have e : 2 ^ n.log2 * 2 ^ (52 - n.log2) = 4503599627370496 := by rw [← Nat.pow_add, show n.log2 + (52 - n.log2) = 52 by omega]
  have e2 : 2 ^ (n.log2 + 1) * 2 ^ (52 - n.log2) = 9007199254740992 := by rw [← Nat.pow_add, show n.log2 + 1 + (52 - n.log2) = 53 by omega]
  refine ⟨hl, ?_, ?_⟩
  · rw [← e]; exact Nat.mul_le_mul_right _ h1
  · rw [← e2]; exact Nat.mul_lt_mul_of_pos_right h2 (Nat.two_pow_pos _)
/-- The word of a number that is written with k digits behind the point, all 0. -/
theorem nearest_whole (n k : Nat) (h0 : 0 < n) (hn : n < 9007199254740992) : Ieee.double.nearest false (n * 2 ^ k) (-(k : Int)) = (n.log2 + 1022) * 4503599627370496 + n * 2 ^ (52 - n.log2) := by
  obtain ⟨hl, s1, s2⟩ := sig_lo n h0 hn
  have hm : n * 2 ^ k ≠ 0 := by have := Nat.mul_pos h0 (Nat.two_pow_pos k); omega
  unfold Format.nearest
  rw [if_neg hm, log2_scale n k h0, lp, infr, bin, frb]
  dsimp only
  have hlast : max (-(k : Int) + ((n.log2 + k : Nat) : Int) - 52) (-1074) = (n.log2 : Int) - 52 := by omega
  rw [hlast]
  have hkept : Toward.even.cut false ((n * 2 ^ k) <<< (-(k : Int) - ((n.log2 : Int) - 52)).toNat) ((n.log2 : Int) - 52 - -(k : Int)).toNat = n * 2 ^ (52 - n.log2) := by
    by_cases h : k ≤ 52 - n.log2
    · rw [show ((n.log2 : Int) - 52 - -(k : Int)).toNat = 0 by omega, show (-(k : Int) - ((n.log2 : Int) - 52)).toNat = 52 - n.log2 - k by omega, Nat.shiftLeft_eq, Nat.mul_assoc, ← Nat.pow_add, show k + (52 - n.log2 - k) = 52 - n.log2 by omega]
      have := cut_exact (n * 2 ^ (52 - n.log2)) 0
      rwa [Nat.pow_zero, Nat.mul_one] at this
    · rw [show ((n.log2 : Int) - 52 - -(k : Int)).toNat = n.log2 + k - 52 by omega, show (-(k : Int) - ((n.log2 : Int) - 52)).toNat = 0 by omega, Nat.shiftLeft_eq, Nat.pow_zero, Nat.mul_one]
      have := cut_exact (n * 2 ^ (52 - n.log2)) (n.log2 + k - 52)
      rwa [Nat.mul_assoc, ← Nat.pow_add, show 52 - n.log2 + (n.log2 + k - 52) = k by omega] at this
  rw [hkept, word_pos, show ((n.log2 : Int) - 52 - -1074).toNat = n.log2 + 1022 by omega, Nat.min_eq_left (by omega)]
theorem fl_eq (n : Nat) (h0 : 0 < n) (hn : n < 9007199254740992) : fl n = (n.log2 + 1022) * 4503599627370496 + n * 2 ^ (52 - n.log2) := by
  have := nearest_whole n 0 h0 hn
  rwa [Nat.pow_zero, Nat.mul_one] at this
theorem fl_zero : fl 0 = 0 := by decide +kernel
theorem read_zero : Ieee.double.read 0 = .number false 0 (-1074) := by decide +kernel
theorem read_one : Ieee.double.read 4607182418800017408 = .number false 4503599627370496 (-52) := by decide +kernel
theorem read_big : Ieee.double.read 4742290407621132288 = .number false 4503599627370496 (-22) := by decide +kernel
theorem fl_one : fl 1 = 4607182418800017408 := by decide +kernel
theorem fl_two : fl 2 = 4611686018427387904 := by decide +kernel
theorem fl_big : fl 1073741824 = 4742290407621132288 := by decide +kernel
theorem fl_lt (n : Nat) : fl n < 18446744073709551616 := Ieee.double.nearest_lt false n 0
/-- A datum stands for a whole number. -/
def Is (d : Datum) (n : Nat) : Prop := ∃ k : Nat, d = .number false (n * 2 ^ k) (-(k : Int))
theorem read_fl (n : Nat) (h0 : 0 < n) (hn : n < 9007199254740992) : Ieee.double.read (fl n) = .number false (n * 2 ^ (52 - n.log2)) (-((52 - n.log2 : Nat) : Int)) := by
  obtain ⟨hl, s1, s2⟩ := sig_lo n h0 hn
  rw [fl_eq n h0 hn]
  generalize n * 2 ^ (52 - n.log2) = m at *
  unfold Format.read
  rw [sgw, bin, infr, lp]
  dsimp only
  rw [show ((n.log2 + 1022) * 4503599627370496 + m) / 9223372036854775808 = 0 from Nat.div_eq_of_lt (by omega), Nat.mod_eq_of_lt (show (n.log2 + 1022) * 4503599627370496 + m < 9223372036854775808 by omega)]
  rw [if_neg (by omega), if_pos (by omega)]
  have e1 : 4503599627370496 + ((n.log2 + 1022) * 4503599627370496 + m) % 4503599627370496 = m := by omega
  have e2 : ((n.log2 + 1022) * 4503599627370496 + m) / 4503599627370496 - 1 = n.log2 + 1022 := by omega
  rw [e1, e2, show (-1074 : Int) + ((n.log2 + 1022 : Nat) : Int) = -((52 - n.log2 : Nat) : Int) by omega]
  rfl
theorem read_is (n : Nat) (hn : n < 9007199254740992) : Is (Ieee.double.read (fl n)) n := by
  by_cases h0 : 0 < n
  · exact ⟨_, read_fl n h0 hn⟩
  · obtain rfl : n = 0 := by omega
    obtain ⟨K, hK⟩ : ∃ K : Nat, (-1074 : Int) = -(K : Int) := ⟨1074, rfl⟩
    exact ⟨K, by rw [fl_zero, read_zero, Nat.zero_mul, hK]⟩
theorem write_is {d : Datum} {n : Nat} (h : Is d n) (hn : n < 9007199254740992) : Ieee.double.write d = fl n := by
  obtain ⟨k, rfl⟩ := h
  show Ieee.double.nearest false (n * 2 ^ k) (-(k : Int)) = fl n
  by_cases h0 : 0 < n
  · rw [nearest_whole n k h0 hn, fl_eq n h0 hn]
  · obtain rfl : n = 0 := by omega
    rw [Nat.zero_mul, fl_zero]
    unfold Format.nearest
    rw [if_pos rfl]
    rfl
theorem cmp_int (a b : Int) : compare a b = if a < b then .lt else if a = b then .eq else .gt := rfl
theorem cmp_scale (a b c : Nat) (hc : 0 < c) : compare ((a * c : Nat) : Int) ((b * c : Nat) : Int) = compare (a : Int) (b : Int) := by
  rw [cmp_int, cmp_int]
  have h1 : ((a * c : Nat) : Int) < ((b * c : Nat) : Int) ↔ (a : Int) < (b : Int) := by
    rw [Int.ofNat_lt, Int.ofNat_lt]
    exact Nat.mul_lt_mul_right hc
  have h2 : ((a * c : Nat) : Int) = ((b * c : Nat) : Int) ↔ (a : Int) = (b : Int) := by
    rw [Int.ofNat_inj, Int.ofNat_inj]
    exact Nat.mul_left_inj (by omega)
  simp only [h1, h2]
theorem signed_pos (m u : Nat) : signed false m u = ((m * 2 ^ u : Nat) : Int) := by
  unfold signed
  rw [if_neg (by simp), Nat.shiftLeft_eq]
theorem scale_up (n k j : Nat) : n * 2 ^ k * 2 ^ (-(k : Int) - min (-(k : Int)) (-(j : Int))).toNat = n * 2 ^ (max k j) := by
  rw [Nat.mul_assoc, ← Nat.pow_add, show k + (-(k : Int) - min (-(k : Int)) (-(j : Int))).toNat = max k j by omega]
theorem order_is {d e : Datum} {n m : Nat} (h : Is d n) (g : Is e m) : d.order e = some (compare (n : Int) (m : Int)) := by
  obtain ⟨k, rfl⟩ := h
  obtain ⟨j, rfl⟩ := g
  show some (compare (signed false (n * 2 ^ k) (-(k : Int) - min (-(k : Int)) (-(j : Int))).toNat) (signed false (m * 2 ^ j) (-(j : Int) - min (-(k : Int)) (-(j : Int))).toNat)) = _
  rw [signed_pos, signed_pos, scale_up n k j, Int.min_comm (-(k : Int)), scale_up m j k, Nat.max_comm j k, cmp_scale _ _ _ (Nat.two_pow_pos _)]
theorem sum_is {d e : Datum} {n m : Nat} (h : Is d n) (g : Is e m) : ∃ r, d.sum e = some r ∧ Is r (n + m) := by
  obtain ⟨k, rfl⟩ := h
  obtain ⟨j, rfl⟩ := g
  refine ⟨.number false ((n + m) * 2 ^ (max k j)) (-((max k j : Nat) : Int)), ?_, _, rfl⟩
  have e1 : signed false (n * 2 ^ k) (-(k : Int) - min (-(k : Int)) (-(j : Int))).toNat = ((n * 2 ^ (max k j) : Nat) : Int) := by rw [signed_pos, scale_up n k j]
  have e2 : signed false (m * 2 ^ j) (-(j : Int) - min (-(k : Int)) (-(j : Int))).toNat = ((m * 2 ^ (max k j) : Nat) : Int) := by rw [signed_pos, Int.min_comm (-(k : Int)), scale_up m j k, Nat.max_comm j k]
  have e3 : ((n * 2 ^ (max k j) : Nat) : Int) + ((m * 2 ^ (max k j) : Nat) : Int) = (((n + m) * 2 ^ (max k j) : Nat) : Int) := by rw [Nat.add_mul, Int.natCast_add]
  have e4 : min (-(k : Int)) (-(j : Int)) = -((max k j : Nat) : Int) := by omega
  rw [e4] at e1 e2
  unfold Datum.sum
  simp only [e4, e1, e2, e3, Int.natAbs_natCast]
  generalize (n + m) * 2 ^ (max k j) = z
  have e5 : decide ((z : Int) < 0) = false := by simp
  rw [e5]
  simp
theorem add_fl (n m : Nat) (h : n + m < 9007199254740992) : Ieee.double.add (fl n) (fl m) = some (fl (n + m)) := by
  obtain ⟨r, hr, hi⟩ := sum_is (read_is n (by omega)) (read_is m (by omega))
  unfold Format.add
  rw [hr, Option.map_some, write_is hi h]
theorem order_fl (n m : Nat) (hn : n < 9007199254740992) (hm : m < 9007199254740992) : Ieee.double.order (fl n) (fl m) = some (compare (n : Int) (m : Int)) := order_is (read_is n hn) (read_is m hm)
theorem eql_fl (n m : Nat) (hn : n < 9007199254740992) (hm : m < 9007199254740992) : (Ieee.double.order (fl n) (fl m) == some .eq) = decide (n = m) := by
  rw [order_fl n m hn hm, cmp_int]
  by_cases h1 : (n : Int) < m
  · rw [if_pos h1]
    have : n ≠ m := by omega
    simp [this]
  · by_cases h2 : (n : Int) = m
    · rw [if_neg h1, if_pos h2]
      have : n = m := by omega
      simp [this]
    · rw [if_neg h1, if_neg h2]
      have : n ≠ m := by omega
      simp [this]
theorem gtr_fl (n m : Nat) (hn : n < 9007199254740992) (hm : m < 9007199254740992) : (Ieee.double.order (fl n) (fl m) == some .gt) = decide (m < n) := by
  rw [order_fl n m hn hm, cmp_int]
  by_cases h1 : (n : Int) < m
  · rw [if_pos h1]
    have : ¬ m < n := by omega
    simp [this]
  · by_cases h2 : (n : Int) = m
    · rw [if_neg h1, if_pos h2]
      have : ¬ m < n := by omega
      simp [this]
    · rw [if_neg h1, if_neg h2]
      have : m < n := by omega
      simp [this]
/-- A word with the sign + that is not 0 and no NaN is above 0. -/
theorem above_zero (r : Nat) (h0 : 0 < r) (h1 : r ≤ 9218868437227405312) : Ieee.double.order r 0 = some .gt := by
  unfold Format.order
  rw [read_zero]
  unfold Format.read
  rw [sgw, bin, infr, lp]
  dsimp only
  rw [show r / 9223372036854775808 = 0 from Nat.div_eq_of_lt (by omega), Nat.mod_eq_of_lt (show r < 9223372036854775808 by omega)]
  have key : ∀ (m : Nat) (p : Int), 0 < m → (Datum.number (0 % 2 == 1) m p).order (.number false 0 (-1074)) = some .gt := by
    intro m p hm
    show some (compare (signed false m _) (signed false 0 _)) = _
    rw [signed_pos, signed_pos, Nat.zero_mul, cmp_int]
    have := Nat.mul_pos hm (Nat.two_pow_pos (p - min p (-1074)).toNat)
    rw [if_neg (by omega), if_neg (by omega)]
  by_cases a : r < 4503599627370496
  · rw [if_pos a]
    exact key _ _ h0
  · rw [if_neg a]
    by_cases b : r < 9218868437227405312
    · rw [if_pos b]
      exact key _ _ (by omega)
    · rw [if_neg b, if_pos (by omega)]
      rfl
/-- 1 through a whole number is above 0. -/
theorem one_over (n : Nat) (h0 : 0 < n) (hn : n < 9007199254740992) : ∃ r, Ieee.double.div 4607182418800017408 (fl n) = some r ∧ (Ieee.double.order r 0 == some .gt) = true := by
  obtain ⟨hl, s1, s2⟩ := sig_lo n h0 hn
  have hlog : (n * 2 ^ (52 - n.log2)).log2 = 52 := (Nat.log2_eq_iff (by omega)).2 ⟨s1, s2⟩
  have hlog1 : (4503599627370496 : Nat).log2 = 52 := (Nat.log2_eq_iff (by omega)).2 ⟨by decide, by decide⟩
  have hq : 0 < 4503599627370496 <<< 54 / (n * 2 ^ (52 - n.log2)) := Nat.div_pos (by rw [Nat.shiftLeft_eq]; omega) (by omega)
  unfold Format.div
  rw [read_one, read_fl n h0 hn, show Ieee.double.fractionBits + 2 = 54 from rfl]
  generalize n * 2 ^ (52 - n.log2) = m at *
  have hm : m ≠ 0 := by omega
  unfold Datum.quotient
  simp only [if_neg hm, hlog, hlog1]
  refine ⟨_, rfl, ?_⟩
  show (Ieee.double.order (Ieee.double.nearest (false ^^ false) _ _) 0 == some .gt) = true
  rw [show (54 + 52 - 52 : Nat) = 54 from rfl]
  generalize 4503599627370496 <<< 54 / m = q at *
  generalize (4503599627370496 <<< 54 % m != 0).toNat = t
  unfold Format.nearest
  rw [if_neg (show ¬ (2 * q + t = 0) by omega), lp, infr, bin, frb]
  dsimp only
  rw [show (false ^^ false) = false from rfl, word_pos, above_zero]
  · rfl
  · refine Nat.lt_of_lt_of_le (show 0 < 4503599627370496 by omega) (Nat.le_min.2 ⟨?_, by omega⟩)
    refine Nat.le_trans ?_ (Nat.le_add_right _ _)
    have : 1 ≤ (max (-52 - -((52 - n.log2 : Nat) : Int) - ((54 : Nat) : Int) - 1 + ((2 * q + t).log2 : Int) - 52) (-1074) - -1074).toNat := by omega
    omega
  · exact Nat.min_le_right _ _
/-- What a datum weighs. -/
def wtD : Datum → Nat
  | .number false m e => min 1073741824 ((m <<< e.toNat) / 2 ^ (-e).toNat)
  | .infinity false => 1073741824
  | _ => 0
/-- What a word weighs. -/
def wtN (x : Nat) : Nat := wtD (Ieee.double.read x)
theorem wtN_le (x : Nat) : wtN x ≤ 1073741824 := by
  unfold wtN wtD
  split <;> omega
theorem big_gt (m : Nat) (e : Int) : ((Datum.number false m e).order (.number false 4503599627370496 (-22)) = some .gt) ↔ 1073741824 * 2 ^ (-e).toNat < m * 2 ^ e.toNat := by
  show (some (compare (signed false m (e - min e (-22)).toNat) (signed false 4503599627370496 (-22 - min e (-22)).toNat)) = some .gt) ↔ _
  rw [signed_pos, signed_pos, cmp_int]
  have key : (4503599627370496 * 2 ^ (-22 - min e (-22)).toNat < m * 2 ^ (e - min e (-22)).toNat) ↔ 1073741824 * 2 ^ (-e).toNat < m * 2 ^ e.toNat := by
    by_cases h1 : 0 ≤ e
    · rw [show (-22 - min e (-22)).toNat = 0 by omega, show (e - min e (-22)).toNat = e.toNat + 22 by omega, show (-e).toNat = 0 by omega, Nat.pow_add, ← Nat.mul_assoc]
      omega
    · by_cases h2 : -22 ≤ e
      · rw [show (-22 - min e (-22)).toNat = 0 by omega, show e.toNat = 0 by omega]
        have e1 : (4503599627370496 : Nat) = 1073741824 * 2 ^ (-e).toNat * 2 ^ (e - min e (-22)).toNat := by rw [Nat.mul_assoc, ← Nat.pow_add, show (-e).toNat + (e - min e (-22)).toNat = 22 by omega]
        rw [Nat.pow_zero, Nat.mul_one, Nat.mul_one, e1]
        exact Nat.mul_lt_mul_right (Nat.two_pow_pos _)
      · rw [show (e - min e (-22)).toNat = 0 by omega, show e.toNat = 0 by omega, show (-e).toNat = (-22 - min e (-22)).toNat + 22 by omega, Nat.pow_add]
        omega
  rw [← key]
  generalize 4503599627370496 * 2 ^ (-22 - min e (-22)).toNat = a
  generalize m * 2 ^ (e - min e (-22)).toNat = b
  by_cases h1 : (b : Int) < (a : Int)
  · rw [if_pos h1]
    simp; omega
  · by_cases h2 : (b : Int) = (a : Int)
    · rw [if_neg h1, if_pos h2]
      simp; omega
    · rw [if_neg h1, if_neg h2]
      simp; omega
theorem zero_gt (s : Bool) (m : Nat) (e : Int) : ((Datum.number s m e).order (.number false 0 (-1074)) = some .gt) ↔ s = false ∧ 0 < m := by
  show (some (compare (signed s m (e - min e (-1074)).toNat) (signed false 0 (-1074 - min e (-1074)).toNat)) = some .gt) ↔ _
  rw [signed_pos, Nat.zero_mul, cmp_int]
  have hp := Nat.two_pow_pos (e - min e (-1074)).toNat
  cases s
  · rw [signed_pos]
    by_cases h : 0 < m
    · have := Nat.mul_pos h hp
      rw [if_neg (by omega), if_neg (by omega)]
      simp [h]
    · obtain rfl : m = 0 := by omega
      rw [Nat.zero_mul]
      simp
  · unfold signed
    rw [if_pos rfl, Nat.shiftLeft_eq]
    by_cases h : 0 < m
    · have := Nat.mul_pos h hp
      rw [if_pos (by omega)]
      simp
    · obtain rfl : m = 0 := by omega
      rw [Nat.zero_mul]
      simp
/-- A number with the sign - is not above a number with the sign +. -/
theorem neg_gt (m : Nat) (e : Int) : ¬ ((Datum.number true m e).order (.number false 4503599627370496 (-22)) = some .gt) := by
  show ¬ (some (compare (signed true m (e - min e (-22)).toNat) (signed false 4503599627370496 (-22 - min e (-22)).toNat)) = some .gt)
  rw [signed_pos, cmp_int]
  unfold signed
  rw [if_pos rfl]
  have h := Nat.mul_pos (show 0 < 4503599627370496 by omega) (Nat.two_pow_pos (-22 - min e (-22)).toNat)
  generalize 4503599627370496 * 2 ^ (-22 - min e (-22)).toNat = z at h ⊢
  generalize m <<< (e - min e (-22)).toNat = y
  rw [if_pos (by omega)]
  simp
/-- The three ways of a number that is weighed. -/
theorem wt_cases (x : Nat) :
    ((Ieee.double.order x 4742290407621132288 == some .gt) = true ∧ wtN x = 1073741824) ∨
    ((Ieee.double.order x 4742290407621132288 == some .gt) = false ∧ (Ieee.double.order x 0 == some .gt) = true ∧
      ∃ m e, Ieee.double.read x = .number false m e ∧ wtN x = (m <<< e.toNat) / 2 ^ (-e).toNat) ∨
    ((Ieee.double.order x 4742290407621132288 == some .gt) = false ∧ (Ieee.double.order x 0 == some .gt) = false ∧ wtN x = 0) := by
  unfold wtN Format.order
  rw [read_big, read_zero]
  generalize hd : Ieee.double.read x = d
  match d with
  | .nan s t => exact .inr (.inr ⟨rfl, rfl, rfl⟩)
  | .infinity true => exact .inr (.inr ⟨rfl, rfl, rfl⟩)
  | .infinity false => exact .inl ⟨rfl, rfl⟩
  | .number true m e =>
    refine .inr (.inr ⟨?_, ?_, rfl⟩)
    · have := neg_gt m e
      simpa using this
    · have := (zero_gt true m e).1
      simpa using this
  | .number false m e =>
    have hp := Nat.two_pow_pos (-e).toNat
    by_cases hb : 1073741824 * 2 ^ (-e).toNat < m * 2 ^ e.toNat
    · refine .inl ⟨by simpa using (big_gt m e).2 hb, ?_⟩
      show min 1073741824 ((m <<< e.toNat) / 2 ^ (-e).toNat) = _
      rw [Nat.shiftLeft_eq]
      have := (Nat.le_div_iff_mul_le hp).2 (Nat.le_of_lt hb)
      omega
    · have hle : (m <<< e.toNat) / 2 ^ (-e).toNat ≤ 1073741824 := by
        rw [Nat.shiftLeft_eq]
        have h1 : m * 2 ^ e.toNat ≤ 1073741824 * 2 ^ (-e).toNat := by omega
        have h2 := Nat.div_le_div_right (c := 2 ^ (-e).toNat) h1
        rwa [Nat.mul_div_cancel _ hp] at h2
      have hb2 : ¬ ((Datum.number false m e).order (.number false 4503599627370496 (-22)) = some .gt) := fun h => hb ((big_gt m e).1 h)
      by_cases h0 : 0 < m
      · exact .inr (.inl ⟨by simpa using hb2, by simpa using (zero_gt false m e).2 ⟨rfl, h0⟩, m, e, rfl, by show min _ _ = _; omega⟩)
      · obtain rfl : m = 0 := by omega
        refine .inr (.inr ⟨by simpa using hb2, ?_, ?_⟩)
        · have := fun h => (zero_gt false 0 e).1 h
          simpa using this
        · show min 1073741824 ((0 <<< e.toNat) / 2 ^ (-e).toNat) = _
          simp
/-- What a whole number weighs. -/
theorem wtN_fl (n : Nat) (hn : n < 9007199254740992) : wtN (fl n) = min 1073741824 n := by
  obtain ⟨k, hk⟩ := read_is n hn
  unfold wtN
  rw [hk]
  show min 1073741824 (((n * 2 ^ k) <<< (-(k : Int)).toNat) / 2 ^ (- -(k : Int)).toNat) = _
  rw [show (-(k : Int)).toNat = 0 by omega, show (- -(k : Int)).toNat = k by omega, Nat.shiftLeft_eq, Nat.pow_zero, Nat.mul_one, Nat.mul_div_cancel _ (Nat.two_pow_pos k)]
theorem trunc_at (m : Nat) (e : Int) : (Datum.number false m e).toInt .zero = some ((((m <<< e.toNat) / 2 ^ (-e).toNat : Nat)) : Int) := by
  show some (signed false (Toward.zero.cut false (m <<< e.toNat) (-e).toNat) 0) = _
  rw [cut_floor _ (.inr rfl), signed_pos, Nat.pow_zero, Nat.mul_one]
theorem floor_at (m : Nat) (e : Int) : FloatKind.f64.encode ((Datum.number false m e).integral .down) = fl ((m <<< e.toNat) / 2 ^ (-e).toNat) := by
  show Ieee.double.write (.number false (Toward.down.cut false (m <<< e.toNat) (-e).toNat) 0) = _
  rw [cut_floor _ (.inl rfl)]
  rfl
theorem toint_at (x m : Nat) (e : Int) (h : Ieee.double.read x = .number false m e) (hl : (m <<< e.toNat) / 2 ^ (-e).toNat ≤ 1073741824) : floatToIntVal .f64 x .i64 = some ((((m <<< e.toNat) / 2 ^ (-e).toNat : Nat)) : Int) := by
  unfold floatToIntVal
  show (match (Ieee.double.read x).toInt .zero with | some n => _ | none => _) = _
  rw [h, trunc_at]
  generalize (m <<< e.toNat) / 2 ^ (-e).toNat = z at hl ⊢
  dsimp only
  rw [if_pos]
  constructor
  · rw [show IntKind.i64.min = -9223372036854775808 by decide +kernel]; omega
  · rw [show IntKind.i64.max = 9223372036854775807 by decide +kernel]; omega
theorem toint_fl (n : Nat) (hn : n ≤ 1073741824) : floatToIntVal .f64 (fl n) .i64 = some (n : Int) := by
  obtain ⟨k, hk⟩ := read_is n (by omega)
  have e : ((n * 2 ^ k) <<< (-(k : Int)).toNat) / 2 ^ (- -(k : Int)).toNat = n := by
    rw [show (-(k : Int)).toNat = 0 by omega, show (- -(k : Int)).toNat = k by omega, Nat.shiftLeft_eq, Nat.pow_zero, Nat.mul_one, Nat.mul_div_cancel _ (Nat.two_pow_pos k)]
  have := toint_at (fl n) _ _ hk (by rw [e]; exact hn)
  rwa [e] at this
end Go.Proofs.Ytdfmebfkhcdphaa.M

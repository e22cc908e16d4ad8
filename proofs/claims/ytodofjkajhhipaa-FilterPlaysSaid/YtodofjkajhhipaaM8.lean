/-
  Plain mathematics of packed bits: words that hold sixty-four of them, how many of them are on. No condition.
-/
import Derived.Test.YtodofjkajhhipaaM7
set_option linter.unusedSimpArgs false
set_option linter.unusedVariables false
namespace Go.Proofs.Ytodofjkajhhipaa
namespace M

/-- The word whose bit i is f i, for i below n. -/
def wF (f : Nat → Bool) : Nat → Nat
  | 0 => 0
  | n + 1 => 2 ^ n * (f n).toNat + wF f n
theorem wF_lt (f : Nat → Bool) : ∀ n, wF f n < 2 ^ n
  | 0 => by simp [wF]
  | n + 1 => by
    have h1 := wF_lt f n
    have h2 : (f n).toNat ≤ 1 := by cases f n <;> decide
    show 2 ^ n * (f n).toNat + wF f n < 2 ^ (n + 1)
    have : 2 ^ n * (f n).toNat ≤ 2 ^ n * 1 := Nat.mul_le_mul_left _ h2
    rw [Nat.pow_succ]
    omega
theorem bool_bit (b : Bool) (i : Nat) : b.toNat.testBit i = (decide (i = 0) && b) := by
  cases i with
  | zero => cases b <;> rfl
  | succ i => cases b <;> simp [Nat.testBit_succ]
theorem wF_bit (f : Nat → Bool) (i : Nat) : ∀ n, (wF f n).testBit i = (decide (i < n) && f i)
  | 0 => by simp [wF]
  | n + 1 => by
    show (2 ^ n * (f n).toNat + wF f n).testBit i = _
    rw [Nat.testBit_two_pow_mul_add _ (wF_lt f n), wF_bit f i n, bool_bit]
    by_cases h : i < n
    · rw [if_pos h, decide_eq_true h, decide_eq_true (show i < n + 1 by omega)]
    · rw [if_neg h]
      by_cases e : i = n
      · subst e
        rw [decide_eq_true (show i - i = 0 by omega), decide_eq_true (show i < i + 1 by omega)]
      · rw [decide_eq_false (show ¬ i - n = 0 by omega), decide_eq_false (show ¬ i < n + 1 by omega)]
        rfl
def wordB (C : List Bool) (j : Nat) : Nat := wF (fun i => C.getD (64 * j + i) false) 64
def wordsB (C : List Bool) : List Nat := (List.range ((C.length + 63) / 64)).map (wordB C)
theorem wordB_lt (C : List Bool) (j : Nat) : wordB C j < 18446744073709551616 := wF_lt _ 64
theorem wordB_bit (C : List Bool) (j i : Nat) : (wordB C j).testBit i = (decide (i < 64) && C.getD (64 * j + i) false) := wF_bit _ i 64
theorem wordB_at (C : List Bool) (k : Nat) : (wordB C (k / 64)).testBit (k % 64) = C.getD k false := by
  rw [wordB_bit, decide_eq_true (show k % 64 < 64 by omega), show 64 * (k / 64) + k % 64 = k by omega]
  rfl
theorem getDB_set {C : List Bool} {k i : Nat} {v : Bool} (hk : k < C.length) : (C.set k v).getD i false = if i = k then v else C.getD i false := by
  rw [List.getD_eq_getElem?_getD, List.getElem?_set, List.getD_eq_getElem?_getD]
  split
  · rename_i h
    subst h
    simp [hk]
  · rename_i h
    rw [if_neg (fun e => h e.symm)]
theorem wordB_set_bit {C : List Bool} {k : Nat} (v : Bool) (hk : k < C.length) (i : Nat) : (wordB (C.set k v) (k / 64)).testBit i = if i = k % 64 then v else (wordB C (k / 64)).testBit i := by
  rw [wordB_bit, wordB_bit, getDB_set hk]
  by_cases e : i = k % 64
  · rw [if_pos e, if_pos (by omega), decide_eq_true (show i < 64 by omega)]
    rfl
  · rw [if_neg e]
    by_cases h : i < 64
    · rw [if_neg (by omega)]
    · rw [decide_eq_false h]
      rfl
theorem wordB_on {C : List Bool} {k : Nat} (hk : k < C.length) : wordB (C.set k true) (k / 64) = wordB C (k / 64) ||| 2 ^ (k % 64) := by
  apply Nat.eq_of_testBit_eq
  intro i
  rw [wordB_set_bit true hk, Nat.testBit_or, Nat.testBit_two_pow]
  by_cases e : i = k % 64
  · rw [if_pos e, decide_eq_true e.symm, Bool.or_true]
  · rw [if_neg e, decide_eq_false (fun h => e h.symm), Bool.or_false]
theorem wordB_far {C : List Bool} {k j : Nat} (v : Bool) (hk : k < C.length) (hj : j ≠ k / 64) : wordB (C.set k v) j = wordB C j := by
  apply Nat.eq_of_testBit_eq
  intro i
  rw [wordB_bit, wordB_bit, getDB_set hk]
  by_cases h : i < 64
  · rw [if_neg (by omega)]
  · rw [decide_eq_false h]
    rfl
theorem wordsB_len (C : List Bool) : (wordsB C).length = (C.length + 63) / 64 := by simp [wordsB]
theorem wordsB_at (C : List Bool) (j : Nat) (h : j < (C.length + 63) / 64) : (wordsB C)[j]? = some (wordB C j) := by simp [wordsB, h]
theorem wordsB_set (C : List Bool) (k : Nat) (v : Bool) (hk : k < C.length) : (wordsB C).set (k / 64) (wordB (C.set k v) (k / 64)) = wordsB (C.set k v) := by
  apply List.ext_getElem?
  intro j
  rw [List.getElem?_set, wordsB_len]
  by_cases hj : j < (C.length + 63) / 64
  · rw [wordsB_at (C.set k v) j (by rw [List.length_set]; exact hj)]
    by_cases e : k / 64 = j
    · rw [if_pos e, if_pos (by omega), e]
    · rw [if_neg e, wordsB_at C j hj, wordB_far v hk (fun h => e h.symm)]
  · rw [List.getElem?_eq_none (l := wordsB (C.set k v)) (by rw [wordsB_len, List.length_set]; omega)]
    split
    · rw [if_neg (by omega)]
    · rw [List.getElem?_eq_none (by rw [wordsB_len]; omega)]
theorem getDB_rep (n i : Nat) : (List.replicate n false).getD i false = false := by
  rw [List.getD_eq_getElem?_getD, List.getElem?_replicate]
  split <;> rfl
theorem wordsB_zero (n : Nat) : wordsB (List.replicate n false) = List.replicate ((n + 63) / 64) 0 := by
  unfold wordsB
  rw [List.length_replicate]
  apply List.ext_getElem?
  intro j
  by_cases hj : j < (n + 63) / 64
  · simp only [List.getElem?_map, List.getElem?_range hj, Option.map_some]
    rw [List.getElem?_replicate, if_pos hj]
    refine congrArg some ?_
    apply Nat.eq_of_testBit_eq
    intro i
    rw [wordB_bit, getDB_rep, Bool.and_false, Nat.zero_testBit]
  · rw [List.getElem?_eq_none (by simp; omega), List.getElem?_eq_none (by simp; omega)]

/-- How many bits are on. -/
def cntB (C : List Bool) : Nat := C.count true
theorem cntB_append (C D : List Bool) : cntB (C ++ D) = cntB C + cntB D := List.count_append ..
theorem cntB_cons (b : Bool) (C : List Bool) : cntB (b :: C) = cntB C + b.toNat := by
  unfold cntB
  rw [List.count_cons]
  cases b <;> simp
theorem cntB_le (C : List Bool) : cntB C ≤ C.length := List.count_le_length
theorem cntB_zero (n : Nat) : cntB (List.replicate n false) = 0 := by simp [cntB, List.count_replicate]
theorem cntB_snoc (C : List Bool) (k : Nat) (h : k < C.length) : cntB (C.take (k + 1)) = cntB (C.take k) + (C[k]).toNat := by
  rw [List.take_succ_eq_append_getElem h, cntB_append, cntB_cons]
  simp [cntB]
theorem popN_list : ∀ (m : Nat) (L : List Bool) (x : Nat), (∀ i, i < m → x.testBit i = L.getD i false) → popN m x = cntB (L.take m)
  | 0, L, x, _ => by simp [popN, cntB]
  | m + 1, [], x, h => by
    have ih := popN_list m [] (x / 2) (fun i hi => by
      have := h (i + 1) (by omega)
      rw [Nat.testBit_succ] at this
      simpa using this)
    have h0 := h 0 (by omega)
    show x % 2 + popN m (x / 2) = _
    rw [ih]
    rw [Nat.testBit_zero] at h0
    have : x % 2 = 0 := by
      have : ¬ x % 2 = 1 := by simpa using h0
      omega
    rw [this]
    simp [cntB]
  | m + 1, a :: L, x, h => by
    have ih := popN_list m L (x / 2) (fun i hi => by
      have := h (i + 1) (by omega)
      rw [Nat.testBit_succ] at this
      simpa using this)
    have h0 := h 0 (by omega)
    show x % 2 + popN m (x / 2) = _
    rw [ih, List.take_succ_cons, cntB_cons]
    rw [Nat.testBit_zero] at h0
    have : x % 2 = a.toNat := by
      cases a
      · have : ¬ x % 2 = 1 := by simpa using h0
        show x % 2 = 0
        omega
      · have : x % 2 = 1 := by simpa using h0
        exact this
    omega
/-- Bits of the first words that are on. -/
def onTo (C : List Bool) (j : Nat) : Nat := cntB (C.take (64 * j))
theorem on_step (C : List Bool) (j : Nat) : onTo C (j + 1) = onTo C j + popN 64 (wordB C j) := by
  rw [popN_list 64 (C.drop (64 * j)) (wordB C j) (fun i hi => by
    rw [wordB_bit, decide_eq_true hi, Bool.true_and, List.getD_eq_getElem?_getD, List.getD_eq_getElem?_getD, List.getElem?_drop])]
  unfold onTo
  rw [Nat.mul_add, Nat.mul_one, List.take_add, cntB_append]
theorem on_end (C : List Bool) : onTo C ((C.length + 63) / 64) = cntB C := by
  unfold onTo
  rw [List.take_of_length_le (by omega)]
theorem onTo_le (C : List Bool) (j : Nat) : onTo C j ≤ C.length := by
  have := cntB_le (C.take (64 * j))
  rw [List.length_take] at this
  unfold onTo
  omega
end M
end Go.Proofs.Ytodofjkajhhipaa

/-
  Plain mathematics of packed counters: words that hold sixteen of them, how many of them are full. No condition.
-/
import Derived.Test.YtodofjkajhhipaaM7
set_option linter.unusedSimpArgs false
set_option linter.unusedVariables false
namespace Go.Proofs.Ytodofjkajhhipaa
namespace M

/-- The sixteen counters of word j. -/
def nibL (C : List Nat) (j : Nat) : List Nat := (List.range 16).map fun i => C.getD (16 * j + i) 0
def wordN (C : List Nat) (j : Nat) : Nat := dg 4 (nibL C j)
def wordsN (C : List Nat) : List Nat := (List.range ((C.length + 15) / 16)).map (wordN C)
theorem nibL_len (C : List Nat) (j : Nat) : (nibL C j).length = 16 := by simp [nibL]
theorem nibL_at (C : List Nat) (j i : Nat) (h : i < (nibL C j).length) : (nibL C j)[i] = C.getD (16 * j + i) 0 := by simp [nibL]
theorem getD_lt {C : List Nat} (h : ∀ c ∈ C, c ≤ 15) (i : Nat) : C.getD i 0 < 16 := by
  rw [List.getD_eq_getElem?_getD]
  by_cases hi : i < C.length
  · rw [List.getElem?_eq_getElem hi]
    have := h C[i] (List.getElem_mem hi)
    show C[i] < 16
    omega
  · rw [List.getElem?_eq_none (by omega)]
    decide
theorem nibL_lt {C : List Nat} (h : ∀ c ∈ C, c ≤ 15) (j : Nat) : ∀ a ∈ nibL C j, a < 2 ^ 4 := by
  intro a ha
  unfold nibL at ha
  rw [List.mem_map] at ha
  obtain ⟨i, -, rfl⟩ := ha
  exact getD_lt h _
theorem wordN_lt {C : List Nat} (h : ∀ c ∈ C, c ≤ 15) (j : Nat) : wordN C j < 18446744073709551616 := by
  have := dg_lt (nibL_lt h j)
  rwa [nibL_len] at this
theorem wordN_at {C : List Nat} (h : ∀ c ∈ C, c ≤ 15) (k : Nat) : wordN C (k / 16) / 2 ^ (4 * (k % 16)) % 16 = C.getD k 0 := by
  have hk : k % 16 < (nibL C (k / 16)).length := by rw [nibL_len]; omega
  have := dg_at (k % 16) hk (nibL_lt h (k / 16))
  rw [nibL_at, show 16 * (k / 16) + k % 16 = k by omega] at this
  exact this
theorem getD_set {C : List Nat} {k v i : Nat} (hk : k < C.length) : (C.set k v).getD i 0 = if i = k then v else C.getD i 0 := by
  rw [List.getD_eq_getElem?_getD, List.getElem?_set, List.getD_eq_getElem?_getD]
  split
  · rename_i h
    subst h
    simp [hk]
  · rename_i h
    rw [if_neg (fun e => h e.symm)]
theorem nibL_set (C : List Nat) (k v : Nat) (hk : k < C.length) : nibL (C.set k v) (k / 16) = (nibL C (k / 16)).set (k % 16) v := by
  apply List.ext_getElem
  · rw [List.length_set, nibL_len, nibL_len]
  · intro i h1 h2
    rw [nibL_at, getD_set hk, List.getElem_set]
    have : (16 * (k / 16) + i = k) ↔ (k % 16 = i) := by omega
    by_cases e : k % 16 = i
    · rw [if_pos (this.2 e), if_pos e]
    · rw [if_neg (fun x => e (this.1 x)), if_neg e, nibL_at]
theorem nibL_far (C : List Nat) (k v j : Nat) (hk : k < C.length) (hj : j ≠ k / 16) : nibL (C.set k v) j = nibL C j := by
  unfold nibL
  apply List.map_congr_left
  intro i hi
  rw [List.mem_range] at hi
  rw [getD_set hk, if_neg (by omega)]
theorem wordN_set (C : List Nat) (k v : Nat) (hk : k < C.length) : wordN (C.set k v) (k / 16) + C[k] * 2 ^ (4 * (k % 16)) = wordN C (k / 16) + v * 2 ^ (4 * (k % 16)) := by
  unfold wordN
  rw [nibL_set C k v hk]
  have hl : k % 16 < (nibL C (k / 16)).length := by rw [nibL_len]; omega
  have := dg_set (b := 4) (k % 16) v hl
  rw [nibL_at, show 16 * (k / 16) + k % 16 = k by omega, List.getD_eq_getElem?_getD, List.getElem?_eq_getElem hk] at this
  exact this
theorem wordsN_len (C : List Nat) : (wordsN C).length = (C.length + 15) / 16 := by simp [wordsN]
theorem wordsN_at (C : List Nat) (j : Nat) (h : j < (C.length + 15) / 16) : (wordsN C)[j]? = some (wordN C j) := by simp [wordsN, h]
theorem wordsN_set (C : List Nat) (k v : Nat) (hk : k < C.length) : (wordsN C).set (k / 16) (wordN (C.set k v) (k / 16)) = wordsN (C.set k v) := by
  apply List.ext_getElem?
  intro j
  rw [List.getElem?_set, wordsN_len]
  by_cases hj : j < (C.length + 15) / 16
  · rw [wordsN_at (C.set k v) j (by rw [List.length_set]; exact hj)]
    by_cases e : k / 16 = j
    · rw [if_pos e, if_pos (by omega), e]
    · rw [if_neg e, wordsN_at C j hj]
      unfold wordN
      rw [nibL_far C k v j hk (fun h => e h.symm)]
  · rw [List.getElem?_eq_none (l := wordsN (C.set k v)) (by rw [wordsN_len, List.length_set]; omega)]
    split
    · rw [if_neg (by omega)]
    · rw [List.getElem?_eq_none (by rw [wordsN_len]; omega)]
theorem dg_zero (b : Nat) : ∀ n, dg b (List.replicate n 0) = 0
  | 0 => rfl
  | n + 1 => by
    show 2 ^ b * dg b (List.replicate n 0) + 0 = 0
    rw [dg_zero b n]
    rfl
theorem wordsN_zero (n : Nat) : wordsN (List.replicate n 0) = List.replicate ((n + 15) / 16) 0 := by
  unfold wordsN
  rw [List.length_replicate]
  apply List.ext_getElem?
  intro j
  by_cases hj : j < (n + 15) / 16
  · simp only [List.getElem?_map, List.getElem?_range hj, Option.map_some]
    rw [List.getElem?_replicate, if_pos hj]
    congr 1
    unfold wordN
    rw [show nibL (List.replicate n 0) j = List.replicate 16 0 from ?_, dg_zero]
    apply List.ext_getElem
    · simp [nibL]
    · intro i h1 h2
      rw [nibL_at, List.getElem_replicate, List.getD_eq_getElem?_getD, List.getElem?_replicate]
      split <;> rfl
  · rw [List.getElem?_eq_none (by simp; omega), List.getElem?_eq_none (by simp; omega)]

/-- How many counters are at 15. -/
def fullN (C : List Nat) : Nat := (C.filter (· == 15)).length
def all4 (a : Nat) : Nat := if a = 15 then 1 else 0
theorem t4 : ∀ (a : Fin 16) (c : Fin 8), (((((a.val &&& (8 * (c.val % 2) + a.val / 2)) &&& (4 * (c.val % 4) + a.val / 4)) &&& (2 * c.val + a.val / 8)) &&& 1) = all4 a.val) ∧ popN 4 (all4 a.val) = all4 a.val := by decide +kernel
theorem all4_dg : ∀ (l : List Nat), (∀ a ∈ l, a < 16) → (((dg 4 l &&& dg 4 l / 2) &&& dg 4 l / 4) &&& dg 4 l / 8) &&& dg 4 (List.replicate l.length 1) = dg 4 (l.map all4)
  | [], _ => by simp [dg]
  | a :: l, h => by
    have ih := all4_dg l (fun x hx => h x (by simp [hx]))
    have h1 := h a (by simp)
    rw [List.length_cons, List.replicate_succ, List.map_cons]
    show ((((2 ^ 4 * dg 4 l + a) &&& (2 ^ 4 * dg 4 l + a) / 2) &&& (2 ^ 4 * dg 4 l + a) / 4) &&& (2 ^ 4 * dg 4 l + a) / 8) &&& (2 ^ 4 * dg 4 (List.replicate l.length 1) + 1) = 2 ^ 4 * dg 4 (l.map all4) + all4 a
    rw [← ih]
    rw [show (2 ^ 4 * dg 4 l + a) / 2 = 2 ^ 4 * (dg 4 l / 2) + (8 * (dg 4 l % 2) + a / 2) by omega, show (2 ^ 4 * dg 4 l + a) / 4 = 2 ^ 4 * (dg 4 l / 4) + (4 * (dg 4 l % 4) + a / 4) by omega, show (2 ^ 4 * dg 4 l + a) / 8 = 2 ^ 4 * (dg 4 l / 8) + (2 * (dg 4 l % 8) + a / 8) by omega]
    rw [and_dg 4 _ _ _ _ h1 (by omega), and_dg 4 _ _ _ _ (Nat.lt_of_le_of_lt Nat.and_le_left h1) (by omega), and_dg 4 _ _ _ _ (Nat.lt_of_le_of_lt Nat.and_le_left (Nat.lt_of_le_of_lt Nat.and_le_left h1)) (by omega),
      and_dg 4 _ _ _ _ (Nat.lt_of_le_of_lt Nat.and_le_left (Nat.lt_of_le_of_lt Nat.and_le_left (Nat.lt_of_le_of_lt Nat.and_le_left h1))) (by decide)]
    have := (t4 ⟨a, h1⟩ ⟨dg 4 l % 8, by omega⟩).1
    simp only [show dg 4 l % 8 % 2 = dg 4 l % 2 by omega, show dg 4 l % 8 % 4 = dg 4 l % 4 by omega] at this
    rw [this]
theorem all4_lt (a : Nat) : all4 a < 2 ^ 4 := by
  unfold all4
  split <;> decide
/-- Of a word's sixteen counters so many are at 15. -/
theorem full_word {C : List Nat} (h : ∀ c ∈ C, c ≤ 15) (j : Nat) : popN 64 ((((wordN C j &&& wordN C j / 2) &&& wordN C j / 4) &&& wordN C j / 8) &&& 1229782938247303441) = ((nibL C j).map all4).sum := by
  have h1 := all4_dg (nibL C j) (nibL_lt h j)
  rw [nibL_len, show dg 4 (List.replicate 16 1) = 1229782938247303441 by decide +kernel] at h1
  unfold wordN
  rw [h1]
  have h2 := popN_dg (b := 4) ((nibL C j).map all4) (by
    intro a ha
    rw [List.mem_map] at ha
    obtain ⟨x, -, rfl⟩ := ha
    exact all4_lt x)
  rw [List.length_map, nibL_len] at h2
  rw [show popN 64 (dg 4 ((nibL C j).map all4)) = popN (4 * 16) (dg 4 ((nibL C j).map all4)) from rfl, h2, List.map_map]
  have e : List.map (popN 4 ∘ all4) (nibL C j) = List.map all4 (nibL C j) := by
    apply List.map_congr_left
    intro a ha
    show popN 4 (all4 a) = all4 a
    unfold all4
    split <;> rfl
  rw [e]
/-- Counters of the first words, at 15. -/
def fullTo (C : List Nat) (j : Nat) : Nat := fullN (C.take (16 * j))
theorem fullN_append (C D : List Nat) : fullN (C ++ D) = fullN C + fullN D := by simp [fullN]
theorem fullN_le (C : List Nat) : fullN C ≤ C.length := List.length_filter_le _ _
theorem fullN_sum : ∀ C : List Nat, (C.map all4).sum = fullN C
  | [] => rfl
  | a :: l => by
    rw [List.map_cons, List.sum_cons, fullN_sum l]
    unfold fullN all4
    rw [List.filter_cons]
    by_cases h : a = 15 <;> simp [h] <;> omega
theorem nibL_take (C : List Nat) (j : Nat) : (nibL C j).map all4 = ((C.drop (16 * j)).take 16).map all4 ++ List.replicate (16 - ((C.drop (16 * j)).take 16).length) 0 := by
  apply List.ext_getElem
  · simp [nibL]
    omega
  · intro i h1 h2
    rw [List.length_map, nibL_len] at h1
    rw [List.getElem_map, nibL_at, List.getElem_append]
    split
    · rename_i h3
      simp only [List.length_map, List.length_take, List.length_drop] at h3
      rw [List.getElem_map, List.getElem_take, List.getElem_drop, List.getD_eq_getElem?_getD, List.getElem?_eq_getElem (by omega)]
      rfl
    · rename_i h3
      simp only [List.length_map, List.length_take, List.length_drop] at h3
      rw [List.getElem_replicate, List.getD_eq_getElem?_getD, List.getElem?_eq_none (by omega)]
      rfl
theorem sum_zeros : ∀ n : Nat, (List.replicate n 0).sum = 0
  | 0 => rfl
  | n + 1 => by rw [List.replicate_succ, List.sum_cons, sum_zeros n]
theorem full_step {C : List Nat} (h : ∀ c ∈ C, c ≤ 15) (j : Nat) : fullTo C (j + 1) = fullTo C j + popN 64 ((((wordN C j &&& wordN C j / 2) &&& wordN C j / 4) &&& wordN C j / 8) &&& 1229782938247303441) := by
  rw [full_word h, nibL_take, List.sum_append, fullN_sum, sum_zeros]
  unfold fullTo
  rw [Nat.mul_add, Nat.mul_one, List.take_add, fullN_append]
  simp
theorem full_end (C : List Nat) : fullTo C ((C.length + 15) / 16) = fullN C := by
  unfold fullTo
  rw [List.take_of_length_le (by omega)]
theorem fullTo_le (C : List Nat) (j : Nat) : fullTo C j ≤ C.length := by
  have := fullN_le (C.take (16 * j))
  rw [List.length_take] at this
  unfold fullTo
  omega
end M
end Go.Proofs.Ytodofjkajhhipaa

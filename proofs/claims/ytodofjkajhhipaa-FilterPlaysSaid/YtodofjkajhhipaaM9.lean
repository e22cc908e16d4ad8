/-
  The mathematics of a counting filter: what rows of Ups and Downs leave, counter by counter, in whichever order they come; which bits are on. No condition but those that stand in each.
-/
import Derived.Test.YtodofjkajhhipaaNib2
import Derived.Test.YtodofjkajhhipaaBits
set_option linter.unusedSimpArgs false
set_option linter.unusedVariables false
namespace Go.Proofs.Ytodofjkajhhipaa
open Go.RowKit Go.Sort M

/-- The counters behind Ups, or Downs, of a row of places. -/
def addL (C : List Nat) (L : List Int) : List Nat := L.foldl upL C
def remL (C : List Nat) (L : List Int) : List Nat := L.foldl downL C
/-- Are the bits of all of a row of places on. -/
def mayL (C : List Nat) (L : List Int) : Bool := L.all fun i => decide (getN C i ≠ 0)
/-- The bits that tell which counters are not 0. -/
def onsC (C : List Nat) : List Bool := C.map fun c => decide (c ≠ 0)
theorem onsC_len (C : List Nat) : (onsC C).length = C.length := by simp [onsC]
theorem onsC_zero (n : Nat) : onsC (List.replicate n 0) = List.replicate n false := by simp [onsC]
theorem addL_len : ∀ (L : List Int) (C : List Nat), (addL C L).length = C.length
  | [], _ => rfl
  | a :: L, C => (addL_len L (upL C a)).trans (upL_len C a)
theorem remL_len : ∀ (L : List Int) (C : List Nat), (remL C L).length = C.length
  | [], _ => rfl
  | a :: L, C => (remL_len L (downL C a)).trans (downL_len C a)
theorem addL_snoc (C : List Nat) (L : List Int) (k : Nat) (h : k < L.length) : addL C (L.take (k + 1)) = upL (addL C (L.take k)) L[k] := by
  unfold addL
  rw [List.take_succ_eq_append_getElem h, List.foldl_append]
  rfl
theorem remL_snoc (C : List Nat) (L : List Int) (k : Nat) (h : k < L.length) : remL C (L.take (k + 1)) = downL (remL C (L.take k)) L[k] := by
  unfold remL
  rw [List.take_succ_eq_append_getElem h, List.foldl_append]
  rfl
theorem mayL_nil (C : List Nat) : mayL C [] = true := rfl
theorem mayL_no {C : List Nat} {L : List Int} {k : Nat} (h : k < L.length) (h0 : getN C L[k] = 0) : mayL C L = false := by
  unfold mayL
  rw [List.all_eq_false]
  exact ⟨L[k], List.getElem_mem h, by simp [h0]⟩
theorem mayL_yes {C : List Nat} {L : List Int} (h : ∀ k (hk : k < L.length), getN C L[k] ≠ 0) : mayL C L = true := by
  unfold mayL
  rw [List.all_eq_true]
  intro x hx
  obtain ⟨k, hk, rfl⟩ := List.getElem_of_mem hx
  simpa using h k hk
theorem getB_ons (C : List Nat) (k : Int) : getB (onsC C) k = decide (getN C k ≠ 0) := by
  unfold getB getN
  split
  · rw [List.getD_eq_getElem?_getD, List.getD_eq_getElem?_getD]
    unfold onsC
    rw [List.getElem?_map]
    cases h : C[k.toNat]? <;> simp
  · rfl
theorem ons_set (C : List Nat) (k : Nat) (v : Nat) : onsC (C.set k v) = (onsC C).set k (decide (v ≠ 0)) := by
  unfold onsC
  rw [List.map_set]
theorem set_self {α : Type} : ∀ (L : List α) (k : Nat) (h : k < L.length), L.set k L[k] = L
  | a :: L, 0, _ => rfl
  | a :: L, k + 1, h => congrArg (a :: ·) (set_self L k (Nat.lt_of_succ_lt_succ h))
theorem ons_self {C : List Nat} {k : Nat} (h : k < C.length) (b : Bool) (hb : b = decide (C[k] ≠ 0)) : (onsC C).set k b = onsC C := by
  subst hb
  rw [← ons_set, set_self]
/-- The bit of a counter that went up is on. -/
theorem ons_up (C : List Nat) (i : Int) : setB (onsC C) i true = onsC (upL C i) := by
  unfold setB
  rw [onsC_len]
  by_cases h : 0 ≤ i ∧ i < C.length
  · rw [if_pos h]
    obtain ⟨k, rfl⟩ := Int.eq_ofNat_of_zero_le h.1
    have hk : k < C.length := by omega
    rw [Int.toNat_natCast]
    by_cases h15 : C[k] = 15
    · rw [(up_full hk h15).2, ons_self hk true (by simp [h15])]
    · rw [(up_more hk h15).2, ons_set]
      simp
  · rw [if_neg h, (up_out h).2]
/-- .. and of one that went down as the counter says. -/
theorem ons_down (C : List Nat) (i : Int) : setB (onsC C) i (decide (getN (downL C i) i ≠ 0)) = onsC (downL C i) := by
  unfold setB
  rw [onsC_len]
  by_cases h : 0 ≤ i ∧ i < C.length
  · rw [if_pos h]
    obtain ⟨k, rfl⟩ := Int.eq_ofNat_of_zero_le h.1
    have hk : k < C.length := by omega
    rw [Int.toNat_natCast]
    by_cases hv : C[k] = 15 ∨ C[k] = 0
    · rw [(down_stays hk hv).2, ons_self hk _ (by rw [getN_at hk])]
    · rw [(down_less hk (fun e => hv (.inl e)) (fun e => hv (.inr e))).2, ons_set, getN_at (by simpa using hk)]
      simp
  · rw [if_neg h, (down_out h).2]

/-- Counters of m places, behind Ups of the row A. -/
def tally (m : Nat) (A : List Int) : List Nat := (List.range m).map fun (j : Nat) => min 15 (A.count (j : Int))
theorem tally_len (m : Nat) (A : List Int) : (tally m A).length = m := by simp [tally]
theorem tally_nil (m : Nat) : List.replicate m 0 = tally m [] := by
  apply List.ext_getElem
  · simp [tally]
  · intro i h1 h2
    simp [tally]
theorem tally_at (m : Nat) (A : List Int) (j : Nat) (h : j < (tally m A).length) : (tally m A)[j] = min 15 (A.count (j : Int)) := by simp [tally]
theorem tally_get (m : Nat) (A : List Int) (j : Nat) (h : j < m) : getN (tally m A) (j : Int) = min 15 (A.count (j : Int)) := by
  rw [getN_at (by rw [tally_len]; exact h), tally_at]
theorem tally_same {m : Nat} {A B : List Int} (h : ∀ x : Int, A.count x = B.count x) : tally m A = tally m B := by
  unfold tally
  simp only [h]
theorem upL_tally (m : Nat) (A : List Int) (i : Int) : upL (tally m A) i = tally m (A ++ [i]) := by
  by_cases h : 0 ≤ i ∧ i < (tally m A).length
  · obtain ⟨k, rfl⟩ := Int.eq_ofNat_of_zero_le h.1
    have hk : k < (tally m A).length := by omega
    have hv := tally_at m A k hk
    apply List.ext_getElem
    · rw [upL_len, tally_len, tally_len]
    · intro j h1 h2
      rw [tally_at, List.count_append, List.count_singleton]
      by_cases e : k = j
      · subst e
        rw [if_pos (by simp)]
        by_cases h15 : (tally m A)[k] = 15
        · simp only [(up_full hk h15).2]
          omega
        · simp only [(up_more hk h15).2, List.getElem_set_self]
          omega
      · rw [if_neg (by simp; omega)]
        by_cases h15 : (tally m A)[k] = 15
        · simp only [(up_full hk h15).2]
          rw [tally_at]
          rfl
        · simp only [(up_more hk h15).2]
          rw [List.getElem_set_ne e, tally_at]
          rfl
  · rw [(up_out h).2]
    apply List.ext_getElem
    · rw [tally_len, tally_len]
    · intro j h1 h2
      rw [tally_at, tally_at, List.count_append, List.count_singleton, if_neg]
      · rfl
      · simp
        rintro rfl
        omega
theorem addL_tally (m : Nat) : ∀ (L A : List Int), addL (tally m A) L = tally m (A ++ L)
  | [], A => by rw [List.append_nil]; rfl
  | a :: L, A => by
    show addL (upL (tally m A) a) L = _
    rw [upL_tally, addL_tally m L, List.append_assoc]
    rfl
theorem downL_get (C : List Nat) (i : Int) (j : Nat) (h : j < C.length) (h16 : C[j] ≤ 15) : getN (downL C i) (j : Int) = if i = j then (if getN C j = 15 then 15 else getN C j - 1) else getN C j := by
  by_cases hi : 0 ≤ i ∧ i < C.length
  · obtain ⟨k, rfl⟩ := Int.eq_ofNat_of_zero_le hi.1
    have hk : k < C.length := by omega
    rw [getN_at h]
    by_cases hv : C[k] = 15 ∨ C[k] = 0
    · rw [(down_stays hk hv).2, getN_at h]
      by_cases e : k = j
      · subst e
        rw [if_pos rfl]
        rcases hv with hv | hv
        · rw [hv, if_pos rfl]
        · rw [hv, if_neg (by decide)]
      · rw [if_neg (by omega)]
    · rw [(down_less hk (fun e => hv (.inl e)) (fun e => hv (.inr e))).2, getN_at (by simpa using h)]
      by_cases e : k = j
      · subst e
        rw [if_pos rfl, if_neg (fun e => hv (.inl e)), List.getElem_set_self]
      · rw [if_neg (by omega), List.getElem_set_ne e]
  · rw [(down_out hi).2, if_neg (by rintro rfl; omega)]
theorem remL_get : ∀ (L : List Int) (C : List Nat) (j : Nat), j < C.length → getN C (j : Int) ≤ 15 → getN (remL C L) (j : Int) = if getN C j = 15 then 15 else getN C j - L.count (j : Int)
  | [], C, j, h, h16 => by
    show getN C j = _
    split
    · assumption
    · simp
  | a :: L, C, j, h, h16 => by
    have hd := downL_get C a j h (by rw [getN_at h] at h16; exact h16)
    show getN (remL (downL C a) L) j = _
    have hl : j < (downL C a).length := by rw [downL_len]; exact h
    by_cases e : a = (j : Int)
    · have hc : (a :: L).count (j : Int) = L.count (j : Int) + 1 := by rw [List.count_cons, if_pos (by simp [e])]
      rw [if_pos e] at hd
      rw [hc]
      by_cases h15 : getN C (j : Int) = 15
      · rw [if_pos h15] at hd
        rw [remL_get L (downL C a) j hl (by omega), if_pos h15, if_pos hd]
      · rw [if_neg h15] at hd
        rw [remL_get L (downL C a) j hl (by omega), if_neg h15, if_neg (by omega), hd]
        omega
    · have hc : (a :: L).count (j : Int) = L.count (j : Int) := by rw [List.count_cons, if_neg (by simpa using e), Nat.add_zero]
      rw [if_neg e] at hd
      rw [hc, remL_get L (downL C a) j hl (by omega), hd]
theorem fullN_none {C : List Nat} (h : fullN C = 0) {k : Nat} (hk : k < C.length) : C[k] ≠ 15 := by
  intro e
  unfold fullN at h
  rw [List.length_eq_zero_iff, List.filter_eq_nil_iff] at h
  exact h C[k] (List.getElem_mem hk) (by simp [e])
/-- What was added more often than removed may be there. -/
theorem kept_may (m : Nat) (S G K : List Int) (hm : ∀ k (hk : k < K.length), 0 ≤ K[k] ∧ K[k] < m) (hs : ∀ k (hk : k < K.length), K[k] ∈ S) : mayL (remL (tally m (S ++ G)) G) K = true := by
  refine mayL_yes fun k hk => ?_
  obtain ⟨h0, h1⟩ := hm k hk
  have hp := List.count_pos_iff.2 (hs k hk)
  obtain ⟨j, hj⟩ := Int.eq_ofNat_of_zero_le h0
  rw [hj] at h1 hp ⊢
  have hjm : j < m := by omega
  have ht := tally_get m (S ++ G) j hjm
  rw [remL_get G _ j (by rw [tally_len]; exact hjm) (by rw [ht]; omega), ht, List.count_append]
  split <;> omega
/-- While no counter is full each is how many lie there, also behind Downs of what went up. -/
theorem counts_left (m : Nat) (S G : List Int) (hf : fullN (tally m (S ++ G)) = 0) (j : Nat) (hj : j < m) : getN (remL (tally m (S ++ G)) G) (j : Int) = S.count (j : Int) := by
  have ht := tally_get m (S ++ G) j hj
  have hn := fullN_none hf (k := j) (by rw [tally_len]; exact hj)
  rw [tally_at] at hn
  rw [remL_get G _ j (by rw [tally_len]; exact hj) (by rw [ht]; omega), ht]
  rw [List.count_append] at hn ⊢
  rw [if_neg hn]
  omega
end Go.Proofs.Ytodofjkajhhipaa

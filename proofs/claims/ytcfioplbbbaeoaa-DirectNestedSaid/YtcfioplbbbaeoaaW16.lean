/-
  What histo.rise and histo.taken hand back. No condition but that the rows lie in memory and are short of a million.
-/
import Derived.Test.YtcfioplbbbaeoaaM11
import Derived.Test.YtcfioplbbbaeoaaW6
import Derived.Deep.LoopGhost
/-
  Plain mathematics of histograms: how many of each length are reckoned with, which levels rise, the level of a length, what all lengths cost; how a sum over lengths is one over what was counted; what one level more does. No condition but those that stand in each.
-/
set_option linter.unusedSimpArgs false
set_option linter.unusedVariables false
namespace Go.Proofs.Ytcfioplbbbaeoaa

/-- How many of length n are reckoned with. -/
def atC (C : List Int) (n : Nat) : Nat := (max 0 (min (C.getD n 0) 1048576)).toNat
theorem atC_le (C : List Int) (n : Nat) : atC C n ≤ 1048576 := by unfold atC; omega
theorem atC_at (C : List Int) (n : Nat) (h : n < C.length) : atC C n = (max 0 (min C[n] 1048576)).toNat := by unfold atC; simp [h]
theorem atC_past (C : List Int) (n : Nat) (h : C.length ≤ n) : atC C n = 0 := by
  unfold atC
  rw [List.getD_eq_getElem?_getD, List.getElem?_eq_none h]
  rfl
def riseB : Int → List Int → Bool
  | _, [] => true
  | low, a :: L => decide (low < a) && decide (a ≤ 128) && riseB a L
theorem rise_mem : ∀ (L : List Int) (low : Int), riseB low L = true → ∀ a ∈ L, low < a ∧ a ≤ 128
  | [], _, _, a, h => by cases h
  | b :: L, low, h, a, ha => by
    simp only [riseB, Bool.and_eq_true, decide_eq_true_eq] at h
    rcases List.mem_cons.1 ha with rfl | ha
    · exact h.1
    · have := rise_mem L b h.2 a ha
      omega
/-- The levels from the first that is not below n on. -/
def near (L : List Int) (n : Nat) : List Int := L.dropWhile fun a => decide (a < (n : Int))
theorem near_nil (n : Nat) : near [] n = [] := rfl
theorem near_cons (a : Int) (L : List Int) (n : Nat) : near (a :: L) n = if a < (n : Int) then near L n else a :: L := by
  unfold near
  rw [List.dropWhile_cons]
  simp
theorem near_near : ∀ (L : List Int) (m n : Nat), m ≤ n → near (near L m) n = near L n
  | [], _, _, _ => rfl
  | a :: L, m, n, h => by
    rw [near_cons a L m]
    by_cases h1 : a < (m : Int)
    · rw [if_pos h1, near_cons a L n, if_pos (by omega), near_near L m n h]
    · rw [if_neg h1]
theorem near_head : ∀ (L : List Int) (n : Nat) (a : Int) (M : List Int), near L n = a :: M → (n : Int) ≤ a ∧ a ∈ L
  | [], _, _, _, h => by cases h
  | b :: L, n, a, M, h => by
    rw [near_cons] at h
    by_cases h1 : b < (n : Int)
    · rw [if_pos h1] at h
      have := near_head L n a M h
      exact ⟨this.1, List.mem_cons_of_mem _ this.2⟩
    · rw [if_neg h1] at h
      injection h with h2 h3
      subst h2
      exact ⟨by omega, List.mem_cons_self⟩
theorem near_step (L : List Int) (k n : Nat) (hk : k < L.length) (h : L[k] < (n : Int)) : near (L.drop k) n = near (L.drop (k + 1)) n := by
  rw [List.drop_eq_getElem_cons hk, near_cons, if_pos h]
theorem near_stop (L : List Int) (k n : Nat) (hk : k < L.length) (h : ¬ L[k] < (n : Int)) : near (L.drop k) n = L[k] :: L.drop (k + 1) := by
  rw [List.drop_eq_getElem_cons hk, near_cons, if_neg h]
theorem near_end (L : List Int) (k n : Nat) (hk : L.length ≤ k) : near (L.drop k) n = [] := by rw [List.drop_eq_nil_of_le hk]; rfl
/-- What x of length n cost, its level the first of M. -/
def termH (M : List Int) (n x : Nat) : Option Nat :=
  match M with
  | [] => none
  | a :: _ => if 20 < a - (n : Int) then none else some (x * 2 ^ (a - (n : Int)).toNat)
theorem termH_le {M : List Int} {n x t : Nat} (h : termH M n x = some t) (hx : x ≤ 1048576) : t ≤ 1099511627776 := by
  cases M with
  | nil => cases h
  | cons a M =>
    simp only [termH] at h
    by_cases h1 : 20 < a - (n : Int)
    · rw [if_pos h1] at h; cases h
    · rw [if_neg h1] at h
      injection h with h
      subst h
      have : 2 ^ (a - (n : Int)).toNat ≤ 2 ^ 20 := Nat.pow_le_pow_right (by decide) (by omega)
      exact Nat.le_trans (Nat.mul_le_mul hx this) (by decide)
/-- How much n lengths cost at most. -/
def capS (n : Nat) : Nat := n * 1099511627776
theorem capS_same {s n : Nat} (h : s ≤ capS n) : s ≤ capS (n + 1) := Nat.le_trans h (Nat.mul_le_mul_right _ (Nat.le_succ n))
theorem capS_next {s t n : Nat} (h : s ≤ capS n) (ht : t ≤ 1099511627776) : s + t ≤ capS (n + 1) := by unfold capS at *; rw [Nat.succ_mul]; exact Nat.add_le_add h ht
theorem capS_top {s n : Nat} (h : s ≤ capS n) (hn : n ≤ 129) : s ≤ 141836999983104 := Nat.le_trans h (Nat.le_trans (Nat.mul_le_mul_right _ hn) (by decide))
/-- What k lengths from n on cost, beside s. -/
def sumK (C L : List Int) (low : Int) : Nat → Nat → Nat → Option Nat
  | 0, _, s => some s
  | k + 1, n, s => if (n : Int) ≤ low ∨ atC C n = 0 then sumK C L low k (n + 1) s else
    match termH (near L n) n (atC C n) with
    | none => none
    | some t => sumK C L low k (n + 1) (s + t)
def costK (C L : List Int) (low : Int) : Option Nat := if 0 ≤ low ∧ riseB low L = true then sumK C L low 129 0 0 else none
theorem sumK_skip (C L : List Int) (low : Int) (n s : Nat) (h : n < 129) (hs : (n : Int) ≤ low ∨ atC C n = 0) : sumK C L low (129 - n) n s = sumK C L low (129 - (n + 1)) (n + 1) s := by
  rw [show 129 - n = (129 - (n + 1)) + 1 by omega, sumK, if_pos hs]
theorem sumK_none (C L : List Int) (low : Int) (n s : Nat) (h : n < 129) (hs : ¬ ((n : Int) ≤ low ∨ atC C n = 0)) (ht : termH (near L n) n (atC C n) = none) : sumK C L low (129 - n) n s = none := by
  rw [show 129 - n = (129 - (n + 1)) + 1 by omega, sumK, if_neg hs, ht]
theorem sumK_some (C L : List Int) (low : Int) (n s t : Nat) (h : n < 129) (hs : ¬ ((n : Int) ≤ low ∨ atC C n = 0)) (ht : termH (near L n) n (atC C n) = some t) :
    sumK C L low (129 - n) n s = sumK C L low (129 - (n + 1)) (n + 1) (s + t) := by
  rw [show 129 - n = (129 - (n + 1)) + 1 by omega, sumK, if_neg hs, ht]
theorem sumK_from (C L : List Int) (low : Int) : ∀ m : Nat, m ≤ 129 → (m : Int) ≤ low + 1 → sumK C L low 129 0 0 = sumK C L low (129 - m) m 0
  | 0, _, _ => rfl
  | m + 1, h, hl => by
    rw [sumK_from C L low m (by omega) (by omega), sumK_skip C L low m 0 (by omega) (.inl (by omega))]
/-- A row's sum. -/
def smF (f : Nat → Nat) : Nat → Nat
  | 0 => 0
  | k + 1 => smF f k + f k
theorem smF_congr {f g : Nat → Nat} : ∀ k : Nat, (∀ n, n < k → f n = g n) → smF f k = smF g k
  | 0, _ => rfl
  | k + 1, h => by rw [smF, smF, smF_congr k (fun n hn => h n (by omega)), h k (by omega)]
theorem smF_zero : ∀ k : Nat, smF (fun _ => 0) k = 0
  | 0 => rfl
  | k + 1 => by rw [smF, smF_zero k]
theorem smF_add (f g : Nat → Nat) : ∀ k : Nat, smF (fun n => f n + g n) k = smF f k + smF g k
  | 0 => rfl
  | k + 1 => by rw [smF, smF, smF, smF_add f g k]; omega
theorem smF_one (f : Nat → Nat) (x : Nat) : ∀ k : Nat, smF (fun n => (if x = n then 1 else 0) * f n) k = if x < k then f x else 0
  | 0 => rfl
  | k + 1 => by
    rw [smF, smF_one f x k]
    by_cases h1 : x < k
    · have h2 : x < k + 1 := by omega
      have h3 : ¬ x = k := by omega
      rw [if_pos h1, if_pos h2, if_neg h3]; omega
    · by_cases h2 : x = k
      · subst h2
        rw [if_neg h1, if_pos rfl, if_pos (Nat.lt_succ_self _)]; omega
      · have h3 : ¬ x < k + 1 := by omega
        rw [if_neg h1, if_neg h2, if_neg h3]; omega
/-- Over all lengths how many have it, times f: over all, f. -/
theorem smF_count (f : Nat → Nat) (k : Nat) : ∀ N : List Nat, (∀ x ∈ N, x < k) → smF (fun n => N.count n * f n) k = (N.map f).sum
  | [], _ => by
    rw [smF_congr (g := fun _ => 0) k (fun n _ => by simp), smF_zero]
    rfl
  | x :: N, h => by
    have hx := h x List.mem_cons_self
    rw [smF_congr (g := fun n => N.count n * f n + (if x = n then 1 else 0) * f n) k (fun n _ => by
      rw [List.count_cons, Nat.add_mul]
      simp only [beq_iff_eq]), smF_add, smF_count f k N (fun y hy => h y (List.mem_cons_of_mem _ hy)), smF_one, if_pos hx, List.map_cons, List.sum_cons]
    omega
/-- What one of length n costs. -/
def keyF (L : List Int) (low : Int) (n : Nat) : Nat := if (n : Int) ≤ low then 0 else match near L n with | [] => 0 | a :: _ => 2 ^ (a - (n : Int)).toNat
theorem sumK_is (C L : List Int) (low : Int) : ∀ (k n s r : Nat), n + k = 129 → s = smF (fun j => atC C j * keyF L low j) n → sumK C L low k n s = some r → r = smF (fun j => atC C j * keyF L low j) 129
  | 0, n, s, r, hn, hs, h => by
    obtain rfl : n = 129 := by omega
    rw [sumK] at h
    injection h with h
    rw [← h, hs]
  | k + 1, n, s, r, hn, hs, h => by
    rw [sumK] at h
    by_cases h1 : (n : Int) ≤ low ∨ atC C n = 0
    · rw [if_pos h1] at h
      refine sumK_is C L low k (n + 1) s r (by omega) ?_ h
      rw [smF, ← hs]
      rcases h1 with h1 | h1
      · rw [keyF, if_pos h1]; omega
      · rw [h1]; omega
    · rw [if_neg h1] at h
      cases ht : termH (near L n) n (atC C n) with
      | none => rw [ht] at h; cases h
      | some t =>
        rw [ht] at h
        refine sumK_is C L low k (n + 1) (s + t) r (by omega) ?_ h
        rw [smF, ← hs]
        have : keyF L low n * atC C n = t := by
          unfold keyF
          rw [if_neg (fun e => h1 (.inl e))]
          cases hM : near L n with
          | nil => rw [hM] at ht; cases ht
          | cons a M =>
            rw [hM] at ht
            simp only [termH] at ht
            by_cases h2 : 20 < a - (n : Int)
            · rw [if_pos h2] at ht; cases ht
            · rw [if_neg h2] at ht
              injection ht with ht
              show 2 ^ (a - (n : Int)).toNat * atC C n = t
              rw [← ht, Nat.mul_comm]
        rw [Nat.mul_comm] at this
        show s + t = s + _
        rw [this]
/-- How many of each length. -/
def cntH (N : List Nat) : List Int := (List.range 129).map fun n => ((N.count n : Nat) : Int)
theorem cntH_len (N : List Nat) : (cntH N).length = 129 := by simp [cntH]
theorem cntH_at (N : List Nat) (n : Nat) (h : n < 129) (hN : N.length ≤ 1048576) : atC (cntH N) n = N.count n := by
  rw [atC_at _ _ (by rw [cntH_len]; exact h)]
  have h1 : (cntH N)[n]'(by rw [cntH_len]; exact h) = ((N.count n : Nat) : Int) := by simp [cntH]
  have h2 : N.count n ≤ N.length := List.count_le_length
  rw [h1]
  omega
/-- WHAT LEVELS COST IS THE SUM OF WHAT EACH OF ALL COSTS. -/
theorem cost_sum (N : List Nat) (L : List Int) (low : Int) (r : Nat) (hN : N.length ≤ 1048576) (hb : ∀ x ∈ N, x < 129) (h : costK (cntH N) L low = some r) : r = (N.map (keyF L low)).sum ∧ 0 ≤ low ∧ riseB low L = true := by
  unfold costK at h
  by_cases h1 : 0 ≤ low ∧ riseB low L = true
  · rw [if_pos h1] at h
    refine ⟨?_, h1⟩
    rw [sumK_is (cntH N) L low 129 0 0 r rfl rfl h, ← smF_count (keyF L low) 129 N hb]
    exact smF_congr 129 fun n hn => by rw [cntH_at N n hn hN]
  · rw [if_neg h1] at h; cases h
/-- One level more. -/
def insL (m : Int) : List Int → List Int
  | [] => [m]
  | a :: L => if m < a then m :: a :: L else a :: insL m L
theorem ins_len (m : Int) : ∀ L : List Int, (insL m L).length = L.length + 1
  | [] => rfl
  | a :: L => by
    rw [insL]
    by_cases h : m < a
    · rw [if_pos h]; rfl
    · rw [if_neg h, List.length_cons, ins_len m L]; rfl
theorem ins_rise (m : Int) (hm : m ≤ 128) : ∀ (L : List Int) (low : Int), low < m → m ∉ L → riseB low L = true → riseB low (insL m L) = true
  | [], low, h, _, _ => by simp [insL, riseB]; omega
  | a :: L, low, h, hn, hr => by
    simp only [riseB, Bool.and_eq_true, decide_eq_true_eq] at hr
    rw [insL]
    by_cases h1 : m < a
    · rw [if_pos h1]
      simp only [riseB, Bool.and_eq_true, decide_eq_true_eq]
      exact ⟨⟨h, hm⟩, ⟨h1, hr.1.2⟩, hr.2⟩
    · rw [if_neg h1]
      simp only [riseB, Bool.and_eq_true, decide_eq_true_eq]
      have h2 : m ≠ a := fun e => hn (e ▸ List.mem_cons_self)
      exact ⟨hr.1, ins_rise m hm L a (by omega) (fun e => hn (List.mem_cons_of_mem _ e)) hr.2⟩
theorem ins_near (m : Int) (n : Nat) : ∀ (L : List Int) (a : Int) (M : List Int), near L n = a :: M → ∃ b M', near (insL m L) n = b :: M' ∧ b ≤ a
  | [], _, _, h => by cases h
  | c :: L, a, M, h => by
    rw [near_cons] at h
    rw [insL]
    by_cases h1 : m < c
    · rw [if_pos h1, near_cons, near_cons c L n]
      by_cases h2 : c < (n : Int)
      · rw [if_pos h2] at h
        rw [if_pos (by omega), if_pos h2]
        exact ⟨a, M, h, Int.le_refl _⟩
      · rw [if_neg h2] at h
        injection h with h3 h4
        subst h3
        rw [if_neg h2]
        by_cases h5 : m < (n : Int)
        · rw [if_pos h5]; exact ⟨_, _, rfl, Int.le_refl _⟩
        · rw [if_neg h5]; exact ⟨_, _, rfl, by omega⟩
    · rw [if_neg h1, near_cons]
      by_cases h2 : c < (n : Int)
      · rw [if_pos h2] at h ⊢
        exact ins_near m n L a M h
      · rw [if_neg h2] at h ⊢
        injection h with h3 h4
        subst h3
        exact ⟨_, _, rfl, Int.le_refl _⟩
theorem ins_term (m : Int) (L : List Int) (n x t : Nat) (h : termH (near L n) n x = some t) : ∃ u, termH (near (insL m L) n) n x = some u ∧ u ≤ t := by
  cases hM : near L n with
  | nil => rw [hM] at h; cases h
  | cons a M =>
    rw [hM] at h
    obtain ⟨b, M', hb, hle⟩ := ins_near m n L a M hM
    simp only [termH] at h
    by_cases h1 : 20 < a - (n : Int)
    · rw [if_pos h1] at h; cases h
    · rw [if_neg h1] at h
      injection h with h
      rw [hb]
      refine ⟨x * 2 ^ (b - (n : Int)).toNat, by simp only [termH]; rw [if_neg (by omega)], ?_⟩
      rw [← h]
      exact Nat.mul_le_mul_left _ (Nat.pow_le_pow_right (by decide) (by omega))
theorem ins_sum (C : List Int) (m : Int) (L : List Int) (low : Int) : ∀ (k n s s' r : Nat), s' ≤ s → sumK C L low k n s = some r → ∃ r', sumK C (insL m L) low k n s' = some r' ∧ r' ≤ r
  | 0, n, s, s', r, hs, h => by
    rw [sumK] at h
    injection h with h
    subst h
    exact ⟨s', rfl, hs⟩
  | k + 1, n, s, s', r, hs, h => by
    rw [sumK] at h
    rw [sumK]
    by_cases h1 : (n : Int) ≤ low ∨ atC C n = 0
    · rw [if_pos h1] at h ⊢
      exact ins_sum C m L low k (n + 1) s s' r hs h
    · rw [if_neg h1] at h ⊢
      cases ht : termH (near L n) n (atC C n) with
      | none => rw [ht] at h; cases h
      | some t =>
        rw [ht] at h
        obtain ⟨u, hu, hle⟩ := ins_term m L n _ t ht
        rw [hu]
        exact ins_sum C m L low k (n + 1) (s + t) (s' + u) r (by omega) h
/-- ONE LEVEL MORE NEVER COSTS MORE. -/
theorem ins_cost (C : List Int) (m : Int) (L : List Int) (low : Int) (r : Nat) (h1 : low < m) (h2 : m ≤ 128) (h3 : m ∉ L) (h : costK C L low = some r) : ∃ r', costK C (insL m L) low = some r' ∧ r' ≤ r := by
  unfold costK at h ⊢
  by_cases hc : 0 ≤ low ∧ riseB low L = true
  · rw [if_pos hc] at h
    rw [if_pos ⟨hc.1, ins_rise m h2 L low h1 h3 hc.2⟩]
    exact ins_sum C m L low 129 0 0 0 r (Nat.le_refl _) h
  · rw [if_neg hc] at h; cases h
/-- Where the row that was built stands: the first i are through, whether the new one is in. -/
def insR (m : Int) (L : List Int) (i : Nat) (isIn : Bool) (N : List Int) : Prop := (∀ j, (h : j < L.length) → j < i → L[j] ≠ m) ∧ (if isIn then N ++ L.drop i else N ++ insL m (L.drop i)) = insL m L
theorem insR_start (m : Int) (L : List Int) : insR m L 0 false [] := ⟨fun j _ h => by omega, rfl⟩
theorem insR_in {m : Int} {L : List Int} {i : Nat} {N : List Int} (h : insR m L i true N) (hi : i < L.length) (hne : L[i] ≠ m) : insR m L (i + 1) true (N ++ [L[i]]) := by
  refine ⟨fun j hj hl => ?_, ?_⟩
  · by_cases e : j = i
    · subst e; exact hne
    · exact h.1 j hj (by omega)
  · have := h.2
    rw [if_pos rfl] at this ⊢
    rw [← this, List.drop_eq_getElem_cons hi]
    simp
theorem insR_now {m : Int} {L : List Int} {i : Nat} {N : List Int} (h : insR m L i false N) (hi : i < L.length) (hne : L[i] ≠ m) (hg : m < L[i]) : insR m L (i + 1) true (N ++ [m] ++ [L[i]]) := by
  refine ⟨fun j hj hl => ?_, ?_⟩
  · by_cases e : j = i
    · subst e; exact hne
    · exact h.1 j hj (by omega)
  · have := h.2
    rw [if_neg (by decide)] at this
    rw [if_pos rfl, ← this, List.drop_eq_getElem_cons hi, insL, if_pos hg]
    simp
theorem insR_not {m : Int} {L : List Int} {i : Nat} {N : List Int} (h : insR m L i false N) (hi : i < L.length) (hne : L[i] ≠ m) (hg : ¬ m < L[i]) : insR m L (i + 1) false (N ++ [L[i]]) := by
  refine ⟨fun j hj hl => ?_, ?_⟩
  · by_cases e : j = i
    · subst e; exact hne
    · exact h.1 j hj (by omega)
  · have := h.2
    rw [if_neg (by decide)] at this ⊢
    rw [← this, List.drop_eq_getElem_cons hi, insL, if_neg hg]
    simp
theorem insR_len {m : Int} {L : List Int} {i : Nat} {b : Bool} {N : List Int} (h : insR m L i b N) (hi : i ≤ L.length) : N.length ≤ i + 1 := by
  have := congrArg List.length h.2
  rw [ins_len] at this
  cases b
  · rw [if_neg (by decide), List.length_append, ins_len, List.length_drop] at this
    omega
  · rw [if_pos rfl, List.length_append, List.length_drop] at this
    omega
theorem insR_end {m : Int} {L : List Int} {i : Nat} {b : Bool} {N : List Int} (h : insR m L i b N) (hi : L.length ≤ i) : (if b then N else N ++ [m]) = insL m L ∧ m ∉ L := by
  refine ⟨?_, fun e => ?_⟩
  · have := h.2
    rw [List.drop_eq_nil_of_le hi] at this
    cases b
    · simpa [insL] using this
    · simpa using this
  · obtain ⟨j, hj, e⟩ := List.mem_iff_getElem.1 e
    exact h.1 j hj (by omega) e
end Go.Proofs.Ytcfioplbbbaeoaa
/-
  What histo.rise and histo.taken hand back. No condition but that the rows lie in memory and are short of a million.
-/
set_option linter.unusedSimpArgs false
set_option linter.unusedVariables false
namespace Go.Proofs.Ytcfioplbbbaeoaa
open Go Go.RowKit Go.Sort M

/-- What Cost hands back. -/
def ansV (o : Option Nat) : Value := .tuple #[.int .i64 ((o.getD 0 : Nat) : Int), .bool o.isSome]
theorem riseB_drop (lo : Int) (L : List Int) (i : Nat) (hi : i < L.length) : riseB lo (L.drop i) = (decide (lo < L[i]) && decide (L[i] ≤ 128) && riseB L[i] (L.drop (i + 1))) := by
  rw [List.drop_eq_getElem_cons hi]
  rfl
end Go.Proofs.Ytcfioplbbbaeoaa

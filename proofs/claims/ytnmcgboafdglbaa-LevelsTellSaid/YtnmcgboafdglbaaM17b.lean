/-
  Plain mathematics of choosing levels, continued: what rows of levels cost is what Cost says; one level beside one length alone. No condition but those that stand in each.
-/
import Derived.Test.YtnmcgboafdglbaaM17
set_option linter.unusedSimpArgs false
set_option linter.unusedVariables false
namespace Go.Proofs.Ytnmcgboafdglbaa

theorem smF_shift (f : Nat → Nat) (m : Nat) : ∀ k, smF f (m + k) = smF f m + smF (fun j => f (m + j)) k
  | 0 => rfl
  | k + 1 => by
    rw [← Nat.add_assoc, smF, smF_shift f m k, smF]
    omega
theorem smF_le {f g : Nat → Nat} : ∀ k, (∀ n, n < k → f n ≤ g n) → smF f k ≤ smF g k
  | 0, _ => Nat.le_refl _
  | k + 1, h => Nat.add_le_add (smF_le k fun n hn => h n (by omega)) (h k (by omega))
theorem smF_alone (f : Nat → Nat) (x : Nat) : ∀ k, (∀ n, n < k → n ≠ x → f n = 0) → smF f k = if x < k then f x else 0
  | 0, _ => rfl
  | k + 1, h => by
    rw [smF, smF_alone f x k (fun n hn => h n (by omega))]
    by_cases h1 : x < k
    · have h2 : x < k + 1 := by omega
      rw [if_pos h1, if_pos h2, h k (by omega) (by omega)]
      omega
    · by_cases h2 : x = k
      · subst h2
        rw [if_neg h1, if_pos (Nat.lt_succ_self _)]
        omega
      · have h3 : ¬ x < k + 1 := by omega
        rw [if_neg h1, if_neg h3, h k (by omega) (fun e => h2 e.symm)]
/-- Levels as whole numbers. -/
def toI (L : List Nat) : List Int := List.map (fun n : Nat => (n : Int)) L
theorem toI_len (L : List Nat) : (toI L).length = L.length := by simp [toI]
theorem toI_rise {st wd : Nat} (hw : wd ≤ 128) : ∀ (L : List Nat) (a : Nat), okC st wd a L = true → riseB (a : Int) (toI L) = true
  | [], _, _ => rfl
  | b :: L, a, h => by
    rw [okC_cons] at h
    have hle := okC_le L b h.2.2
    simp only [toI, List.map_cons, riseB, Bool.and_eq_true, decide_eq_true_eq]
    exact ⟨⟨by omega, by omega⟩, toI_rise hw L b h.2.2⟩
/-- The level of a length. -/
def levK (L : List Nat) (n : Nat) : Nat := match near (toI L) n with | [] => 0 | a :: _ => 2 ^ (a - (n : Int)).toNat
theorem near_toI (b : Nat) (L : List Nat) (n : Nat) : near (toI (b :: L)) n = if b < n then near (toI L) n else (b : Int) :: toI L := by
  show near ((b : Int) :: toI L) n = _
  rw [near_cons]
  by_cases h : b < n
  · rw [if_pos h, if_pos (by omega)]
  · rw [if_neg h, if_neg (by omega)]
theorem near_fit {st wd : Nat} : ∀ (L : List Nat) (a n : Nat), okC st wd a L = true → a < n → n ≤ wd → ∃ (b : Nat) (M : List Int), near (toI L) n = (b : Int) :: M ∧ n ≤ b ∧ b < n + st ∧ b ∈ L
  | [], a, n, h, h1, h2 => by rw [okC_nil] at h; omega
  | b :: L, a, n, h, h1, h2 => by
    rw [okC_cons] at h
    rw [near_toI]
    by_cases h3 : b < n
    · rw [if_pos h3]
      obtain ⟨c, M, e1, e2, e3, e4⟩ := near_fit L b n h.2.2 h3 h2
      exact ⟨c, M, e1, e2, e3, List.mem_cons_of_mem _ e4⟩
    · rw [if_neg h3]
      exact ⟨b, toI L, rfl, by omega, by omega, List.mem_cons_self⟩
theorem coC_sum (C : List Int) {st wd : Nat} : ∀ (L : List Nat) (a : Nat), okC st wd a L = true → smF (fun j => atC C (a + 1 + j) * levK L (a + 1 + j)) (wd - a) = coC C a L
  | [], a, h => by
    rw [okC_nil] at h
    rw [h, Nat.sub_self]
    rfl
  | b :: L, a, h => by
    rw [okC_cons] at h
    have hle := okC_le L b h.2.2
    rw [show wd - a = (b - a) + (wd - b) by omega, smF_shift, coC, ← coC_sum C L b h.2.2]
    congr 1
    · unfold ptC
      refine smF_congr _ fun j hj => ?_
      unfold levK
      rw [near_toI, if_neg (by omega)]
      show _ * 2 ^ ((b : Int) - ((a + 1 + j : Nat) : Int)).toNat = _
      rw [show ((b : Int) - ((a + 1 + j : Nat) : Int)).toNat = b - (a + 1 + j) by omega]
    · refine smF_congr _ fun j hj => ?_
      rw [show a + 1 + (b - a + j) = b + 1 + j by omega]
      unfold levK
      rw [near_toI, if_pos (by omega)]
theorem sumK_all (C L : List Int) (low : Int) : ∀ (k n s : Nat), n + k = 129 → s = smF (fun j => atC C j * keyF L low j) n →
    (∀ m, n ≤ m → m < 129 → ¬ ((m : Int) ≤ low ∨ atC C m = 0) → ∃ t, termH (near L m) m (atC C m) = some t) → sumK C L low k n s = some (smF (fun j => atC C j * keyF L low j) 129)
  | 0, n, s, hn, hs, _ => by
    obtain rfl : n = 129 := by omega
    rw [sumK, hs]
  | k + 1, n, s, hn, hs, h => by
    rw [sumK]
    by_cases h1 : (n : Int) ≤ low ∨ atC C n = 0
    · rw [if_pos h1]
      refine sumK_all C L low k (n + 1) s (by omega) ?_ (fun m h2 h3 => h m (by omega) h3)
      rw [smF, ← hs]
      rcases h1 with h1 | h1
      · rw [keyF, if_pos h1]; omega
      · rw [h1]; omega
    · rw [if_neg h1]
      obtain ⟨t, ht⟩ := h n (Nat.le_refl _) (by omega) h1
      rw [ht]
      refine sumK_all C L low k (n + 1) (s + t) (by omega) ?_ (fun m h2 h3 => h m (by omega) h3)
      rw [smF, ← hs]
      have : atC C n * keyF L low n = t := by
        unfold keyF
        rw [if_neg (fun e => h1 (.inl e))]
        cases hM : near L n with
        | nil => rw [hM] at ht; cases ht
        | cons a M =>
          rw [hM] at ht
          simp only [termH] at ht
          by_cases h2 : 20 < a - (n : Int)
          · rw [if_pos h2] at ht; cases ht
          · rw [if_neg h2] at ht
            injection ht with ht
      rw [this]
/-- WHAT LEVELS COST. -/
theorem cost_is (C D : List Int) {st wd : Nat} (hs : st ≤ 20) (hw : wd ≤ 128) (hD : ∀ j, j ≤ wd → atC D j = atC C j) (hZ : ∀ j, wd < j → atC D j = 0) (L : List Nat) (a : Nat) (h : okC st wd a L = true) :
    costK D (toI L) (a : Int) = some (coC C a L) := by
  have hle := okC_le L a h
  unfold costK
  rw [if_pos ⟨by omega, toI_rise hw L a h⟩, sumK_all D (toI L) (a : Int) 129 0 0 rfl rfl (fun m _ h3 h4 => ?_)]
  · rw [← coC_sum C L a h]
    congr 1
    rw [show 129 = (a + 1) + ((wd - a) + (128 - wd)) by omega, smF_shift _ (a + 1) ((wd - a) + (128 - wd)), smF_shift _ (wd - a) (128 - wd)]
    rw [smF_congr (g := fun _ => 0) (a + 1) (fun n hn => by rw [keyF, if_pos (by omega)]; omega), smF_zero, Nat.zero_add]
    rw [smF_congr (g := fun _ => 0) (128 - wd) (fun n hn => by rw [hZ _ (by omega)]; omega), smF_zero, Nat.add_zero]
    refine smF_congr _ fun j hj => ?_
    rw [hD _ (by omega), keyF, if_neg (by omega)]
    rfl
  · have h5 : (a : Int) < (m : Int) := by
      have := fun e => h4 (.inl e)
      omega
    have h6 : m ≤ wd := by
      by_cases h7 : m ≤ wd
      · exact h7
      · exact absurd (.inr (hZ m (by omega))) h4
    obtain ⟨b, M, e1, e2, e3, -⟩ := near_fit L a m h (by omega) h6
    refine ⟨atC D m * 2 ^ ((b : Int) - (m : Int)).toNat, ?_⟩
    rw [e1]
    simp only [termH]
    rw [if_neg (by omega)]
/-- Where one length alone counts. -/
theorem coC_one (C : List Int) {st wd : Nat} (x : Nat) (hC : ∀ j, j ≠ x → atC C j = 0) (L : List Nat) (a : Nat) (h : okC st wd a L = true) (h1 : a < x) (h2 : x ≤ wd) : coC C a L = atC C x * levK L x := by
  rw [← coC_sum C L a h, smF_alone _ (x - a - 1) _ (fun n hn hne => by rw [hC _ (by omega)]; omega), if_pos (by omega), show a + 1 + (x - a - 1) = x by omega]
theorem levK_one {st wd : Nat} (x : Nat) (L : List Nat) (a : Nat) (h : okC st wd a L = true) (h1 : a < x) (h2 : x ≤ wd) : 1 ≤ levK L x ∧ (levK L x = 1 ↔ x ∈ L) := by
  obtain ⟨b, M, e1, e2, e3, e4⟩ := near_fit L a x h h1 h2
  have e5 : levK L x = 2 ^ (b - x) := by
    unfold levK
    rw [e1]
    show 2 ^ ((b : Int) - (x : Int)).toNat = _
    rw [show ((b : Int) - (x : Int)).toNat = b - x by omega]
  rw [e5]
  refine ⟨Nat.one_le_two_pow, fun h3 => ?_, fun h3 => ?_⟩
  · have : b - x = 0 := by
      rcases Nat.eq_zero_or_pos (b - x) with h4 | h4
      · exact h4
      · have : 2 ^ 1 ≤ 2 ^ (b - x) := Nat.pow_le_pow_right (by decide) h4
        omega
    obtain rfl : b = x := by omega
    exact e4
  · have hx : near (toI L) x = (x : Int) :: (near (toI L) x).tail := by
      clear e1 e2 e3 e4 e5
      induction L generalizing a with
      | nil => cases h3
      | cons c L ih =>
        rw [okC_cons] at h
        rw [near_toI]
        by_cases h4 : c < x
        · rw [if_pos h4]
          rcases List.mem_cons.1 h3 with e | h5
          · omega
          · exact ih c h.2.2 h4 h5
        · rw [if_neg h4]
          rcases List.mem_cons.1 h3 with e | h5
          · subst e; rfl
          · exfalso
            have : ∀ (L : List Nat) (a : Nat), okC st wd a L = true → ∀ y ∈ L, a < y := by
              intro L
              induction L with
              | nil => intro _ _ y hy; cases hy
              | cons d L ih2 =>
                intro a h y hy
                rw [okC_cons] at h
                rcases List.mem_cons.1 hy with e | hy
                · omega
                · have := ih2 d h.2.2 y hy
                  omega
            have := this L c h.2.2 x h5
            omega
    rw [e1] at hx
    injection hx with hx _
    rw [show b - x = 0 by omega]
end Go.Proofs.Ytnmcgboafdglbaa

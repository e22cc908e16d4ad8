/-
  The mathematics of shares: what is left of a total is shared out by weights, each part cut down, and what is over goes one each to the first whose weight is not 0. No condition but those that stand in each.
-/
import Derived.WalkKit
set_option linter.unusedSimpArgs false
set_option linter.unusedVariables false
namespace Go.Proofs.Ytdfmebfkhcdphaa.M

/-- The sum of the first n of a row that is told number by number. -/
def sumF (f : Nat → Nat) : Nat → Nat
  | 0 => 0
  | n + 1 => sumF f n + f n
theorem sumF_same {f g : Nat → Nat} : ∀ n, (∀ j, j < n → f j = g j) → sumF f n = sumF g n
  | 0, _ => rfl
  | n + 1, h => by
    show sumF f n + f n = sumF g n + g n
    rw [sumF_same n (fun j hj => h j (by omega)), h n (by omega)]
theorem sumF_mul (f : Nat → Nat) (c : Nat) : ∀ n, sumF (fun j => c * f j) n = c * sumF f n
  | 0 => rfl
  | n + 1 => by
    show sumF _ n + c * f n = c * (sumF f n + f n)
    rw [sumF_mul f c n, Nat.mul_add]
theorem sumF_add (f g : Nat → Nat) : ∀ n, sumF (fun j => f j + g j) n = sumF f n + sumF g n
  | 0 => rfl
  | n + 1 => by
    show sumF _ n + (f n + g n) = sumF f n + f n + (sumF g n + g n)
    rw [sumF_add f g n]; omega
theorem sumF_const (c : Nat) : ∀ n, sumF (fun _ => c) n = n * c
  | 0 => by simp [sumF]
  | n + 1 => by
    show sumF _ n + c = (n + 1) * c
    rw [sumF_const c n, Nat.add_mul, Nat.one_mul]
theorem sumF_mono {f : Nat → Nat} {i n : Nat} (h : i ≤ n) : sumF f i ≤ sumF f n := by
  induction n with
  | zero => obtain rfl : i = 0 := by omega
            exact Nat.le_refl _
  | succ n ih =>
    by_cases e : i = n + 1
    · subst e; exact Nat.le_refl _
    · exact Nat.le_trans (ih (by omega)) (Nat.le_add_right _ _)
theorem sumF_bound {f : Nat → Nat} {c : Nat} (h : ∀ j, f j ≤ c) : ∀ n, sumF f n ≤ n * c
  | 0 => by simp [sumF]
  | n + 1 => by
    show sumF f n + f n ≤ (n + 1) * c
    rw [Nat.add_mul, Nat.one_mul]
    exact Nat.add_le_add (sumF_bound h n) (h n)
theorem sumF_one {f : Nat → Nat} {j n : Nat} (h : j < n) : f j ≤ sumF f n := by
  have h1 : sumF f (j + 1) ≤ sumF f n := sumF_mono (by omega)
  have h2 : sumF f (j + 1) = sumF f j + f j := rfl
  omega
/-- The part of number j. -/
def cutP (w : Nat → Nat) (left all : Nat) (j : Nat) : Nat := w j * left / all
/-- What is over ahead of number j, of o. -/
def ov (w : Nat → Nat) (o : Nat) : Nat → Nat
  | 0 => o
  | j + 1 => if 0 < ov w o j ∧ 0 < w j then ov w o j - 1 else ov w o j
/-- What number j has of it. -/
def deal (w : Nat → Nat) (o j : Nat) : Nat := if 0 < ov w o j ∧ 0 < w j then 1 else 0
theorem ov_succ (w : Nat → Nat) (o j : Nat) : ov w o (j + 1) + deal w o j = ov w o j := by
  show (if 0 < ov w o j ∧ 0 < w j then ov w o j - 1 else ov w o j) + (if 0 < ov w o j ∧ 0 < w j then 1 else 0) = _
  by_cases h : 0 < ov w o j ∧ 0 < w j
  · rw [if_pos h, if_pos h]; omega
  · rw [if_neg h, if_neg h]; omega
theorem deal_le (w : Nat → Nat) (o j : Nat) : deal w o j ≤ 1 := by
  unfold deal; split <;> omega
theorem ov_le (w : Nat → Nat) (o : Nat) : ∀ j, ov w o j ≤ o
  | 0 => Nat.le_refl _
  | j + 1 => by have := ov_succ w o j; have := ov_le w o j; omega
theorem ov_stays (w : Nat → Nat) (o j : Nat) (h : ov w o j = 0) : ∀ k, ov w o (j + k) = 0
  | 0 => h
  | k + 1 => by
    have := ov_succ w o (j + k)
    have := ov_stays w o j h k
    rw [← Nat.add_assoc]; omega
theorem deal_none (w : Nat → Nat) (o i j : Nat) (h : ov w o i = 0) (hj : i ≤ j) : deal w o j = 0 := by
  have := ov_stays w o i h (j - i)
  rw [show i + (j - i) = j by omega] at this
  unfold deal
  rw [if_neg (by omega)]
/-- How many of the first n weigh something. -/
def posF (w : Nat → Nat) : Nat → Nat := sumF fun j => if 0 < w j then 1 else 0
theorem ov_pos (w : Nat → Nat) (o : Nat) : ∀ j, ov w o j = o - posF w j
  | 0 => rfl
  | j + 1 => by
    have ih := ov_pos w o j
    have e : posF w (j + 1) = posF w j + if 0 < w j then 1 else 0 := rfl
    show (if 0 < ov w o j ∧ 0 < w j then ov w o j - 1 else ov w o j) = _
    rw [e, ih]
    by_cases h : 0 < w j
    · rw [if_pos h]
      by_cases h2 : 0 < o - posF w j
      · rw [if_pos ⟨h2, h⟩]; omega
      · rw [if_neg (fun x => h2 x.1)]; omega
    · rw [if_neg h, if_neg (fun x => h x.2)]; omega
theorem ov_sum (w : Nat → Nat) (o : Nat) : ∀ j, ov w o j + sumF (deal w o) j = o
  | 0 => rfl
  | j + 1 => by
    have e : sumF (deal w o) (j + 1) = sumF (deal w o) j + deal w o j := rfl
    have := ov_succ w o j
    have := ov_sum w o j
    omega
theorem part_sum (w : Nat → Nat) (left n : Nat) (h : 0 < sumF w n) : ∀ i, i ≤ n → sumF (cutP w left (sumF w n)) i ≤ left := by
  intro i hi
  have key : ∀ k, sumF w n * sumF (cutP w left (sumF w n)) k ≤ left * sumF w k := by
    intro k
    induction k with
    | zero => simp [sumF]
    | succ k ih =>
      show sumF w n * (sumF _ k + cutP w left (sumF w n) k) ≤ left * (sumF w k + w k)
      rw [Nat.mul_add, Nat.mul_add]
      refine Nat.add_le_add ih ?_
      rw [Nat.mul_comm left]
      exact Nat.mul_div_le _ _
  have h1 := key i
  have h2 : left * sumF w i ≤ left * sumF w n := Nat.mul_le_mul_left _ (sumF_mono hi)
  have h3 : sumF w n * sumF (cutP w left (sumF w n)) i ≤ sumF w n * left := by rw [Nat.mul_comm (sumF w n) left]; exact Nat.le_trans h1 h2
  exact Nat.le_of_mul_le_mul_left h3 h
/-- All that is over is dealt. -/
theorem over_dealt (w : Nat → Nat) (left n : Nat) (h : 0 < sumF w n) : left - sumF (cutP w left (sumF w n)) n ≤ posF w n := by
  have key : ∀ k, left * sumF w k ≤ sumF w n * sumF (cutP w left (sumF w n)) k + (sumF w n - 1) * posF w k := by
    intro k
    induction k with
    | zero => simp [sumF]
    | succ k ih =>
      have e : posF w (k + 1) = posF w k + if 0 < w k then 1 else 0 := rfl
      show left * (sumF w k + w k) ≤ sumF w n * (sumF _ k + cutP w left (sumF w n) k) + (sumF w n - 1) * posF w (k + 1)
      rw [e, Nat.mul_add, Nat.mul_add, Nat.mul_add]
      have hd : left * w k ≤ sumF w n * cutP w left (sumF w n) k + (sumF w n - 1) * (if 0 < w k then 1 else 0) := by
        by_cases h0 : 0 < w k
        · rw [if_pos h0, Nat.mul_one]
          unfold cutP
          have h1 := Nat.div_add_mod (w k * left) (sumF w n)
          have h2 := Nat.mod_lt (w k * left) h
          rw [Nat.mul_comm left]
          omega
        · rw [show w k = 0 by omega]; simp
      omega
  have h1 := key n
  have h2 := part_sum w left n h n (Nat.le_refl _)
  generalize sumF (cutP w left (sumF w n)) n = s at *
  generalize sumF w n = a at *
  generalize posF w n = p at *
  have h3 : a * (left - s) ≤ (a - 1) * p := by
    rw [Nat.mul_sub, Nat.mul_comm a left]
    omega
  have h4 : (a - 1) * p ≤ a * p := Nat.mul_le_mul_right _ (by omega)
  exact Nat.le_of_mul_le_mul_left (Nat.le_trans h3 h4) h
/-- What number j gets. -/
def over0 (w : Nat → Nat) (left n : Nat) : Nat := left - sumF (cutP w left (sumF w n)) n
def share (w : Nat → Nat) (least left n j : Nat) : Nat :=
  if sumF w n = 0 then (if j = 0 then least + left else least) else least + cutP w left (sumF w n) j + deal w (over0 w left n) j
theorem share_sum (w : Nat → Nat) (least left n : Nat) (hn : 0 < n) : sumF (share w least left n) n = n * least + left := by
  by_cases h : sumF w n = 0
  · have key : ∀ k, sumF (share w least left n) (k + 1) = (k + 1) * least + left := by
      intro k
      induction k with
      | zero =>
        show 0 + share w least left n 0 = _
        unfold share
        rw [if_pos h, if_pos rfl]; omega
      | succ k ih =>
        show sumF _ (k + 1) + share w least left n (k + 1) = _
        rw [ih]
        unfold share
        rw [if_pos h, if_neg (by omega), Nat.add_mul (k + 1) 1 least]
        omega
    have := key (n - 1)
    rwa [show n - 1 + 1 = n by omega] at this
  · have e : sumF (share w least left n) n = sumF (fun j => (least + cutP w left (sumF w n) j) + deal w (over0 w left n) j) n := by
      refine sumF_same n fun j _ => ?_
      unfold share
      rw [if_neg h]
    rw [e, sumF_add (fun j => least + cutP w left (sumF w n) j), sumF_add (fun _ => least), sumF_const]
    have h1 := ov_sum w (over0 w left n) n
    rw [ov_pos] at h1
    have h2 := over_dealt w left n (by omega)
    have h3 := part_sum w left n (by omega) n (Nat.le_refl _)
    unfold over0 at *
    have e2 : sumF (fun j => cutP w left (sumF w n) j) n = sumF (cutP w left (sumF w n)) n := rfl
    have e3 : ∀ o, sumF (fun j => deal w o j) n = sumF (deal w o) n := fun _ => rfl
    rw [e2, e3]
    omega
theorem share_least (w : Nat → Nat) (least left n j : Nat) : least ≤ share w least left n j := by
  unfold share
  split
  · split <;> omega
  · omega
theorem share_le (w : Nat → Nat) (least left n j : Nat) (h : j < n) : share w least left n j ≤ n * least + left := by
  rw [← share_sum w least left n (by omega)]
  exact sumF_one h
/-- Who weighs nothing has the least. -/
theorem share_zero (w : Nat → Nat) (least left n j : Nat) (h : 0 < sumF w n) (h0 : w j = 0) : share w least left n j = least := by
  unfold share cutP deal
  rw [if_neg (by omega), h0, Nat.zero_mul, Nat.zero_div, if_neg (by omega)]
  rfl
/-- Who weighs more has no less, but for one that is over. -/
theorem share_more (w : Nat → Nat) (least left n i k : Nat) (h : 0 < sumF w n) (h0 : w k < w i) : share w least left n k ≤ share w least left n i + 1 := by
  have h1 := deal_le w (over0 w left n) k
  have h2 : cutP w left (sumF w n) k ≤ cutP w left (sumF w n) i := Nat.div_le_div_right (Nat.mul_le_mul_right _ (by omega))
  unfold share
  rw [if_neg (by omega), if_neg (by omega)]
  omega
/-- Of two neighbours who weigh alike the second one has as much, or one less. -/
theorem share_next (w : Nat → Nat) (least left n i : Nat) (h : 0 < sumF w n) (h0 : w (i + 1) = w i) : share w least left n (i + 1) = share w least left n i ∨ share w least left n (i + 1) + 1 = share w least left n i := by
  unfold share
  rw [if_neg (by omega), if_neg (by omega)]
  have hp : cutP w left (sumF w n) (i + 1) = cutP w left (sumF w n) i := by unfold cutP; rw [h0]
  have hs := ov_succ w (over0 w left n) i
  have h1 := deal_le w (over0 w left n) i
  have hd : deal w (over0 w left n) (i + 1) ≤ deal w (over0 w left n) i := by
    unfold deal at *
    rw [h0]
    by_cases a : 0 < ov w (over0 w left n) (i + 1) ∧ 0 < w i
    · rw [if_pos a, if_pos ⟨by omega, a.2⟩]; exact Nat.le_refl _
    · rw [if_neg a]; omega
  omega
theorem ov_scale (w : Nat → Nat) (c o : Nat) (hc : 0 < c) : ∀ j, ov (fun j => c * w j) o j = ov w o j
  | 0 => rfl
  | j + 1 => by
    show (if 0 < ov (fun j => c * w j) o j ∧ 0 < c * w j then ov (fun j => c * w j) o j - 1 else ov (fun j => c * w j) o j) = if 0 < ov w o j ∧ 0 < w j then ov w o j - 1 else ov w o j
    have e : (0 < c * w j) ↔ 0 < w j := ⟨fun h => Nat.pos_of_ne_zero fun h0 => by rw [h0] at h; simp at h, fun h => Nat.mul_pos hc h⟩
    simp only [ov_scale w c o hc j, e]
/-- Weights that are c times as great share out alike. -/
theorem share_scale (w : Nat → Nat) (c least left n : Nat) (hc : 0 < c) (j : Nat) : share (fun j => c * w j) least left n j = share w least left n j := by
  have hs : sumF (fun j => c * w j) n = c * sumF w n := sumF_mul w c n
  have hp : ∀ j, cutP (fun j => c * w j) left (c * sumF w n) j = cutP w left (sumF w n) j := fun j => by
    unfold cutP
    rw [Nat.mul_assoc, Nat.mul_div_mul_left _ _ hc]
  have hp' : cutP (fun j => c * w j) left (c * sumF w n) = cutP w left (sumF w n) := funext hp
  have e : (c * sumF w n = 0) ↔ sumF w n = 0 := by
    constructor
    · intro h
      rcases Nat.mul_eq_zero.1 h with h | h
      · omega
      · exact h
    · intro h; rw [h, Nat.mul_zero]
  have ed : ∀ o, deal (fun j => c * w j) o j = deal w o j := fun o => by
    have e : (0 < c * w j) ↔ 0 < w j := ⟨fun h => Nat.pos_of_ne_zero fun h0 => by rw [h0] at h; simp at h, fun h => Nat.mul_pos hc h⟩
    unfold deal
    simp only [ov_scale w c o hc j, e]
  unfold share over0
  simp only [hs, hp', e, ed]
theorem part_le (w : Nat → Nat) (left n j : Nat) (h : j < n) (h0 : 0 < sumF w n) : cutP w left (sumF w n) j ≤ left :=
  Nat.le_trans (sumF_one h) (part_sum w left n h0 n (Nat.le_refl _))
/-- A row of which the first i are f's, the others g's. -/
def mixL (f g : Nat → Int) (i n : Nat) : List Int := (List.range n).map fun j => if j < i then f j else g j
theorem mixL_len (f g : Nat → Int) (i n : Nat) : (mixL f g i n).length = n := by simp [mixL]
theorem mixL_at (f g : Nat → Int) (i n j : Nat) (h : j < n) : (mixL f g i n)[j]? = some (if j < i then f j else g j) := by simp [mixL, h]
theorem mixL_set (f g : Nat → Int) (i n : Nat) : (mixL f g i n).set i (f i) = mixL f g (i + 1) n := by
  apply List.ext_getElem?
  intro j
  rw [List.getElem?_set, mixL_len]
  by_cases h : j < n
  · rw [mixL_at f g (i + 1) n j h]
    by_cases e : i = j
    · subst e
      rw [if_pos rfl, if_pos h, if_pos (by omega)]
    · rw [if_neg e, mixL_at f g i n j h]
      by_cases h1 : j < i
      · rw [if_pos h1, if_pos (by omega)]
      · rw [if_neg h1, if_neg (by omega)]
  · rw [List.getElem?_eq_none (l := mixL f g (i + 1) n) (by rw [mixL_len]; omega)]
    by_cases e : i = j
    · rw [if_pos e, if_neg (by omega)]
    · rw [if_neg e, List.getElem?_eq_none (by rw [mixL_len]; omega)]
theorem mixL_stay {f g : Nat → Int} {i n : Nat} (h : f i = g i) : mixL f g i n = mixL f g (i + 1) n := by
  unfold mixL
  refine List.map_congr_left fun j _ => ?_
  by_cases e : j = i
  · subst e
    rw [if_neg (by omega), if_pos (by omega), h]
  · by_cases h1 : j < i
    · rw [if_pos h1, if_pos (by omega)]
    · rw [if_neg h1, if_neg (by omega)]
theorem mixL_congr {f g f' g' : Nat → Int} {i i' n : Nat} (h : ∀ j, j < n → (if j < i then f j else g j) = (if j < i' then f' j else g' j)) : mixL f g i n = mixL f' g' i' n := by
  unfold mixL
  refine List.map_congr_left fun j hj => h j (List.mem_range.1 hj)
theorem mixL_full (f g : Nat → Int) (n : Nat) : mixL f g n n = (List.range n).map f := by
  unfold mixL
  refine List.map_congr_left fun j hj => ?_
  rw [if_pos (List.mem_range.1 hj)]
theorem mixL_none (f g : Nat → Int) (n : Nat) : mixL f g 0 n = (List.range n).map g := by
  unfold mixL
  refine List.map_congr_left fun j hj => ?_
  rw [if_neg (by omega)]
end Go.Proofs.Ytdfmebfkhcdphaa.M

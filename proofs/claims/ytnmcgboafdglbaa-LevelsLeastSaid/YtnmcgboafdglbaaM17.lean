/-
  Plain mathematics of choosing levels: rows of levels from a place to the width, what they cost, which of two is better; the best of all by one level more each time; that the best is one alone. No condition but those that stand in each.
-/
import Derived.Test.YtnmcgboafdglbaaM16
set_option linter.unusedSimpArgs false
set_option linter.unusedVariables false
namespace Go.Proofs.Ytnmcgboafdglbaa

/-- Levels from a place on, each at most st above the one ahead, to wd. -/
def okC (st wd : Nat) : Nat → List Nat → Bool
  | a, [] => decide (a = wd)
  | a, b :: L => decide (a < b) && decide (b ≤ a + st) && okC st wd b L
theorem okC_cons {st wd a b : Nat} {L : List Nat} : okC st wd a (b :: L) = true ↔ a < b ∧ b ≤ a + st ∧ okC st wd b L = true := by
  simp only [okC, Bool.and_eq_true, decide_eq_true_eq]
  exact ⟨fun h => ⟨h.1.1, h.1.2, h.2⟩, fun h => ⟨⟨h.1, h.2.1⟩, h.2.2⟩⟩
theorem okC_nil {st wd a : Nat} : okC st wd a [] = true ↔ a = wd := by simp [okC]
theorem okC_le {st wd : Nat} : ∀ (L : List Nat) (a : Nat), okC st wd a L = true → a + L.length ≤ wd
  | [], a, h => by rw [okC_nil] at h; simp [h]
  | b :: L, a, h => by
    rw [okC_cons] at h
    have := okC_le L b h.2.2
    simp only [List.length_cons]
    omega
theorem okC_more {st st' wd : Nat} (hs : st ≤ st') : ∀ (L : List Nat) (a : Nat), okC st wd a L = true → okC st' wd a L = true
  | [], _, h => h
  | b :: L, a, h => by
    rw [okC_cons] at h ⊢
    exact ⟨h.1, by omega, okC_more hs L b h.2.2⟩
theorem okC_append {st m wd : Nat} (M : List Nat) (hM : okC st wd m M = true) : ∀ (L : List Nat) (a : Nat), okC st m a L = true → okC st wd a (L ++ M) = true
  | [], a, h => by rw [okC_nil] at h; rw [h]; exact hM
  | b :: L, a, h => by
    rw [okC_cons] at h
    rw [List.cons_append, okC_cons]
    exact ⟨h.1, h.2.1, okC_append M hM L b h.2.2⟩
/-- A row of as few levels as can be. -/
theorem okC_few (st b : Nat) (h1 : 1 ≤ st) : ∀ k a : Nat, a ≤ b → b ≤ a + k * st → ∃ L, okC st b a L = true ∧ L.length ≤ k
  | 0, a, h2, h3 => ⟨[], okC_nil.2 (by omega), Nat.le_refl _⟩
  | k + 1, a, h2, h3 => by
    by_cases h : a = b
    · exact ⟨[], okC_nil.2 h, by simp⟩
    · rw [Nat.succ_mul] at h3
      by_cases h4 : a + st ≤ b
      · obtain ⟨L, hL, hl⟩ := okC_few st b h1 k (a + st) h4 (by omega)
        exact ⟨(a + st) :: L, okC_cons.2 ⟨by omega, by omega, hL⟩, by simp; omega⟩
      · exact ⟨[b], okC_cons.2 ⟨by omega, by omega, okC_nil.2 rfl⟩, by simp⟩
/-- What lengths above a and at most b cost at b. -/
def ptC (C : List Int) (a b : Nat) : Nat := smF (fun j => atC C (a + 1 + j) * 2 ^ (b - (a + 1 + j))) (b - a)
def coC (C : List Int) : Nat → List Nat → Nat
  | _, [] => 0
  | a, b :: L => ptC C a b + coC C b L
/-- Which of two rows as long is ahead; which of two ways is better. -/
def lexL : List Nat → List Nat → Bool
  | a :: A, b :: B => if a = b then lexL A B else decide (a < b)
  | _, _ => false
abbrev Wy := Nat × List Nat
def btW (x y : Wy) : Bool := if x.1 = y.1 then (if x.2.length = y.2.length then lexL x.2 y.2 else decide (x.2.length < y.2.length)) else decide (x.1 < y.1)
theorem lex_irrefl : ∀ A : List Nat, lexL A A = false
  | [] => rfl
  | a :: A => by simp [lexL, lex_irrefl A]
theorem lex_trans : ∀ A B D : List Nat, lexL A B = true → lexL B D = true → lexL A D = true
  | a :: A, b :: B, d :: D, h1, h2 => by
    unfold lexL at *
    by_cases e1 : a = b
    · subst e1
      rw [if_pos rfl] at h1
      by_cases e2 : a = d
      · subst e2
        rw [if_pos rfl] at h2 ⊢
        exact lex_trans A B D h1 h2
      · rw [if_neg e2] at h2 ⊢
        exact h2
    · rw [if_neg e1] at h1
      have l1 : a < b := of_decide_eq_true h1
      by_cases e2 : b = d
      · subst e2
        rw [if_neg e1]
        exact h1
      · rw [if_neg e2] at h2
        have l2 : b < d := of_decide_eq_true h2
        rw [if_neg (by omega)]
        exact decide_eq_true (by omega)
  | [], _, _, h, _ => by simp [lexL] at h
  | _ :: _, [], _, h, _ => by simp [lexL] at h
  | _ :: _, _ :: _, [], _, h => by simp [lexL] at h
theorem lex_total : ∀ A B : List Nat, A.length = B.length → lexL A B = true ∨ A = B ∨ lexL B A = true
  | [], [], _ => .inr (.inl rfl)
  | a :: A, b :: B, h => by
    unfold lexL
    by_cases e : a = b
    · subst e
      rw [if_pos rfl, if_pos rfl]
      rcases lex_total A B (by simpa using h) with h1 | h1 | h1
      · exact .inl h1
      · exact .inr (.inl (by rw [h1]))
      · exact .inr (.inr h1)
    · rw [if_neg e, if_neg (fun h => e h.symm)]
      by_cases h2 : a < b
      · exact .inl (decide_eq_true h2)
      · exact .inr (.inr (decide_eq_true (by omega)))
  | [], _ :: _, h => by simp at h
  | _ :: _, [], h => by simp at h
theorem bt_irrefl (x : Wy) : btW x x = false := by unfold btW; rw [if_pos rfl, if_pos rfl, lex_irrefl]
theorem bt_trans {x y z : Wy} (h1 : btW x y = true) (h2 : btW y z = true) : btW x z = true := by
  unfold btW at *
  by_cases e1 : x.1 = y.1
  · rw [if_pos e1] at h1
    by_cases e2 : y.1 = z.1
    · rw [if_pos e2] at h2
      rw [if_pos (e1.trans e2)]
      by_cases l1 : x.2.length = y.2.length
      · rw [if_pos l1] at h1
        by_cases l2 : y.2.length = z.2.length
        · rw [if_pos l2] at h2
          rw [if_pos (l1.trans l2)]
          exact lex_trans _ _ _ h1 h2
        · rw [if_neg l2] at h2
          rw [if_neg (by omega), l1]
          exact h2
      · rw [if_neg l1] at h1
        have m1 := of_decide_eq_true h1
        by_cases l2 : y.2.length = z.2.length
        · rw [if_neg (by omega), ← l2]
          exact h1
        · rw [if_neg l2] at h2
          have m2 := of_decide_eq_true h2
          rw [if_neg (by omega)]
          exact decide_eq_true (by omega)
    · rw [if_neg e2] at h2
      rw [if_neg (by omega), e1]
      exact h2
  · rw [if_neg e1] at h1
    have m1 := of_decide_eq_true h1
    by_cases e2 : y.1 = z.1
    · rw [if_neg (by omega), ← e2]
      exact h1
    · rw [if_neg e2] at h2
      have m2 := of_decide_eq_true h2
      rw [if_neg (by omega)]
      exact decide_eq_true (by omega)
theorem bt_total (x y : Wy) : btW x y = true ∨ x = y ∨ btW y x = true := by
  unfold btW
  by_cases e1 : x.1 = y.1
  · rw [if_pos e1, if_pos e1.symm]
    by_cases l1 : x.2.length = y.2.length
    · rw [if_pos l1, if_pos l1.symm]
      rcases lex_total _ _ l1 with h | h | h
      · exact .inl h
      · exact .inr (.inl (Prod.ext e1 h))
      · exact .inr (.inr h)
    · rw [if_neg l1, if_neg (fun h => l1 h.symm)]
      by_cases h : x.2.length < y.2.length
      · exact .inl (decide_eq_true h)
      · exact .inr (.inr (decide_eq_true (by omega)))
  · rw [if_neg e1, if_neg (fun h => e1 h.symm)]
    by_cases h : x.1 < y.1
    · exact .inl (decide_eq_true h)
    · exact .inr (.inr (decide_eq_true (by omega)))
/-- Not better than one that is not better than a third. -/
theorem bt_not {x y z : Wy} (h1 : btW x y = false) (h2 : btW y z = false) : btW x z = false := by
  cases h : btW x z with
  | false => rfl
  | true =>
    rcases bt_total x y with h3 | h3 | h3
    · rw [h3] at h1; cases h1
    · subst h3; rw [h] at h2; cases h2
    · rw [bt_trans h3 h] at h2; cases h2
theorem bt_anti {x y : Wy} (h1 : btW x y = false) (h2 : btW y x = false) : x = y := by
  rcases bt_total x y with h | h | h
  · rw [h] at h1; cases h1
  · exact h
  · rw [h] at h2; cases h2
theorem bt_cons (p b c1 c2 : Nat) (L1 L2 : List Nat) : btW (p + c1, b :: L1) (p + c2, b :: L2) = btW (c1, L1) (c2, L2) := by
  unfold btW
  simp only [List.length_cons, lexL]
  by_cases e : c1 = c2
  · rw [if_pos (by omega), if_pos e]
    by_cases l : L1.length = L2.length
    · rw [if_pos (by omega), if_pos l]
      simp
    · rw [if_neg (by omega), if_neg l]
      simp
  · rw [if_neg (by omega), if_neg e]
    simp
theorem bt_le {x y : Wy} (h : btW x y = false) : y.1 ≤ x.1 ∧ (x.1 = y.1 → y.2.length ≤ x.2.length) := by
  unfold btW at h
  by_cases e : x.1 = y.1
  · rw [if_pos e] at h
    refine ⟨by omega, fun _ => ?_⟩
    by_cases l : x.2.length = y.2.length
    · omega
    · rw [if_neg l] at h
      have := of_decide_eq_false h
      omega
  · rw [if_neg e] at h
    have := of_decide_eq_false h
    exact ⟨by omega, fun h => absurd h e⟩
def btO : Option Wy → Option Wy → Bool
  | none, _ => false
  | some _, none => true
  | some x, some y => btW x y
/-- The better of two, the second where neither is. -/
def pkO (n x : Option Wy) : Option Wy := if btO x n then x else n
/-- r is not beaten by v. -/
def topO (r : Option Wy) (v : Wy) : Prop := ∃ x, r = some x ∧ btW v x = false
theorem topO_self (v : Wy) : topO (some v) v := ⟨v, rfl, bt_irrefl v⟩
theorem pkO_old {n x : Option Wy} {v : Wy} (h : topO n v) : topO (pkO n x) v := by
  obtain ⟨y, rfl, hy⟩ := h
  unfold pkO
  cases x with
  | none => exact ⟨y, rfl, hy⟩
  | some z =>
    by_cases hb : btW z y = true
    · rw [if_pos (show btO (some z) (some y) = true from hb)]
      refine ⟨z, rfl, ?_⟩
      refine bt_not hy ?_
      cases h : btW y z with
      | false => rfl
      | true => have := bt_trans h hb; rw [bt_irrefl] at this; cases this
    · rw [if_neg (show ¬ btO (some z) (some y) = true from hb)]
      exact ⟨y, rfl, hy⟩
theorem pkO_new {n : Option Wy} {v : Wy} : topO (pkO n (some v)) v := by
  unfold pkO
  by_cases hb : btO (some v) n = true
  · rw [if_pos hb]; exact topO_self v
  · rw [if_neg hb]
    cases n with
    | none => exact absurd rfl hb
    | some y => exact ⟨y, rfl, by simpa [btO] using hb⟩
theorem pkO_in (n x : Option Wy) : pkO n x = n ∨ pkO n x = x := by
  unfold pkO
  split
  · exact .inr rfl
  · exact .inl rfl
/-- The best of k candidates beside s. -/
def fdO (f : Nat → Option Wy) (s : Option Wy) : Nat → Option Wy
  | 0 => s
  | k + 1 => pkO (fdO f s k) (f k)
theorem fdO_in (f : Nat → Option Wy) (s : Option Wy) : ∀ k, fdO f s k = s ∨ ∃ j, j < k ∧ fdO f s k = f j
  | 0 => .inl rfl
  | k + 1 => by
    rw [fdO]
    rcases pkO_in (fdO f s k) (f k) with h | h
    · rw [h]
      rcases fdO_in f s k with h | ⟨j, hj, h⟩
      · exact .inl h
      · exact .inr ⟨j, by omega, h⟩
    · exact .inr ⟨k, by omega, h⟩
theorem fdO_old (f : Nat → Option Wy) {s : Option Wy} {v : Wy} (h : topO s v) : ∀ k, topO (fdO f s k) v
  | 0 => h
  | k + 1 => pkO_old (fdO_old f h k)
theorem fdO_new (f : Nat → Option Wy) (s : Option Wy) (v : Wy) : ∀ k j, j < k → f j = some v → topO (fdO f s k) v
  | k + 1, j, hj, h => by
    rw [fdO]
    by_cases e : j = k
    · subst e
      rw [h]
      exact pkO_new
    · exact pkO_old (fdO_new f s v k j (by omega) h)
/-- The best way from a on with at most n levels. -/
def cdO (C : List Int) (a b : Nat) (r : Option Wy) : Option Wy := r.map fun x => (ptC C a b + x.1, b :: x.2)
def bst (C : List Int) (st wd : Nat) : Nat → Nat → Option Wy
  | 0, a => if a = wd then some (0, []) else none
  | n + 1, a => fdO (fun k => cdO C a (a + 1 + k) (bst C st wd n (a + 1 + k))) (bst C st wd n a) (min (a + st) wd - a)
/-- r is the best of the rows from a with at most n levels. -/
def IsMin (C : List Int) (st wd n a : Nat) (r : Option Wy) : Prop :=
  (∀ x, r = some x → okC st wd a x.2 = true ∧ x.2.length ≤ n ∧ x.1 = coC C a x.2) ∧ ∀ L, okC st wd a L = true → L.length ≤ n → topO r (coC C a L, L)
theorem min_one {C : List Int} {st wd n a : Nat} {r s : Option Wy} (h1 : IsMin C st wd n a r) (h2 : IsMin C st wd n a s) : r = s := by
  cases hr : r with
  | none =>
    cases hs : s with
    | none => rfl
    | some y =>
      obtain ⟨k1, k2, k3⟩ := h2.1 y hs
      obtain ⟨x, hx, -⟩ := h1.2 y.2 k1 k2
      rw [hr] at hx; cases hx
  | some x =>
    obtain ⟨k1, k2, k3⟩ := h1.1 x hr
    obtain ⟨y, hy, hb⟩ := h2.2 x.2 k1 k2
    obtain ⟨j1, j2, j3⟩ := h2.1 y hy
    obtain ⟨z, hz, hc⟩ := h1.2 y.2 j1 j2
    rw [hr] at hz
    injection hz with hz
    subst hz
    have e1 : x = (coC C a x.2, x.2) := Prod.ext k3 rfl
    have e2 : y = (coC C a y.2, y.2) := Prod.ext j3 rfl
    rw [← e1] at hb
    rw [← e2] at hc
    rw [hy, bt_anti hb hc]
theorem bst_min (C : List Int) (st wd : Nat) : ∀ n a, IsMin C st wd n a (bst C st wd n a)
  | 0, a => by
    unfold bst
    by_cases h : a = wd
    · rw [if_pos h]
      refine ⟨fun x hx => ?_, fun L hL hl => ?_⟩
      · injection hx with hx
        subst hx
        exact ⟨okC_nil.2 h, Nat.le_refl _, rfl⟩
      · obtain rfl : L = [] := List.length_eq_zero_iff.1 (by omega)
        exact topO_self _
    · rw [if_neg h]
      refine ⟨fun x hx => (by cases hx), fun L hL hl => ?_⟩
      obtain rfl : L = [] := List.length_eq_zero_iff.1 (by omega)
      exact absurd (okC_nil.1 hL) h
  | n + 1, a => by
    have ih := bst_min C st wd n
    rw [bst]
    obtain ⟨K, hK⟩ : ∃ K, K = min (a + st) wd - a := ⟨_, rfl⟩
    rw [← hK]
    refine ⟨fun x hx => ?_, fun L hL hl => ?_⟩
    · rcases fdO_in (fun k => cdO C a (a + 1 + k) (bst C st wd n (a + 1 + k))) (bst C st wd n a) K with h | ⟨j, hj, h⟩
      · rw [h] at hx
        obtain ⟨k1, k2, k3⟩ := (ih a).1 x hx
        exact ⟨k1, by omega, k3⟩
      · rw [h] at hx
        unfold cdO at hx
        cases hb : bst C st wd n (a + 1 + j) with
        | none => rw [hb] at hx; cases hx
        | some y =>
          rw [hb] at hx
          injection hx with hx
          subst hx
          obtain ⟨k1, k2, k3⟩ := (ih (a + 1 + j)).1 y hb
          exact ⟨okC_cons.2 ⟨by omega, by omega, k1⟩, by simp; omega, by show ptC C a (a + 1 + j) + y.1 = _; rw [k3]; rfl⟩
    · cases L with
      | nil => exact fdO_old _ ((ih a).2 [] hL (Nat.zero_le _)) K
      | cons b L =>
        have h := okC_cons.1 hL
        have hle := okC_le L b h.2.2
        obtain ⟨x, hx, hb⟩ := (ih b).2 L h.2.2 (by simp at hl; omega)
        obtain ⟨y, hy, hc⟩ := fdO_new (fun k => cdO C a (a + 1 + k) (bst C st wd n (a + 1 + k))) (bst C st wd n a) (ptC C a b + x.1, b :: x.2) K (b - a - 1) (by omega) (by
          show cdO C a (a + 1 + (b - a - 1)) (bst C st wd n (a + 1 + (b - a - 1))) = _
          rw [show a + 1 + (b - a - 1) = b by omega, hx]
          rfl)
        exact ⟨y, hy, bt_not (by rw [coC, bt_cons]; exact hb) hc⟩
/-- More levels than can be are none more. -/
theorem IsMin.cap {C : List Int} {st wd n a : Nat} {r : Option Wy} (m : Nat) (h : IsMin C st wd (min n m) a r) (hm : wd - a ≤ m) : IsMin C st wd n a r :=
  ⟨fun x hx => ⟨(h.1 x hx).1, Nat.le_trans (h.1 x hx).2.1 (Nat.min_le_left _ _), (h.1 x hx).2.2⟩, fun L hL hl => h.2 L hL (by have := okC_le L a hL; omega)⟩
end Go.Proofs.Ytnmcgboafdglbaa

/-
  Plain mathematics of choosing levels, the program's way: the best row of exactly so many levels, cost alone compared; the best of all of these; the way back. No condition but those that stand in each.
-/
import Derived.Test.YtnmcgboafdglbaaM17b
set_option linter.unusedSimpArgs false
set_option linter.unusedVariables false
namespace Go.Proofs.Ytnmcgboafdglbaa

/-- The best way of exactly n levels. -/
def exO (C : List Int) (st wd : Nat) : Nat → Nat → Option Wy
  | 0, a => if a = wd then some (0, []) else none
  | n + 1, a => fdO (fun k => cdO C a (a + 1 + k) (exO C st wd n (a + 1 + k))) none (min (a + st) wd - a)
def IsEx (C : List Int) (st wd n a : Nat) (r : Option Wy) : Prop :=
  (∀ x, r = some x → okC st wd a x.2 = true ∧ x.2.length = n ∧ x.1 = coC C a x.2) ∧ ∀ L, okC st wd a L = true → L.length = n → topO r (coC C a L, L)
/-- Where the best of candidates comes from. -/
theorem ex_from {C : List Int} {st wd n a K : Nat} {x : Wy} (h : fdO (fun k => cdO C a (a + 1 + k) (exO C st wd n (a + 1 + k))) none K = some x) :
    ∃ j y, j < K ∧ exO C st wd n (a + 1 + j) = some y ∧ x = (ptC C a (a + 1 + j) + y.1, (a + 1 + j) :: y.2) := by
  rcases fdO_in (fun k => cdO C a (a + 1 + k) (exO C st wd n (a + 1 + k))) none K with h2 | ⟨j, hj, h2⟩
  · rw [h] at h2; cases h2
  · rw [h] at h2
    unfold cdO at h2
    cases hb : exO C st wd n (a + 1 + j) with
    | none => rw [hb] at h2; cases h2
    | some y =>
      rw [hb] at h2
      injection h2 with h2
      exact ⟨j, y, hj, hb, h2⟩
theorem exo_ex (C : List Int) (st wd : Nat) : ∀ n a, IsEx C st wd n a (exO C st wd n a)
  | 0, a => by
    unfold exO
    by_cases h : a = wd
    · rw [if_pos h]
      refine ⟨fun x hx => ?_, fun L hL hl => ?_⟩
      · injection hx with hx
        subst hx
        exact ⟨okC_nil.2 h, rfl, rfl⟩
      · obtain rfl : L = [] := List.length_eq_zero_iff.1 (by omega)
        exact topO_self _
    · rw [if_neg h]
      refine ⟨fun x hx => (by cases hx), fun L hL hl => ?_⟩
      obtain rfl : L = [] := List.length_eq_zero_iff.1 (by omega)
      exact absurd (okC_nil.1 hL) h
  | n + 1, a => by
    have ih := exo_ex C st wd n
    rw [exO]
    obtain ⟨K, hK⟩ : ∃ K, K = min (a + st) wd - a := ⟨_, rfl⟩
    rw [← hK]
    refine ⟨fun x hx => ?_, fun L hL hl => ?_⟩
    · obtain ⟨j, y, hj, hb, rfl⟩ := ex_from hx
      obtain ⟨k1, k2, k3⟩ := (ih (a + 1 + j)).1 y hb
      exact ⟨okC_cons.2 ⟨by omega, by omega, k1⟩, by simp; omega, by show ptC C a (a + 1 + j) + y.1 = _; rw [k3]; rfl⟩
    · cases L with
      | nil => simp at hl
      | cons b L =>
        have h := okC_cons.1 hL
        have hle := okC_le L b h.2.2
        obtain ⟨x, hx, hb⟩ := (ih b).2 L h.2.2 (by simp at hl; omega)
        obtain ⟨y, hy, hc⟩ := fdO_new (fun k => cdO C a (a + 1 + k) (exO C st wd n (a + 1 + k))) none (ptC C a b + x.1, b :: x.2) K (b - a - 1) (by omega) (by
          show cdO C a (a + 1 + (b - a - 1)) (exO C st wd n (a + 1 + (b - a - 1))) = _
          rw [show a + 1 + (b - a - 1) = b by omega, hx]
          rfl)
        exact ⟨y, hy, bt_not (by rw [coC, bt_cons]; exact hb) hc⟩
/-- One is there, and cheaper. -/
def chB : Option Wy → Option Wy → Bool
  | none, _ => false
  | some _, none => true
  | some x, some y => decide (x.1 < y.1)
theorem pk_cheap (n x : Option Wy) (h : ∀ y z, n = some y → x = some z → z.1 = y.1 → btW z y = false) : pkO n x = if chB x n then x else n := by
  unfold pkO
  congr 1
  cases x with
  | none => rfl
  | some z =>
    cases n with
    | none => rfl
    | some y =>
      show (btW z y = true) = (decide (z.1 < y.1) = true)
      by_cases e : z.1 = y.1
      · rw [h y z rfl rfl e, decide_eq_false (by omega)]
      · unfold btW
        rw [if_neg e]
/-- One candidate more, cost alone compared: the candidates begin one behind the other. -/
theorem ex_step (C : List Int) (st wd n a i : Nat) : fdO (fun k => cdO C a (a + 1 + k) (exO C st wd n (a + 1 + k))) none (i + 1) =
    if chB (cdO C a (a + 1 + i) (exO C st wd n (a + 1 + i))) (fdO (fun k => cdO C a (a + 1 + k) (exO C st wd n (a + 1 + k))) none i) then cdO C a (a + 1 + i) (exO C st wd n (a + 1 + i)) else fdO (fun k => cdO C a (a + 1 + k) (exO C st wd n (a + 1 + k))) none i := by
  rw [fdO]
  refine pk_cheap _ _ fun y z hy hz he => ?_
  obtain ⟨j, y', hj, hb, rfl⟩ := ex_from hy
  unfold cdO at hz
  cases hb2 : exO C st wd n (a + 1 + i) with
  | none => rw [hb2] at hz; cases hz
  | some z' =>
    rw [hb2] at hz
    injection hz with hz
    subst hz
    have l1 := ((exo_ex C st wd n _).1 _ hb).2.1
    have l2 := ((exo_ex C st wd n _).1 _ hb2).2.1
    unfold btW
    rw [if_pos he, if_pos (by simp only [List.length_cons]; omega)]
    show lexL ((a + 1 + i) :: z'.2) ((a + 1 + j) :: y'.2) = false
    unfold lexL
    rw [if_neg (by omega)]
    exact decide_eq_false (by omega)
/-- The best of at most m levels, by the number of levels. -/
def bsI (C : List Int) (st wd a : Nat) : Nat → Nat
  | 0 => 0
  | m + 1 => if chB (exO C st wd (m + 1) a) (exO C st wd (bsI C st wd a m) a) then m + 1 else bsI C st wd a m
theorem bsI_le (C : List Int) (st wd a : Nat) : ∀ m, bsI C st wd a m ≤ m
  | 0 => Nat.le_refl _
  | m + 1 => by
    rw [bsI]
    have := bsI_le C st wd a m
    split <;> omega
theorem bsI_min (C : List Int) (st wd a : Nat) : ∀ m, IsMin C st wd m a (exO C st wd (bsI C st wd a m) a)
  | 0 => ⟨fun x hx => have h := (exo_ex C st wd 0 a).1 x hx; ⟨h.1, by have := h.2.1; omega, h.2.2⟩, fun L hL hl => (exo_ex C st wd 0 a).2 L hL (by omega)⟩
  | m + 1 => by
    have ih := bsI_min C st wd a m
    have hle := bsI_le C st wd a m
    have h : pkO (exO C st wd (bsI C st wd a m) a) (exO C st wd (m + 1) a) = exO C st wd (bsI C st wd a (m + 1)) a := by
      rw [pk_cheap _ _ fun y z hy hz he => ?_]
      · rw [bsI]
        split <;> rfl
      · have l1 := ((exo_ex C st wd _ _).1 _ hy).2.1
        have l2 := ((exo_ex C st wd _ _).1 _ hz).2.1
        unfold btW
        rw [if_pos he, if_neg (by omega)]
        exact decide_eq_false (by omega)
    rw [← h]
    refine ⟨fun x hx => ?_, fun L hL hl => ?_⟩
    · rcases pkO_in (exO C st wd (bsI C st wd a m) a) (exO C st wd (m + 1) a) with h2 | h2
      · rw [h2] at hx
        obtain ⟨k1, k2, k3⟩ := ih.1 x hx
        exact ⟨k1, by omega, k3⟩
      · rw [h2] at hx
        obtain ⟨k1, k2, k3⟩ := (exo_ex C st wd (m + 1) a).1 x hx
        exact ⟨k1, by omega, k3⟩
    · by_cases e : L.length = m + 1
      · obtain ⟨x, hx, hb⟩ := (exo_ex C st wd (m + 1) a).2 L hL e
        obtain ⟨y, hy, hc⟩ := pkO_new (n := exO C st wd (bsI C st wd a m) a) (v := x)
        rw [← hx] at hy
        exact ⟨y, hy, bt_not hb hc⟩
      · exact pkO_old (ih.2 L hL (by omega))
/-- How a way lies in memory: its cost, its first level, whether there is one. -/
structure Wc where
  c : Nat
  f : Nat
  t : Bool
def wyE : Option Wy → Wc
  | none => ⟨0, 0, false⟩
  | some (c, L) => ⟨c, L.headD 0, true⟩
theorem wyE_t (r : Option Wy) : (wyE r).t = r.isSome := by cases r <;> rfl
/-- One way is there, and cheaper, as the program sees it. -/
def chW (x y : Wc) : Bool := x.t && (!y.t || decide (x.c < y.c))
theorem chW_is (x y : Option Wy) : chW (wyE x) (wyE y) = chB x y := by
  cases x with
  | none => rfl
  | some x => cases y <;> rfl
/-- What the program makes of a candidate. -/
def canW (p b : Nat) (x : Wc) : Wc := ⟨p + x.c, b, x.t⟩
theorem canW_some (C : List Int) (a b : Nat) (x : Wy) : canW (ptC C a b) b (wyE (some x)) = wyE (cdO C a b (some x)) := rfl
theorem chW_can (C : List Int) (a b : Nat) (r s : Option Wy) : chW (canW (ptC C a b) b (wyE r)) (wyE s) = chB (cdO C a b r) s := by
  cases r with
  | none => rfl
  | some x => rw [canW_some, chW_is]
/-- One round of the program's choice. -/
theorem ex_stepW (C : List Int) (st wd n a i : Nat) (w c : Wc) (hw : w = wyE (fdO (fun k => cdO C a (a + 1 + k) (exO C st wd n (a + 1 + k))) none i)) (hc : c = canW (ptC C a (a + 1 + i)) (a + 1 + i) (wyE (exO C st wd n (a + 1 + i)))) :
    wyE (fdO (fun k => cdO C a (a + 1 + k) (exO C st wd n (a + 1 + k))) none (i + 1)) = if chW c w then c else w := by
  rw [ex_step, hw, hc, chW_can]
  cases hr : exO C st wd n (a + 1 + i) with
  | none => rfl
  | some x =>
    rw [canW_some]
    split <;> rfl
/-- What a row of levels costs at most. -/
theorem ptC_le (C : List Int) (a b : Nat) (h : b ≤ a + 20) : ptC C a b ≤ capS (b - a) := by
  have : ∀ (f : Nat → Nat) k, (∀ n, n < k → f n ≤ 1099511627776) → smF f k ≤ capS k := by
    intro f k
    induction k with
    | zero => intro _; exact Nat.zero_le _
    | succ k ih => intro hk; exact capS_next (ih fun n hn => hk n (by omega)) (hk k (by omega))
  refine this _ _ fun n hn => ?_
  have h1 := atC_le C (a + 1 + n)
  have h2 : 2 ^ (b - (a + 1 + n)) ≤ 2 ^ 20 := Nat.pow_le_pow_right (by decide) (by omega)
  exact Nat.le_trans (Nat.mul_le_mul h1 h2) (by decide)
theorem capS_add (m n : Nat) : capS m + capS n = capS (m + n) := by unfold capS; rw [Nat.add_mul]
theorem capS_mono {m n : Nat} (h : m ≤ n) : capS m ≤ capS n := Nat.mul_le_mul_right _ h
theorem coC_le (C : List Int) {st wd : Nat} (hs : st ≤ 20) : ∀ (L : List Nat) (a : Nat), okC st wd a L = true → coC C a L ≤ capS (wd - a)
  | [], _, _ => Nat.zero_le _
  | b :: L, a, h => by
    rw [okC_cons] at h
    have h1 := ptC_le C a b (by omega)
    have h2 := coC_le C hs L b h.2.2
    have hle := okC_le L b h.2.2
    have h3 := capS_add (b - a) (wd - b)
    rw [show b - a + (wd - b) = wd - a by omega] at h3
    rw [coC, ← h3]
    exact Nat.add_le_add h1 h2
theorem ex_le (C : List Int) {st wd : Nat} (hs : st ≤ 20) (n a : Nat) : (wyE (exO C st wd n a)).c ≤ capS (wd - a) := by
  cases h : exO C st wd n a with
  | none => exact Nat.zero_le _
  | some x =>
    obtain ⟨k1, -, k3⟩ := (exo_ex C st wd n a).1 x h
    show x.1 ≤ _
    rw [k3]
    exact coC_le C hs _ _ k1
theorem ex_f_le (C : List Int) {st wd : Nat} (n a : Nat) : (wyE (exO C st wd n a)).f ≤ wd := by
  cases h : exO C st wd n a with
  | none => exact Nat.zero_le _
  | some x =>
    obtain ⟨k1, -, -⟩ := (exo_ex C st wd n a).1 x h
    obtain ⟨c, L⟩ := x
    cases L with
    | nil => exact Nat.zero_le _
    | cons b L =>
      have h1 := okC_cons.1 k1
      have := okC_le L b h1.2.2
      show b ≤ wd
      omega
/-- The way back: the first level, and what is behind it. -/
theorem ex_back {C : List Int} {st wd n a : Nat} {c : Nat} {L : List Nat} (h : exO C st wd (n + 1) a = some (c, L)) :
    ∃ b M c', L = b :: M ∧ (wyE (exO C st wd (n + 1) a)).f = b ∧ exO C st wd n b = some (c', M) ∧ a < b ∧ b ≤ wd := by
  have h2 := h
  rw [exO] at h2
  obtain ⟨j, y, hj, hb, hx⟩ := ex_from h2
  injection hx with h3 h4
  subst h4
  exact ⟨a + 1 + j, y.2, y.1, rfl, by rw [h]; rfl, hb, by omega, by omega⟩
theorem ex_zero {C : List Int} {st wd a : Nat} {c : Nat} {L : List Nat} (h : exO C st wd 0 a = some (c, L)) : L = [] := by
  have := ((exo_ex C st wd 0 a).1 _ h).2.1
  exact List.length_eq_zero_iff.1 this
/-- THE CHOICE: the best of at most m levels, whatever is tried beyond how many there can be. -/
theorem choice (C : List Int) (st wd m a : Nat) (ha : a ≤ wd) : exO C st wd (bsI C st wd a (min m (wd - a))) a = bst C st wd (min m wd) a :=
  min_one ((bsI_min C st wd a (min m (wd - a))).cap (wd - a) (Nat.le_refl _)) ((bst_min C st wd (min m wd) a).cap wd (by omega))
end Go.Proofs.Ytnmcgboafdglbaa

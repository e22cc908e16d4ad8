/-
  Sorting that keeps the order of equals, plainly: what insertion, swaps of neighbouring ranges and merging by halves do to a row. No condition but those that stand in each.
-/
import Derived.Sort.WalkA
import Derived.Sort.LotA
set_option linter.unusedSimpArgs false
set_option linter.unusedVariables false
namespace Go.Proofs.Ytcfioplbbbaeoaa
open Go.Sort
set_option linter.unusedSectionVars false
set_option linter.unusedSimpArgs false

section
variable {α : Type} [Inhabited α] {lt : α → α → Bool}
/-- Neither is less. -/
def eqv (lt : α → α → Bool) (x y : α) : Bool := !lt x y && !lt y x
/-- The same elements, those of one class in the same order. -/
def Stb (lt : α → α → Bool) (X Y : List α) : Prop := X.Perm Y ∧ ∀ x, X.filter (eqv lt x) = Y.filter (eqv lt x)
def Asc (lt : α → α → Bool) (X : List α) : Prop := X.Pairwise fun a b => lt b a = false
theorem Stb.refl (X : List α) : Stb lt X X := ⟨List.Perm.refl _, fun _ => rfl⟩
theorem Stb.trans {X Y Z : List α} (h : Stb lt X Y) (g : Stb lt Y Z) : Stb lt X Z := ⟨h.1.trans g.1, fun x => (h.2 x).trans (g.2 x)⟩
theorem Stb.append {X Y X' Y' : List α} (h : Stb lt X X') (g : Stb lt Y Y') : Stb lt (X ++ Y) (X' ++ Y') := ⟨h.1.append g.1, fun x => by rw [List.filter_append, List.filter_append, h.2, g.2]⟩
theorem Stb.len {X Y : List α} (h : Stb lt X Y) : X.length = Y.length := h.1.length_eq
theorem Stb.swap (hO : SWO lt) {U V : List α} (h : ∀ u ∈ U, ∀ v ∈ V, lt v u = true) : Stb lt (U ++ V) (V ++ U) := by
  refine ⟨List.perm_append_comm, fun x => ?_⟩
  rw [List.filter_append, List.filter_append]
  by_cases hu : ∃ u ∈ U, eqv lt x u = true
  · obtain ⟨u, hu, hxu⟩ := hu
    have : V.filter (eqv lt x) = [] := by
      rw [List.filter_eq_nil_iff]
      intro v hv hxv
      simp only [eqv, Bool.and_eq_true, Bool.not_eq_true'] at hxu hxv
      have := hO.ntrans v x u hxv.2 hxu.1
      rw [h u hu v hv] at this
      cases this
    rw [this]
    simp
  · have : U.filter (eqv lt x) = [] := by
      rw [List.filter_eq_nil_iff]
      exact fun u hu2 hxu => hu ⟨u, hu2, hxu⟩
    rw [this]
    simp
theorem asymm (hO : SWO lt) {x y : α} (h : lt x y = true) : lt y x = false := by
  cases g : lt y x with
  | false => rfl
  | true =>
    have := hO.trans x y x h g
    rw [hO.irrefl] at this
    cases this
theorem swp_comm (d : Array α) (i j : Nat) (hi : i < d.size) (hj : j < d.size) : swp d i j = swp d j i := by
  apply Array.ext (by simp [swp])
  intro k h1 h2
  have e1 := swp_get d hi hj k
  have e2 := swp_get d hj hi k
  rw [getElem!_pos (swp d i j) k h1] at e1
  rw [getElem!_pos (swp d j i) k h2] at e2
  rw [e1, e2]
  by_cases a : k = i
  · by_cases b : k = j
    · subst a; rw [b]
    · rw [if_neg b, if_pos a, if_pos a]
  · by_cases b : k = j
    · rw [if_pos b, if_neg a, if_pos b]
    · rw [if_neg b, if_neg a, if_neg a, if_neg b]
theorem get_mid (P Q : List α) (x : α) (p : Nat) (hp : p = P.length) : (P ++ x :: Q).toArray[p]! = x := by
  subst hp
  simp
theorem swp_lists (P Q S : List α) (x y : α) (p q : Nat) (hp : p = P.length) (hq : q = P.length + 1 + Q.length) :
    swp (P ++ x :: (Q ++ y :: S)).toArray p q = (P ++ y :: (Q ++ x :: S)).toArray := by
  have e1 : (P ++ x :: (Q ++ y :: S)).toArray[p]! = x := get_mid _ _ _ _ hp
  have e2 : (P ++ x :: (Q ++ y :: S)).toArray[q]! = y := by
    have := get_mid (P ++ x :: Q) S y q (by simp; omega)
    simpa using this
  unfold swp
  rw [e1, e2]
  subst hp hq
  rw [List.setIfInBounds_toArray, List.setIfInBounds_toArray]
  congr 1
  rw [List.set_append_right _ _ (Nat.le_refl _), Nat.sub_self, List.set_cons_zero, List.set_append_right _ _ (by omega)]
  rw [show P.length + 1 + Q.length - P.length = Q.length + 1 from by omega, List.set_cons_succ, List.set_append_right _ _ (Nat.le_refl _), Nat.sub_self, List.set_cons_zero]
theorem swp_lists' (P Q S : List α) (x y : α) (p q : Nat) (hp : p = P.length) (hq : q = P.length + 1 + Q.length) :
    swp (P ++ x :: (Q ++ y :: S)).toArray q p = (P ++ y :: (Q ++ x :: S)).toArray := by
  rw [swp_comm _ _ _ (by simp; omega) (by simp; omega)]
  exact swp_lists P Q S x y p q hp hq
/-- One element down into a row, past all that it is less than. -/
theorem insInner_list (hO : SWO lt) (P : List α) (x : α) : ∀ (n : Nat) (X Y : List α) (a j : Nat), X.length = n → a = P.length → j = P.length + n →
    ∃ X1 X2, X = X1 ++ X2 ∧ insInner lt a j (P ++ (X ++ x :: Y)).toArray = (P ++ (X1 ++ x :: (X2 ++ Y))).toArray ∧ (∀ z ∈ X2, lt x z = true) ∧ ∀ z, X1.getLast? = some z → lt x z = false
  | 0, X, Y, a, j, hX, ha, hj => by
    obtain rfl := List.eq_nil_of_length_eq_zero hX
    refine ⟨[], [], rfl, ?_, by simp, by simp⟩
    rw [insInner_stop lt a j _ (.inl (by omega))]
    simp
  | n + 1, X, Y, a, j, hX, ha, hj => by
    obtain ⟨X', z, rfl⟩ : ∃ X' z, X = X' ++ [z] := ⟨X.dropLast, X.getLast (by intro e; simp [e] at hX), (List.dropLast_concat_getLast _).symm⟩
    have hX' : X'.length = n := by simpa using hX
    have e0 : P ++ ((X' ++ [z]) ++ x :: Y) = (P ++ X') ++ z :: ([] ++ x :: Y) := by simp
    have g1 : (P ++ ((X' ++ [z]) ++ x :: Y)).toArray[j]! = x := by
      have := get_mid (P ++ (X' ++ [z])) Y x j (by simp; omega)
      simpa using this
    have g2 : (P ++ ((X' ++ [z]) ++ x :: Y)).toArray[j - 1]! = z := by
      have := get_mid (P ++ X') (x :: Y) z (j - 1) (by simp; omega)
      simpa using this
    cases h : lt x z with
    | false =>
      refine ⟨X' ++ [z], [], by simp, ?_, by simp, ?_⟩
      · rw [insInner_stop lt a j _ (.inr (by rw [g1, g2]; exact h))]
        simp
      · intro y hy
        simp at hy
        subst hy
        exact h
    | true =>
      rw [insInner_go lt a j _ (by omega) (by rw [g1, g2]; exact h), e0, swp_lists' (P ++ X') [] Y z x (j - 1) j (by simp; omega) (by simp; omega)]
      obtain ⟨X1, X2, h1, h2, h3, h4⟩ := insInner_list hO P x n X' (z :: Y) a (j - 1) hX' ha (by omega)
      refine ⟨X1, X2 ++ [z], by rw [h1]; simp, ?_, ?_, h4⟩
      · have e : (P ++ X') ++ x :: ([] ++ z :: Y) = P ++ (X' ++ x :: (z :: Y)) := by simp
        rw [e, h2]
        simp
      · intro y hy
        rcases List.mem_append.1 hy with hy | hy
        · exact h3 y hy
        · simp at hy
          subst hy
          exact h
theorem asc_cons {x : α} {X : List α} (h : Asc lt X) (hx : ∀ z ∈ X, lt z x = false) : Asc lt (x :: X) := List.pairwise_cons.2 ⟨hx, h⟩
theorem asc_append {X Y : List α} : Asc lt (X ++ Y) ↔ Asc lt X ∧ Asc lt Y ∧ ∀ x ∈ X, ∀ y ∈ Y, lt y x = false := List.pairwise_append
theorem insOuter_list (hO : SWO lt) (P : List α) : ∀ (n : Nat) (X1 X2 Y : List α) (a b i : Nat), X2.length = n → a = P.length → i = P.length + X1.length → b = P.length + X1.length + n → Asc lt X1 →
    ∃ R, insOuter lt a b i (P ++ (X1 ++ (X2 ++ Y))).toArray = (P ++ (R ++ Y)).toArray ∧ Asc lt R ∧ Stb lt (X1 ++ X2) R
  | 0, X1, X2, Y, a, b, i, hX, ha, hi, hb, hs => by
    obtain rfl := List.eq_nil_of_length_eq_zero hX
    rw [insOuter_stop lt a b i _ (by omega)]
    exact ⟨X1, by simp, hs, by simpa using Stb.refl _⟩
  | n + 1, X1, X2, Y, a, b, i, hX, ha, hi, hb, hs => by
    cases X2 with
    | nil => simp at hX
    | cons x X2 =>
      simp only [List.length_cons, Nat.add_right_cancel_iff] at hX
      rw [insOuter_go lt a b i _ (by omega)]
      obtain ⟨U1, U2, h1, h2, h3, h4⟩ := insInner_list hO P x X1.length X1 (X2 ++ Y) a i rfl ha hi
      have e : P ++ (X1 ++ (x :: X2 ++ Y)) = P ++ (X1 ++ x :: (X2 ++ Y)) := by simp
      rw [e, h2]
      subst h1
      obtain ⟨s1, s2, s3⟩ := asc_append.1 hs
      have low : ∀ z ∈ U1, lt x z = false := by
        intro z hz
        cases hl : U1.getLast? with
        | none => rw [List.getLast?_eq_none_iff] at hl; rw [hl] at hz; cases hz
        | some y =>
          have hy := h4 y hl
          obtain ⟨W, rfl⟩ := List.getLast?_eq_some_iff.1 hl
          rcases List.mem_append.1 hz with hz | hz
          · exact hO.ntrans x y z hy ((asc_append.1 s1).2.2 z hz y (by simp))
          · simp at hz
            subst hz
            exact hy
      have hs2 : Asc lt (U1 ++ x :: U2) := asc_append.2 ⟨s1, asc_cons s2 fun z hz => asymm hO (h3 z hz), fun z hz y hy => by
        rcases List.mem_cons.1 hy with rfl | hy
        · exact low z hz
        · exact s3 z hz y hy⟩
      obtain ⟨R, r1, r2, r3⟩ := insOuter_list hO P n (U1 ++ x :: U2) X2 Y a b (i + 1) hX ha (by simp at hi ⊢; omega) (by simp at hb ⊢; omega) hs2
      refine ⟨R, ?_, r2, Stb.trans ?_ r3⟩
      · rw [← r1]
        simp
      · have : (U1 ++ U2) ++ x :: X2 = U1 ++ ((U2 ++ [x]) ++ X2) := by simp
        rw [this]
        have : (U1 ++ x :: U2) ++ X2 = U1 ++ (([x] ++ U2) ++ X2) := by simp
        rw [this]
        exact (Stb.refl U1).append ((Stb.swap hO fun u hu v hv => by simp at hv; subst hv; exact h3 u hu).append (Stb.refl X2))
theorem ins_list (hO : SWO lt) (P X Y : List α) (a b : Nat) (ha : a = P.length) (hb : b = P.length + X.length) :
    ∃ R, insertionSort lt (P ++ (X ++ Y)).toArray a b = (P ++ (R ++ Y)).toArray ∧ Asc lt R ∧ Stb lt X R := by
  unfold insertionSort
  cases X with
  | nil => exact ⟨[], by rw [insOuter_stop lt a b _ _ (by simp at hb; omega)], List.Pairwise.nil, Stb.refl _⟩
  | cons x X =>
    obtain ⟨R, h1, h2, h3⟩ := insOuter_list hO P X.length [x] X Y a b (a + 1) rfl ha (by simp; omega) (by simp at hb ⊢; omega) (by unfold Asc; simp)
    exact ⟨R, by simpa using h1, h2, by simpa using h3⟩
/-- Two sorted rows, each cut in two: the lower parts apart from the upper ones. -/
theorem sym_join (hO : SWO lt) {U1 U2 V1 V2 R1 R2 : List α} (hU : Asc lt (U1 ++ U2)) (hV : Asc lt (V1 ++ V2)) (h1 : ∀ u ∈ U1, ∀ v ∈ V2, lt v u = false) (h2 : ∀ u ∈ U2, ∀ v ∈ V1, lt v u = true)
    (s1 : Stb lt (U1 ++ V1) R1) (s2 : Stb lt (U2 ++ V2) R2) (a1 : Asc lt R1) (a2 : Asc lt R2) : Asc lt (R1 ++ R2) ∧ Stb lt ((U1 ++ U2) ++ (V1 ++ V2)) (R1 ++ R2) := by
  constructor
  · refine asc_append.2 ⟨a1, a2, fun x hx y hy => ?_⟩
    rcases List.mem_append.1 (s1.1.mem_iff.2 hx) with hx | hx <;> rcases List.mem_append.1 (s2.1.mem_iff.2 hy) with hy | hy
    · exact (asc_append.1 hU).2.2 x hx y hy
    · exact h1 x hx y hy
    · exact asymm hO (h2 y hy x hx)
    · exact (asc_append.1 hV).2.2 x hx y hy
  · have e1 : (U1 ++ U2) ++ (V1 ++ V2) = U1 ++ ((U2 ++ V1) ++ V2) := by simp
    have e2 : U1 ++ ((V1 ++ U2) ++ V2) = (U1 ++ V1) ++ (U2 ++ V2) := by simp
    rw [e1]
    refine ((Stb.refl U1).append ((Stb.swap hO h2).append (Stb.refl V2))).trans ?_
    rw [e2]
    exact s1.append s2
/-- Where an element of a part stands, and what stands there. -/
theorem at_in {A X B : List α} {x : α} (h : x ∈ X) : ∃ c, A.length ≤ c ∧ c < A.length + X.length ∧ (A ++ (X ++ B)).toArray[c]! = x := by
  obtain ⟨i, hi, rfl⟩ := List.mem_iff_getElem.1 h
  refine ⟨A.length + i, by omega, by omega, ?_⟩
  rw [getElem!_pos _ _ (by simp; omega)]
  simp [List.getElem_append_right, List.getElem_append_left, hi]
theorem asc_at (hO : SWO lt) {A X B : List α} (h : Asc lt X) {i j : Nat} (h1 : A.length ≤ i) (h2 : i ≤ j) (h3 : j < A.length + X.length) : lt (A ++ (X ++ B)).toArray[j]! (A ++ (X ++ B)).toArray[i]! = false := by
  have g : ∀ c, A.length ≤ c → (hc : c < A.length + X.length) → (A ++ (X ++ B)).toArray[c]! = X[c - A.length] := by
    intro c hc1 hc2
    rw [getElem!_pos _ _ (by simp; omega)]
    simp only [List.getElem_toArray]
    rw [List.getElem_append_right hc1, List.getElem_append_left (by omega)]
  rw [g i h1 (by omega), g j (by omega) h3]
  by_cases e : i = j
  · subst e
    exact hO.irrefl _
  · exact List.pairwise_iff_getElem.1 h (i - A.length) (j - A.length) (by omega) (by omega) (by omega)
/-- What a search by halves knows: below i all are, from j on none is. -/
structure Bs (f : Nat → Bool) (lo hi i j : Nat) : Prop where
  h1 : lo ≤ i
  h2 : i ≤ j
  h3 : j ≤ hi
  low : ∀ c, lo ≤ c → c < i → f c = true
  high : ∀ c, j ≤ c → c < hi → f c = false
theorem Bs.start (f : Nat → Bool) {lo hi : Nat} (h : lo ≤ hi) : Bs f lo hi lo hi := ⟨Nat.le_refl _, h, Nat.le_refl _, fun c h1 h2 => by omega, fun c h1 h2 => by omega⟩
theorem Bs.up {f : Nat → Bool} {lo hi i j h : Nat} (B : Bs f lo hi i j) (mono : ∀ c e, lo ≤ c → c ≤ e → e < hi → f e = true → f c = true) (g1 : i ≤ h) (g2 : h < j) (hf : f h = true) : Bs f lo hi (h + 1) j := by
  have := B.h1; have := B.h3
  exact ⟨by omega, by omega, B.h3, fun c c1 c2 => mono c h c1 (by omega) (by omega) hf, B.high⟩
theorem Bs.down {f : Nat → Bool} {lo hi i j h : Nat} (B : Bs f lo hi i j) (mono : ∀ c e, lo ≤ c → c ≤ e → e < hi → f e = true → f c = true) (g1 : i ≤ h) (g2 : h < j) (hf : f h = false) : Bs f lo hi i h := by
  have := B.h1; have := B.h3
  refine ⟨B.h1, g1, by omega, B.low, fun c c1 c2 => ?_⟩
  cases hc : f c with
  | false => rfl
  | true =>
    have := mono h c (by omega) c1 c2 hc
    rw [hf] at this
    cases this
end
end Go.Proofs.Ytcfioplbbbaeoaa

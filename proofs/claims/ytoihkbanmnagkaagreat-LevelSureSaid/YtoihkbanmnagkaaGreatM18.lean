/-
  Plain mathematics of what a level holds: the keys that a route makes there, the hop of a key, the set of a level; that a sorted row is known by its members; what an address finds. No condition but those that stand in each.
-/
import Derived.Sort.WalkA
import Derived.Sort.LotA
import Derived.Test.YtoihkbanmnagkaaGreatLtR
import Derived.Test.YtoihkbanmnagkaaGreatOwn
import Derived.Test.YtoihkbanmnagkaaGreatW6c
import Derived.Test.YtoihkbanmnagkaaGreatRow
/-
  Sorting that keeps the order of equals, plainly: what insertion, swaps of neighbouring ranges and merging by halves do to a row. No condition but those that stand in each.
-/
set_option linter.unusedSimpArgs false
set_option linter.unusedVariables false
namespace Go.Proofs.YtoihkbanmnagkaaGreat
open Go.Sort
set_option linter.unusedSectionVars false
set_option linter.unusedSimpArgs false

section
variable {α : Type} [Inhabited α] {lt : α → α → Bool}
/-- Neither is less. -/
def eqv (lt : α → α → Bool) (x y : α) : Bool := !lt x y && !lt y x
/-- The same elements, those of one class in the same order. -/
def Stb (lt : α → α → Bool) (X Y : List α) : Prop := X.Perm Y ∧ ∀ x, X.filter (eqv lt x) = Y.filter (eqv lt x)
def Asc (lt : α → α → Bool) (X : List α) : Prop := X.Pairwise fun a b => lt b a = false
theorem Stb.refl (X : List α) : Stb lt X X := ⟨List.Perm.refl _, fun _ => rfl⟩
theorem Stb.trans {X Y Z : List α} (h : Stb lt X Y) (g : Stb lt Y Z) : Stb lt X Z := ⟨h.1.trans g.1, fun x => (h.2 x).trans (g.2 x)⟩
theorem Stb.append {X Y X' Y' : List α} (h : Stb lt X X') (g : Stb lt Y Y') : Stb lt (X ++ Y) (X' ++ Y') := ⟨h.1.append g.1, fun x => by rw [List.filter_append, List.filter_append, h.2, g.2]⟩
theorem Stb.len {X Y : List α} (h : Stb lt X Y) : X.length = Y.length := h.1.length_eq
theorem Stb.swap (hO : SWO lt) {U V : List α} (h : ∀ u ∈ U, ∀ v ∈ V, lt v u = true) : Stb lt (U ++ V) (V ++ U) := by
  refine ⟨List.perm_append_comm, fun x => ?_⟩
  rw [List.filter_append, List.filter_append]
  by_cases hu : ∃ u ∈ U, eqv lt x u = true
  · obtain ⟨u, hu, hxu⟩ := hu
    have : V.filter (eqv lt x) = [] := by
      rw [List.filter_eq_nil_iff]
      intro v hv hxv
      simp only [eqv, Bool.and_eq_true, Bool.not_eq_true'] at hxu hxv
      have := hO.ntrans v x u hxv.2 hxu.1
      rw [h u hu v hv] at this
      cases this
    rw [this]
    simp
  · have : U.filter (eqv lt x) = [] := by
      rw [List.filter_eq_nil_iff]
      exact fun u hu2 hxu => hu ⟨u, hu2, hxu⟩
    rw [this]
    simp
theorem asymm (hO : SWO lt) {x y : α} (h : lt x y = true) : lt y x = false := by
  cases g : lt y x with
  | false => rfl
  | true =>
    have := hO.trans x y x h g
    rw [hO.irrefl] at this
    cases this
theorem swp_comm (d : Array α) (i j : Nat) (hi : i < d.size) (hj : j < d.size) : swp d i j = swp d j i := by
  apply Array.ext (by simp [swp])
  intro k h1 h2
  have e1 := swp_get d hi hj k
  have e2 := swp_get d hj hi k
  rw [getElem!_pos (swp d i j) k h1] at e1
  rw [getElem!_pos (swp d j i) k h2] at e2
  rw [e1, e2]
  by_cases a : k = i
  · by_cases b : k = j
    · subst a; rw [b]
    · rw [if_neg b, if_pos a, if_pos a]
  · by_cases b : k = j
    · rw [if_pos b, if_neg a, if_pos b]
    · rw [if_neg b, if_neg a, if_neg a, if_neg b]
theorem get_mid (P Q : List α) (x : α) (p : Nat) (hp : p = P.length) : (P ++ x :: Q).toArray[p]! = x := by
  subst hp
  simp
theorem swp_lists (P Q S : List α) (x y : α) (p q : Nat) (hp : p = P.length) (hq : q = P.length + 1 + Q.length) :
    swp (P ++ x :: (Q ++ y :: S)).toArray p q = (P ++ y :: (Q ++ x :: S)).toArray := by
  have e1 : (P ++ x :: (Q ++ y :: S)).toArray[p]! = x := get_mid _ _ _ _ hp
  have e2 : (P ++ x :: (Q ++ y :: S)).toArray[q]! = y := by
    have := get_mid (P ++ x :: Q) S y q (by simp; omega)
    simpa using this
  unfold swp
  rw [e1, e2]
  subst hp hq
  rw [List.setIfInBounds_toArray, List.setIfInBounds_toArray]
  congr 1
  rw [List.set_append_right _ _ (Nat.le_refl _), Nat.sub_self, List.set_cons_zero, List.set_append_right _ _ (by omega)]
  rw [show P.length + 1 + Q.length - P.length = Q.length + 1 from by omega, List.set_cons_succ, List.set_append_right _ _ (Nat.le_refl _), Nat.sub_self, List.set_cons_zero]
theorem swp_lists' (P Q S : List α) (x y : α) (p q : Nat) (hp : p = P.length) (hq : q = P.length + 1 + Q.length) :
    swp (P ++ x :: (Q ++ y :: S)).toArray q p = (P ++ y :: (Q ++ x :: S)).toArray := by
  rw [swp_comm _ _ _ (by simp; omega) (by simp; omega)]
  exact swp_lists P Q S x y p q hp hq
/-- One element down into a row, past all that it is less than. -/
theorem insInner_list (hO : SWO lt) (P : List α) (x : α) : ∀ (n : Nat) (X Y : List α) (a j : Nat), X.length = n → a = P.length → j = P.length + n →
    ∃ X1 X2, X = X1 ++ X2 ∧ insInner lt a j (P ++ (X ++ x :: Y)).toArray = (P ++ (X1 ++ x :: (X2 ++ Y))).toArray ∧ (∀ z ∈ X2, lt x z = true) ∧ ∀ z, X1.getLast? = some z → lt x z = false
  | 0, X, Y, a, j, hX, ha, hj => by
    obtain rfl := List.eq_nil_of_length_eq_zero hX
    refine ⟨[], [], rfl, ?_, by simp, by simp⟩
    rw [insInner_stop lt a j _ (.inl (by omega))]
    simp
  | n + 1, X, Y, a, j, hX, ha, hj => by
    obtain ⟨X', z, rfl⟩ : ∃ X' z, X = X' ++ [z] := ⟨X.dropLast, X.getLast (by intro e; simp [e] at hX), (List.dropLast_concat_getLast _).symm⟩
    have hX' : X'.length = n := by simpa using hX
    have e0 : P ++ ((X' ++ [z]) ++ x :: Y) = (P ++ X') ++ z :: ([] ++ x :: Y) := by simp
    have g1 : (P ++ ((X' ++ [z]) ++ x :: Y)).toArray[j]! = x := by
      have := get_mid (P ++ (X' ++ [z])) Y x j (by simp; omega)
      simpa using this
    have g2 : (P ++ ((X' ++ [z]) ++ x :: Y)).toArray[j - 1]! = z := by
      have := get_mid (P ++ X') (x :: Y) z (j - 1) (by simp; omega)
      simpa using this
    cases h : lt x z with
    | false =>
      refine ⟨X' ++ [z], [], by simp, ?_, by simp, ?_⟩
      · rw [insInner_stop lt a j _ (.inr (by rw [g1, g2]; exact h))]
        simp
      · intro y hy
        simp at hy
        subst hy
        exact h
    | true =>
      rw [insInner_go lt a j _ (by omega) (by rw [g1, g2]; exact h), e0, swp_lists' (P ++ X') [] Y z x (j - 1) j (by simp; omega) (by simp; omega)]
      obtain ⟨X1, X2, h1, h2, h3, h4⟩ := insInner_list hO P x n X' (z :: Y) a (j - 1) hX' ha (by omega)
      refine ⟨X1, X2 ++ [z], by rw [h1]; simp, ?_, ?_, h4⟩
      · have e : (P ++ X') ++ x :: ([] ++ z :: Y) = P ++ (X' ++ x :: (z :: Y)) := by simp
        rw [e, h2]
        simp
      · intro y hy
        rcases List.mem_append.1 hy with hy | hy
        · exact h3 y hy
        · simp at hy
          subst hy
          exact h
theorem asc_cons {x : α} {X : List α} (h : Asc lt X) (hx : ∀ z ∈ X, lt z x = false) : Asc lt (x :: X) := List.pairwise_cons.2 ⟨hx, h⟩
theorem asc_append {X Y : List α} : Asc lt (X ++ Y) ↔ Asc lt X ∧ Asc lt Y ∧ ∀ x ∈ X, ∀ y ∈ Y, lt y x = false := List.pairwise_append
theorem insOuter_list (hO : SWO lt) (P : List α) : ∀ (n : Nat) (X1 X2 Y : List α) (a b i : Nat), X2.length = n → a = P.length → i = P.length + X1.length → b = P.length + X1.length + n → Asc lt X1 →
    ∃ R, insOuter lt a b i (P ++ (X1 ++ (X2 ++ Y))).toArray = (P ++ (R ++ Y)).toArray ∧ Asc lt R ∧ Stb lt (X1 ++ X2) R
  | 0, X1, X2, Y, a, b, i, hX, ha, hi, hb, hs => by
    obtain rfl := List.eq_nil_of_length_eq_zero hX
    rw [insOuter_stop lt a b i _ (by omega)]
    exact ⟨X1, by simp, hs, by simpa using Stb.refl _⟩
  | n + 1, X1, X2, Y, a, b, i, hX, ha, hi, hb, hs => by
    cases X2 with
    | nil => simp at hX
    | cons x X2 =>
      simp only [List.length_cons, Nat.add_right_cancel_iff] at hX
      rw [insOuter_go lt a b i _ (by omega)]
      obtain ⟨U1, U2, h1, h2, h3, h4⟩ := insInner_list hO P x X1.length X1 (X2 ++ Y) a i rfl ha hi
      have e : P ++ (X1 ++ (x :: X2 ++ Y)) = P ++ (X1 ++ x :: (X2 ++ Y)) := by simp
      rw [e, h2]
      subst h1
      obtain ⟨s1, s2, s3⟩ := asc_append.1 hs
      have low : ∀ z ∈ U1, lt x z = false := by
        intro z hz
        cases hl : U1.getLast? with
        | none => rw [List.getLast?_eq_none_iff] at hl; rw [hl] at hz; cases hz
        | some y =>
          have hy := h4 y hl
          obtain ⟨W, rfl⟩ := List.getLast?_eq_some_iff.1 hl
          rcases List.mem_append.1 hz with hz | hz
          · exact hO.ntrans x y z hy ((asc_append.1 s1).2.2 z hz y (by simp))
          · simp at hz
            subst hz
            exact hy
      have hs2 : Asc lt (U1 ++ x :: U2) := asc_append.2 ⟨s1, asc_cons s2 fun z hz => asymm hO (h3 z hz), fun z hz y hy => by
        rcases List.mem_cons.1 hy with rfl | hy
        · exact low z hz
        · exact s3 z hz y hy⟩
      obtain ⟨R, r1, r2, r3⟩ := insOuter_list hO P n (U1 ++ x :: U2) X2 Y a b (i + 1) hX ha (by simp at hi ⊢; omega) (by simp at hb ⊢; omega) hs2
      refine ⟨R, ?_, r2, Stb.trans ?_ r3⟩
      · rw [← r1]
        simp
      · have : (U1 ++ U2) ++ x :: X2 = U1 ++ ((U2 ++ [x]) ++ X2) := by simp
        rw [this]
        have : (U1 ++ x :: U2) ++ X2 = U1 ++ (([x] ++ U2) ++ X2) := by simp
        rw [this]
        exact (Stb.refl U1).append ((Stb.swap hO fun u hu v hv => by simp at hv; subst hv; exact h3 u hu).append (Stb.refl X2))
theorem ins_list (hO : SWO lt) (P X Y : List α) (a b : Nat) (ha : a = P.length) (hb : b = P.length + X.length) :
    ∃ R, insertionSort lt (P ++ (X ++ Y)).toArray a b = (P ++ (R ++ Y)).toArray ∧ Asc lt R ∧ Stb lt X R := by
  unfold insertionSort
  cases X with
  | nil => exact ⟨[], by rw [insOuter_stop lt a b _ _ (by simp at hb; omega)], List.Pairwise.nil, Stb.refl _⟩
  | cons x X =>
    obtain ⟨R, h1, h2, h3⟩ := insOuter_list hO P X.length [x] X Y a b (a + 1) rfl ha (by simp; omega) (by simp at hb ⊢; omega) (by unfold Asc; simp)
    exact ⟨R, by simpa using h1, h2, by simpa using h3⟩
/-- Two sorted rows, each cut in two: the lower parts apart from the upper ones. -/
theorem sym_join (hO : SWO lt) {U1 U2 V1 V2 R1 R2 : List α} (hU : Asc lt (U1 ++ U2)) (hV : Asc lt (V1 ++ V2)) (h1 : ∀ u ∈ U1, ∀ v ∈ V2, lt v u = false) (h2 : ∀ u ∈ U2, ∀ v ∈ V1, lt v u = true)
    (s1 : Stb lt (U1 ++ V1) R1) (s2 : Stb lt (U2 ++ V2) R2) (a1 : Asc lt R1) (a2 : Asc lt R2) : Asc lt (R1 ++ R2) ∧ Stb lt ((U1 ++ U2) ++ (V1 ++ V2)) (R1 ++ R2) := by
  constructor
  · refine asc_append.2 ⟨a1, a2, fun x hx y hy => ?_⟩
    rcases List.mem_append.1 (s1.1.mem_iff.2 hx) with hx | hx <;> rcases List.mem_append.1 (s2.1.mem_iff.2 hy) with hy | hy
    · exact (asc_append.1 hU).2.2 x hx y hy
    · exact h1 x hx y hy
    · exact asymm hO (h2 y hy x hx)
    · exact (asc_append.1 hV).2.2 x hx y hy
  · have e1 : (U1 ++ U2) ++ (V1 ++ V2) = U1 ++ ((U2 ++ V1) ++ V2) := by simp
    have e2 : U1 ++ ((V1 ++ U2) ++ V2) = (U1 ++ V1) ++ (U2 ++ V2) := by simp
    rw [e1]
    refine ((Stb.refl U1).append ((Stb.swap hO h2).append (Stb.refl V2))).trans ?_
    rw [e2]
    exact s1.append s2
/-- Where an element of a part stands, and what stands there. -/
theorem at_in {A X B : List α} {x : α} (h : x ∈ X) : ∃ c, A.length ≤ c ∧ c < A.length + X.length ∧ (A ++ (X ++ B)).toArray[c]! = x := by
  obtain ⟨i, hi, rfl⟩ := List.mem_iff_getElem.1 h
  refine ⟨A.length + i, by omega, by omega, ?_⟩
  rw [getElem!_pos _ _ (by simp; omega)]
  simp [List.getElem_append_right, List.getElem_append_left, hi]
theorem asc_at (hO : SWO lt) {A X B : List α} (h : Asc lt X) {i j : Nat} (h1 : A.length ≤ i) (h2 : i ≤ j) (h3 : j < A.length + X.length) : lt (A ++ (X ++ B)).toArray[j]! (A ++ (X ++ B)).toArray[i]! = false := by
  have g : ∀ c, A.length ≤ c → (hc : c < A.length + X.length) → (A ++ (X ++ B)).toArray[c]! = X[c - A.length] := by
    intro c hc1 hc2
    rw [getElem!_pos _ _ (by simp; omega)]
    simp only [List.getElem_toArray]
    rw [List.getElem_append_right hc1, List.getElem_append_left (by omega)]
  rw [g i h1 (by omega), g j (by omega) h3]
  by_cases e : i = j
  · subst e
    exact hO.irrefl _
  · exact List.pairwise_iff_getElem.1 h (i - A.length) (j - A.length) (by omega) (by omega) (by omega)
/-- What a search by halves knows: below i all are, from j on none is. -/
structure Bs (f : Nat → Bool) (lo hi i j : Nat) : Prop where
  h1 : lo ≤ i
  h2 : i ≤ j
  h3 : j ≤ hi
  low : ∀ c, lo ≤ c → c < i → f c = true
  high : ∀ c, j ≤ c → c < hi → f c = false
theorem Bs.start (f : Nat → Bool) {lo hi : Nat} (h : lo ≤ hi) : Bs f lo hi lo hi := ⟨Nat.le_refl _, h, Nat.le_refl _, fun c h1 h2 => by omega, fun c h1 h2 => by omega⟩
theorem Bs.up {f : Nat → Bool} {lo hi i j h : Nat} (B : Bs f lo hi i j) (mono : ∀ c e, lo ≤ c → c ≤ e → e < hi → f e = true → f c = true) (g1 : i ≤ h) (g2 : h < j) (hf : f h = true) : Bs f lo hi (h + 1) j := by
  have := B.h1; have := B.h3
  exact ⟨by omega, by omega, B.h3, fun c c1 c2 => mono c h c1 (by omega) (by omega) hf, B.high⟩
theorem Bs.down {f : Nat → Bool} {lo hi i j h : Nat} (B : Bs f lo hi i j) (mono : ∀ c e, lo ≤ c → c ≤ e → e < hi → f e = true → f c = true) (g1 : i ≤ h) (g2 : h < j) (hf : f h = false) : Bs f lo hi i h := by
  have := B.h1; have := B.h3
  refine ⟨B.h1, g1, by omega, B.low, fun c c1 c2 => ?_⟩
  cases hc : f c with
  | false => rfl
  | true =>
    have := mono h c (by omega) c1 c2 hc
    rw [hf] at this
    cases this
end
end Go.Proofs.YtoihkbanmnagkaaGreat
/-
  Of several routes of one prefix the last one counts: rows put one after the other, and sorted rows of which only the last of each prefix is kept. No condition but those that stand in each.
-/
set_option linter.unusedSimpArgs false
set_option linter.unusedVariables false
namespace Go.Proofs.YtoihkbanmnagkaaGreat
open Go.Sort M
set_option linter.unusedSimpArgs false

instance : Inhabited Ky := ⟨⟨0, 0, 0⟩⟩
def lastsR : List Rt → List Rt
  | [] => []
  | [r] => [r]
  | r :: q :: l => if q.k = r.k then lastsR (q :: l) else r :: lastsR (q :: l)
/-- The last one of a prefix. -/
def lst (l : List Rt) (k : Ky) : Option Rt := (l.filter fun r => decide (r.k = k)).getLast?
theorem lst_snoc (l : List Rt) (r : Rt) (k : Ky) : lst (l ++ [r]) k = if r.k = k then some r else lst l k := by
  unfold lst
  rw [List.filter_append]
  by_cases h : r.k = k
  · simp [h]
  · simp [h]
theorem mem_into {L : List Rt} {r q : Rt} (h : Sorted L) : q ∈ intoS L r ↔ q = r ∨ (q ∈ L ∧ q.k ≠ r.k) := by
  rw [(intoS_perm r h).mem_iff, List.mem_cons, mem_outS]
theorem sortR_snoc (l : List Rt) (r : Rt) : sortR (l ++ [r]) = intoS (sortR l) r := by
  unfold sortR
  rw [List.foldl_append]
  rfl
theorem sortR_mem (l : List Rt) : Sorted (sortR l) ∧ ∀ q, q ∈ sortR l ↔ lst l q.k = some q := by
  suffices H : ∀ (n : Nat) (l : List Rt), l.length = n → Sorted (sortR l) ∧ ∀ q, q ∈ sortR l ↔ lst l q.k = some q from H l.length l rfl
  intro n
  induction n with
  | zero =>
    intro l hl
    obtain rfl := List.eq_nil_of_length_eq_zero hl
    exact ⟨List.Pairwise.nil, fun q => by simp [sortR, lst]⟩
  | succ n ih =>
    intro l hl
    obtain ⟨l, r, rfl⟩ : ∃ l' r, l = l' ++ [r] := ⟨l.dropLast, l.getLast (by intro e; simp [e] at hl), (List.dropLast_concat_getLast _).symm⟩
    obtain ⟨h1, h2⟩ := ih l (by simpa using hl)
    rw [sortR_snoc]
    refine ⟨intoS_sorted r h1, fun q => ?_⟩
    rw [mem_into h1, lst_snoc]
    by_cases h : r.k = q.k
    · rw [if_pos h]
      constructor
      · rintro (rfl | ⟨-, h3⟩)
        · rfl
        · exact absurd h.symm h3
      · intro e
        exact .inl (Option.some.inj e).symm
    · rw [if_neg h, ← h2 q]
      constructor
      · rintro (rfl | ⟨h3, -⟩)
        · exact absurd rfl h
        · exact h3
      · intro h3
        exact .inr ⟨h3, fun e => h e.symm⟩
theorem lst_cons (r : Rt) (l : List Rt) (k : Ky) (h : r.k ≠ k) : lst (r :: l) k = lst l k := by
  unfold lst
  rw [List.filter_cons_of_neg (by simpa using h)]
theorem lst_skip (r q : Rt) (l : List Rt) (k : Ky) (h : q.k = r.k) : lst (r :: q :: l) k = lst (q :: l) k := by
  by_cases e : r.k = k
  · unfold lst
    rw [List.filter_cons_of_pos (by simpa using e), List.filter_cons_of_pos (l := l) (a := q) (by simpa using h.trans e)]
    rw [List.getLast?_cons_cons]
  · exact lst_cons r _ k e
theorem lst_none {l : List Rt} {k : Ky} (h : ∀ z ∈ l, z.k ≠ k) : lst l k = none := by
  unfold lst
  rw [List.filter_eq_nil_iff.2 (fun z hz => by simpa using h z hz)]
  rfl
theorem asc_less {r q : Rt} {l : List Rt} (h : Asc ltR (r :: q :: l)) (hk : q.k ≠ r.k) : ∀ z ∈ q :: l, lessK r.k z.k = true := by
  obtain ⟨h1, h2⟩ := List.pairwise_cons.1 h
  have hq : lessK r.k q.k = true := by
    have := lessK_total (a := q.k) (b := r.k) hk
    rw [this]
    have := h1 q (by simp)
    unfold ltR at this
    rw [this]
    rfl
  intro z hz
  rcases List.mem_cons.1 hz with rfl | hz
  · exact hq
  · have h3 := (List.pairwise_cons.1 h2).1 z hz
    cases e : lessK r.k z.k with
    | true => rfl
    | false =>
      have := ltR_swo.ntrans r z q e h3
      unfold ltR at this
      rw [hq] at this
      cases this
theorem lastsR_ok : ∀ {M : List Rt}, Asc ltR M → Sorted (lastsR M) ∧ (∀ q ∈ lastsR M, q ∈ M) ∧ ∀ q, q ∈ lastsR M ↔ lst M q.k = some q
  | [], _ => ⟨List.Pairwise.nil, by simp [lastsR], fun q => by simp [lastsR, lst]⟩
  | [r], _ => by
    refine ⟨by simp [lastsR, Sorted], by simp [lastsR], fun q => ?_⟩
    unfold lastsR
    by_cases h : r.k = q.k
    · have : lst [r] q.k = some r := by simp [lst, h]
      rw [this]
      simp
      exact eq_comm
    · rw [lst_cons r [] q.k h]
      simp [lst]
      rintro rfl
      exact h rfl
  | r :: q :: l, h => by
    obtain ⟨h1, h2⟩ := List.pairwise_cons.1 h
    obtain ⟨i1, i2, i3⟩ := lastsR_ok h2
    unfold lastsR
    by_cases hk : q.k = r.k
    · rw [if_pos hk]
      exact ⟨i1, fun z hz => List.mem_cons_of_mem _ (i2 z hz), fun z => by rw [lst_skip r q l _ hk]; exact i3 z⟩
    · rw [if_neg hk]
      have hl := asc_less h hk
      refine ⟨List.pairwise_cons.2 ⟨fun z hz => hl z (i2 z hz), i1⟩, fun z hz => ?_, fun z => ?_⟩
      · rcases List.mem_cons.1 hz with rfl | hz
        · simp
        · exact List.mem_cons_of_mem _ (i2 z hz)
      · have none : lst (q :: l) r.k = none := lst_none fun z hz e => by
          have := hl z hz
          rw [e, lessK_irr] at this
          cases this
        rw [List.mem_cons, i3 z]
        by_cases e : r.k = z.k
        · rw [← e, none]
          have : lst (r :: q :: l) r.k = some r := by
            unfold lst at none ⊢
            rw [List.filter_cons_of_pos (by simp), List.getLast?_eq_none_iff.1 none]
            rfl
          rw [this]
          constructor
          · rintro (rfl | e)
            · rfl
            · cases e
          · intro e
            exact .inl (Option.some.inj e).symm
        · rw [lst_cons r _ _ e]
          constructor
          · rintro (rfl | h)
            · exact absurd rfl e
            · exact h
          · exact .inr
theorem eqv_key (x y : Rt) : eqv ltR x y = decide (y.k = x.k) := by
  unfold eqv ltR
  by_cases h : y.k = x.k
  · rw [h, lessK_irr]
    simp
  · rw [lessK_total h]
    simp [h]
theorem lst_stb {l M : List Rt} (h : Stb ltR l M) (q : Rt) : lst M q.k = lst l q.k := by
  have := h.2 q
  have e : (eqv ltR q) = fun r => decide (r.k = q.k) := funext fun r => eqv_key q r
  rw [e] at this
  unfold lst
  rw [this]
theorem nodup_sorted {L : List Rt} (h : Sorted L) : L.Nodup := List.Pairwise.imp (fun {a b} hab e => by rw [e, lessK_irr] at hab; cases hab) h
theorem lasts_eq {l M : List Rt} (h : Asc ltR M) (hs : Stb ltR l M) : lastsR M = sortR l := by
  obtain ⟨a1, -, a3⟩ := lastsR_ok h
  obtain ⟨b1, b2⟩ := sortR_mem l
  refine sorted_eq a1 b1 ((List.perm_ext_iff_of_nodup (nodup_sorted a1) (nodup_sorted b1)).2 fun q => ?_)
  rw [a3 q, b2 q, lst_stb hs q]
/-- One step of the row that keeps the last of each prefix. -/
theorem lasts_step (M : List Rt) (i : Nat) (hi : i < M.length) : lastsR (M.drop i) = (if h : i + 1 < M.length then (if M[i + 1].k = M[i].k then [] else [M[i]]) else [M[i]]) ++ lastsR (M.drop (i + 1)) := by
  rw [List.drop_eq_getElem_cons hi]
  by_cases h : i + 1 < M.length
  · rw [dif_pos h, List.drop_eq_getElem_cons h]
    have hs : ∀ (r q : Rt) (l : List Rt), lastsR (r :: q :: l) = if q.k = r.k then lastsR (q :: l) else r :: lastsR (q :: l) := fun _ _ _ => rfl
    rw [hs]
    by_cases e : M[i + 1].k = M[i].k
    · rw [if_pos e, if_pos e, List.nil_append]
    · rw [if_neg e, if_neg e]
      rfl
  · rw [dif_neg h, List.drop_eq_nil_of_le (by omega)]
    rfl
theorem lasts_len : ∀ M : List Rt, (lastsR M).length ≤ M.length
  | [] => by simp [lastsR]
  | [r] => by simp [lastsR]
  | r :: q :: l => by
    have := lasts_len (q :: l)
    unfold lastsR
    split <;> simp at * <;> omega
end Go.Proofs.YtoihkbanmnagkaaGreat
/-
  What addr.Right, Has, Common and Less hand back, for every prefix and address. No condition but that the words are words of 64 bits.
-/
set_option linter.unusedSimpArgs false
set_option linter.unusedVariables false
namespace Go.Proofs.YtoihkbanmnagkaaGreat
open Go.RowKit Go.Sort M

/-- Two addresses are held against each other word by word. -/
theorem eql_addr (a b c d : Nat) (w : World) : (binOp .eql 36 (.agg #[.int .u64 a, .int .u64 b]) (.agg #[.int .u64 c, .int .u64 d])).run Tryz.prog w = .ok (.bool (decide (a = c) && decide (b = d))) w := by
  have e1 : decide (a = c) = decide ((a : Int) = c) := by rw [decide_eq_decide]; omega
  have e2 : decide (b = d) = decide ((b : Int) = d) := by rw [decide_eq_decide]; omega
  rw [e1, e2]
  by_cases h1 : (a : Int) = c <;> by_cases h2 : (b : Int) = d <;> simp [go_sem, h1, h2]

set_option maxHeartbeats 400000 in
theorem less_any (h1 l1 : Nat) (n1 : Int) (h2 l2 : Nat) (n2 : Int) :
    Gives Tryz.prog 70 #[.agg #[.int .u64 h1, .int .u64 l1, .int .i64 n1], .agg #[.int .u64 h2, .int .u64 l2, .int .i64 n2]] (.bool (lessB h1 l1 n1 h2 l2 n2)) := by
  intro w
  by_cases e1 : h1 = h2
  · by_cases e2 : l1 = l2
    · subst e1 e2
      go_enter Tryz.func70, Tryz.ntmps70
      go_wp2
      go_ret
      refine ⟨ret_bool ?_, by go_grown⟩
      simp [lessB]
    · subst e1
      go_enter Tryz.func70, Tryz.ntmps70
      go_wp2
      go_ret
      refine ⟨ret_bool ?_, by go_grown⟩
      simp [lessB, e2]
  · go_enter Tryz.func70, Tryz.ntmps70
    go_wp2
    go_ret
    refine ⟨ret_bool ?_, by go_grown⟩
    simp [lessB, e1]

end Go.Proofs.YtoihkbanmnagkaaGreat
/-
  What package spread's raise and Count hand back. No condition but that the words are words of 64 bits.
-/
set_option linter.unusedSimpArgs false
set_option linter.unusedVariables false
namespace Go.Proofs.YtoihkbanmnagkaaGreat
open Go.RowKit Go.Sort M

theorem wrap_mod (x : Nat) : IntKind.u64.wrap (x : Int) = ((x % 2 ^ 64 : Nat) : Int) := by
  rw [IntKind.wrap_u64]; omega
theorem wrap_shl (x : Nat) (i : Int) (j : Nat) (h : i.toNat = j) : IntKind.u64.wrap ((x : Int) * 2 ^ i.toNat) = ((x * 2 ^ j % 2 ^ 64 : Nat) : Int) := by
  have e : ((x : Int) * 2 ^ i.toNat) = ((x * 2 ^ j : Nat) : Int) := by rw [h, Int.natCast_mul, Int.natCast_pow]; rfl
  rw [e, wrap_mod]
theorem shr_nat (x : Nat) (i : Int) (j : Nat) (h : i.toNat = j) : ((x : Int) / 2 ^ i.toNat) = ((x / 2 ^ j : Nat) : Int) := by
  rw [h, Int.natCast_ediv, Int.natCast_pow]; rfl
def cntN (h l : Nat) (n m : Int) : Nat := if rightB h l n = true ∧ n ≤ m ∧ m ≤ 128 ∧ m - n ≤ 8 then 2 ^ (m - n).toNat else 0
theorem cnt_none {h l : Nat} {n m : Int} (hc : ¬ (rightB h l n = true ∧ n ≤ m ∧ m ≤ 128 ∧ m - n ≤ 8)) : cntN h l n m = 0 := if_neg hc
theorem cnt_some {h l : Nat} {n m : Int} (hc : rightB h l n = true ∧ n ≤ m ∧ m ≤ 128 ∧ m - n ≤ 8) : cntN h l n m = 2 ^ (m - n).toNat := if_pos hc
theorem cnt_le (h l : Nat) (n m : Int) : cntN h l n m ≤ 256 := by
  unfold cntN
  split
  · rename_i hc
    exact Nat.pow_le_pow_right (by decide) (by omega : (m - n).toNat ≤ 8)
  · omega
theorem shr256 (d : Nat) (h : 9 ≤ d) : ((256 : Int) / 2 ^ d) = 0 := by
  have : (256 : Nat) / 2 ^ d = 0 := Nat.div_eq_of_lt (Nat.lt_of_lt_of_le (by decide : 256 < 2 ^ 9) (Nat.pow_le_pow_right (by decide) h))
  have e : ((256 : Int) / 2 ^ d) = ((256 / 2 ^ d : Nat) : Int) := by rw [Int.natCast_ediv, Int.natCast_pow]; rfl
  rw [e, this]; rfl
theorem shr256_ne (d : Nat) (h : d ≤ 8) : ((256 : Int) / 2 ^ d == 0) = false := by
  rcases (show d = 0 ∨ d = 1 ∨ d = 2 ∨ d = 3 ∨ d = 4 ∨ d = 5 ∨ d = 6 ∨ d = 7 ∨ d = 8 by omega) with rfl | rfl | rfl | rfl | rfl | rfl | rfl | rfl | rfl <;> rfl
theorem shl_small (d : Nat) (h : d ≤ 8) : wrap64 (2 ^ d) = ((2 ^ d : Nat) : Int) := by
  rcases (show d = 0 ∨ d = 1 ∨ d = 2 ∨ d = 3 ∨ d = 4 ∨ d = 5 ∨ d = 6 ∨ d = 7 ∨ d = 8 by omega) with rfl | rfl | rfl | rfl | rfl | rfl | rfl | rfl | rfl <;> (unfold wrap64; decide +kernel)
end Go.Proofs.YtoihkbanmnagkaaGreat
/-
  What spread.Keys hands back: a new row of prefixes. No condition but that the words are words of 64 bits.
-/
set_option linter.unusedSimpArgs false
set_option linter.unusedVariables false
namespace Go.Proofs.YtoihkbanmnagkaaGreat
open Go.RowKit Go.Sort M

/-- The keys of a prefix, to m bits. -/
def keysV (h l : Nat) (n m : Int) : List Pf := if rightB h l n = true ∧ n ≤ m ∧ m ≤ 128 ∧ m - n ≤ 8 then pfs (keysN (val h l) n.toNat m.toNat) m else []
theorem keysV_none {h l : Nat} {n m : Int} (hc : ¬ (rightB h l n = true ∧ n ≤ m ∧ m ≤ 128 ∧ m - n ≤ 8)) : keysV h l n m = [] := if_neg hc
theorem keysV_some {h l : Nat} {n m : Int} (hc : rightB h l n = true ∧ n ≤ m ∧ m ≤ 128 ∧ m - n ≤ 8) : keysV h l n m = pfs (keysN (val h l) n.toNat m.toNat) m := if_pos hc
theorem keysV_len (h l : Nat) (n m : Int) (b : W64 l) : (keysV h l n m).length = cntN h l n m := by
  unfold keysV cntN
  by_cases hc : rightB h l n = true ∧ n ≤ m ∧ m ≤ 128 ∧ m - n ≤ 8
  · rw [if_pos hc, if_pos hc, pfs_len, keys_len]
    obtain ⟨h0, -⟩ := (rightB_val h l n b).1 hc.1
    congr 1
    omega
  · rw [if_neg hc, if_neg hc]; rfl
/-- What a function that hands back a new row of prefixes does. -/
def GivesRow (f : FuncId) (args : Array Value) (L : List Pf) : Prop := ∀ w, Calls Tryz.prog f args w fun e w' => ∃ p c, e = .returned (.slice p L.length c) ∧ w'.ownsRow w.heap.size 38 3 (.slice p L.length c) L.length (pcs L) ∧ Below w.heap.size w w'
theorem infoP : (Tryz.prog.info? 38).map (fun i => (i.zero, i.size, i.bytes)) = some (some (.agg #[.int .u64 0, .int .u64 0, .int .i64 0]), 3, 24) := by kernel_rfl

theorem raiseH_w (x k : Nat) (h : x < 2 ^ 64) : W64 (raiseH x k) := by
  unfold raiseH W64
  split
  · exact Nat.mod_lt _ (by decide)
  · exact Nat.lt_of_le_of_lt (Nat.div_le_self _ _) h
theorem raiseL_w (x k : Nat) : W64 (raiseL x k) := by
  unfold raiseL W64
  split
  · decide
  · exact Nat.mod_lt _ (by decide)
theorem keysV_at {h l : Nat} {n m : Int} (hc : rightB h l n = true ∧ n ≤ m ∧ m ≤ 128 ∧ m - n ≤ 8) (b : W64 l) (k : Nat) (hk : k < (keysV h l n m).length) : (keysV h l n m)[k] = ⟨val h l + k * 2 ^ (128 - m.toNat), m⟩ := by
  have e := keysV_some hc
  have : (keysV h l n m)[k]? = some ⟨val h l + k * 2 ^ (128 - m.toNat), m⟩ := by
    rw [e]
    rw [e, pfs_len, keys_len] at hk
    simp [pfs, keysN, hk]
  rw [List.getElem?_eq_getElem hk] at this
  injection this
end Go.Proofs.YtoihkbanmnagkaaGreat
/-
  Plain mathematics of what a level holds: the keys that a route makes there, the hop of a key, the set of a level; that a sorted row is known by its members; what an address finds. No condition but those that stand in each.
-/
set_option linter.unusedSimpArgs false
set_option linter.unusedVariables false
namespace Go.Proofs.YtoihkbanmnagkaaGreat
open M

def kyP (p : Pf) : Ky := ⟨hiW p.a, loW p.a, p.n⟩
/-- The keys of a prefix at length m. -/
def sprK (k : Ky) (m : Int) : List Ky := (keysV k.h k.l k.n m).map kyP
theorem mem_keysN (a m n x : Nat) : x ∈ keysN a m n ↔ ∃ i, i < 2 ^ (n - m) ∧ x = a + i * 2 ^ (128 - n) := by
  unfold keysN
  rw [List.mem_map]
  constructor
  · rintro ⟨i, hi, rfl⟩
    exact ⟨i, by simpa using hi, rfl⟩
  · rintro ⟨i, hi, rfl⟩
    exact ⟨i, by simpa using hi, rfl⟩
theorem has_right (h l : Nat) (n : Int) (a b : Nat) (hh : hasB h l n a b = true) : rightB h l n = true := ((hasB_iff _ _ _ _ _).1 hh).1
/-- WHICH KEYS A PREFIX MAKES. -/
theorem mem_spr {k : Ky} (g1 : W64 k.h) (g2 : W64 k.l) (q : Ky) (m : Int) :
    q ∈ sprK k m ↔ k.n ≤ m ∧ m ≤ 128 ∧ m - k.n ≤ 8 ∧ q.n = m ∧ W64 q.h ∧ W64 q.l ∧ rightB q.h q.l m = true ∧ hasB k.h k.l k.n q.h q.l = true := by
  obtain ⟨kh, kl, kn⟩ := k
  unfold sprK
  simp only at *
  by_cases hc : rightB kh kl kn = true ∧ kn ≤ m ∧ m ≤ 128 ∧ m - kn ≤ 8
  · rw [keysV_some hc]
    obtain ⟨c1, c2, c3, c4⟩ := hc
    obtain ⟨r0, r1, r2⟩ := (rightB_val _ _ _ g2).1 c1
    obtain ⟨n, rfl⟩ := Int.eq_ofNat_of_zero_le r0
    obtain ⟨M, rfl⟩ := Int.eq_ofNat_of_zero_le (show 0 ≤ m by omega)
    simp only [Int.toNat_natCast] at r2 ⊢
    have hnM : n ≤ M := by omega
    have hM2 : M ≤ 128 := by omega
    have hV := g1.val g2
    unfold pfs
    rw [List.map_map, List.mem_map]
    constructor
    · rintro ⟨x, hx, rfl⟩
      have hxw := keys_w _ n M hnM hM2 hV r2 x hx
      obtain ⟨i, hi, rfl⟩ := (mem_keysN _ _ _ _).1 hx
      refine ⟨by omega, by omega, by omega, rfl, hxw.1.hi, W128.lo, ?_, ?_⟩
      · show rightB (hiW _) (loW _) _ = true
        rw [rightB_val _ _ _ W128.lo, val_hl]
        exact ⟨by omega, by omega, by simpa using hxw.2⟩
      · show hasB kh kl _ (hiW _) (loW _) = true
        rw [hasB_val _ _ _ _ _ g2 W128.lo, val_hl]
        exact ⟨c1, by simpa using key_in _ n M i hnM hM2 r2 hi⟩
    · rintro ⟨-, -, -, q1, q2, q3, q4, q5⟩
      obtain ⟨-, -, d1⟩ := (rightB_val _ _ _ q3).1 q4
      have d2 := ((hasB_val _ _ _ _ _ g2 q3).1 q5).2
      simp only [Int.toNat_natCast] at d1 d2
      obtain ⟨X, hX⟩ : ∃ X, X = val q.h q.l := ⟨_, rfl⟩
      rw [← hX] at d1 d2
      refine ⟨X, (mem_keysN _ _ _ _).2 ?_, ?_⟩
      · obtain ⟨y, hy⟩ := d1
        obtain ⟨v, hv⟩ := r2
        have e1 : 2 ^ (128 - n) = 2 ^ (128 - M) * 2 ^ (M - n) := by rw [← Nat.pow_add]; congr 1; omega
        have p1 : 0 < 2 ^ (128 - n) := Nat.two_pow_pos _
        have p2 : 0 < 2 ^ (128 - M) := Nat.two_pow_pos _
        have p3 : 0 < 2 ^ (M - n) := Nat.two_pow_pos _
        have d3 : val kh kl / 2 ^ (128 - n) = v := by rw [hv, Nat.mul_div_cancel_left _ p1]
        rw [d3, hy, e1, Nat.mul_div_mul_left _ _ p2] at d2
        refine ⟨y % 2 ^ (M - n), Nat.mod_lt _ p3, ?_⟩
        have h5 := Nat.div_add_mod y (2 ^ (M - n))
        rw [d2] at h5
        rw [hv, e1, hy, Nat.mul_assoc, Nat.mul_comm (y % _), ← Nat.mul_add, h5]
      · show (⟨hiW X, loW X, (M : Int)⟩ : Ky) = q
        obtain ⟨a, b, c⟩ := q
        simp only at *
        rw [hX, hi_val _ _ q3, lo_val _ _ q3, q1]
  · rw [keysV_none hc]
    refine ⟨fun h => (by cases h), fun h => absurd ⟨has_right _ _ _ _ _ h.2.2.2.2.2.2.2, h.1, h.2.1, h.2.2.1⟩ hc⟩
/-- The hop of a key. -/
def hopK (N : List Rt) (low : Int) (k : Ky) : Option Int := (lngI N (candB k.h k.l low k.n) N.length).map fun i => (N.getD i ⟨⟨0, 0, 0⟩, 0⟩).v
def hopV (N : List Rt) (low : Int) (k : Ky) : Int := (hopK N low k).getD 0
def insB (low high : Int) (r : Rt) : Bool := decide (low < r.k.n) && decide (r.k.n ≤ high)
/-- The keys of a level, in whichever order, some of them twice. -/
def keysS (N : List Rt) (low high : Int) : List Ky := (N.filter (insB low high)).flatMap fun r => sprK r.k high
/-- WHAT A LEVEL HOLDS. -/
def setS (N : List Rt) (low high : Int) : List Rt := if low < high then sortR ((keysS N low high).map fun k => ⟨k, hopV N low k⟩) else []
theorem sorted_ext {L M : List Rt} (hL : Sorted L) (hM : Sorted M) (h : ∀ q, q ∈ L ↔ q ∈ M) : L = M :=
  sorted_eq hL hM ((List.perm_ext_iff_of_nodup (nodup_sorted hL) (nodup_sorted hM)).2 h)
theorem filter_fun (f : Ky → Int) (k : Ky) : ∀ K : List Ky, ((K.map fun k => (⟨k, f k⟩ : Rt)).filter fun r => decide (r.k = k)).getLast? = if k ∈ K then some ⟨k, f k⟩ else none
  | [] => rfl
  | a :: K => by
    have ih := filter_fun f k K
    rw [List.map_cons, List.filter_cons]
    by_cases h : a = k
    · subst h
      simp only [decide_true, if_true]
      rw [List.getLast?_cons, ih]
      by_cases h2 : a ∈ K
      · rw [if_pos h2, if_pos (List.mem_cons_self)]
        rfl
      · rw [if_neg h2, if_pos (List.mem_cons_self)]
        rfl
    · rw [if_neg (by simpa using h), ih]
      by_cases h2 : k ∈ K
      · rw [if_pos h2, if_pos (List.mem_cons_of_mem _ h2)]
      · rw [if_neg h2, if_neg (fun e => by rcases List.mem_cons.1 e with e | e; exact h e.symm; exact h2 e)]
theorem sortR_fun (K : List Ky) (f : Ky → Int) : Sorted (sortR (K.map fun k => ⟨k, f k⟩)) ∧ ∀ q, q ∈ sortR (K.map fun k => (⟨k, f k⟩ : Rt)) ↔ q.k ∈ K ∧ q.v = f q.k := by
  obtain ⟨h1, h2⟩ := sortR_mem (K.map fun k => (⟨k, f k⟩ : Rt))
  refine ⟨h1, fun q => ?_⟩
  rw [h2]
  unfold lst
  rw [filter_fun]
  obtain ⟨k, v⟩ := q
  by_cases h : k ∈ K
  · rw [if_pos h]
    simp only [h, true_and]
    constructor
    · intro e
      injection e with e
      injection e with _ e
      exact e.symm
    · rintro rfl; rfl
  · rw [if_neg h]
    simp [h]
theorem set_sorted (N : List Rt) (low high : Int) : Sorted (setS N low high) := by
  unfold setS
  split
  · exact (sortR_fun _ _).1
  · exact List.Pairwise.nil
theorem mem_setS (N : List Rt) (low high : Int) (q : Rt) : q ∈ setS N low high ↔ low < high ∧ q.k ∈ keysS N low high ∧ q.v = hopV N low q.k := by
  unfold setS
  by_cases h : low < high
  · rw [if_pos h, (sortR_fun _ _).2]
    simp [h]
  · rw [if_neg h]
    simp [h]
/-- A row that is sorted and has just these members is the level's. -/
theorem set_one {M N : List Rt} {low high : Int} (hM : Sorted M) (h : ∀ q, q ∈ M ↔ low < high ∧ q.k ∈ keysS N low high ∧ q.v = hopV N low q.k) : M = setS N low high :=
  sorted_ext hM (set_sorted N low high) fun q => by rw [h, mem_setS]
theorem mem_outK18 {L : List Rt} {k : Ky} {q : Rt} : q ∈ outS L k ↔ q ∈ L ∧ q.k ≠ k := by unfold outS; rw [List.mem_filter]; simp
theorem one_key18 {L : List Rt} (hn : (keysR L).Nodup) {a b : Rt} (ha : a ∈ L) (hb : b ∈ L) (h : a.k = b.k) : a = b := by
  have := (split_key hn hb).mem_iff.1 ha
  rcases List.mem_cons.1 this with e | e
  · exact e
  · exact absurd h (mem_outK18.1 e).2
/-- Sorted again it is as it was. -/
theorem sortR_sorted {L : List Rt} (h : Sorted L) : sortR L = L := by
  obtain ⟨h1, h2⟩ := sortR_mem L
  refine sorted_ext h1 h fun q => ?_
  rw [h2]
  have hn := h.nodup
  constructor
  · intro e
    unfold lst at e
    exact (List.mem_filter.1 (List.mem_of_getLast? e)).1
  · intro hq
    unfold lst
    have hall : ∀ x ∈ L.filter (fun r => decide (r.k = q.k)), x = q := fun x hx => by
      obtain ⟨h3, h4⟩ := List.mem_filter.1 hx
      have h4 : x.k = q.k := of_decide_eq_true h4
      exact one_key18 hn h3 hq h4
    cases hl : (L.filter fun r => decide (r.k = q.k)).getLast? with
    | none =>
      have := List.getLast?_eq_none_iff.1 hl
      have hm : q ∈ L.filter (fun r => decide (r.k = q.k)) := List.mem_filter.2 ⟨hq, by simp⟩
      rw [this] at hm
      cases hm
    | some x => rw [hall x (List.mem_of_getLast? hl)]
end Go.Proofs.YtoihkbanmnagkaaGreat

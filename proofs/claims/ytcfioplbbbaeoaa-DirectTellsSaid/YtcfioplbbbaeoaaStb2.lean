/-
  Merging by halves, plainly: what its three searches tell, and rows that are sorted block by block. No condition but those that stand in each.
-/
import Derived.Test.YtcfioplbbbaeoaaStb
set_option linter.unusedSimpArgs false
set_option linter.unusedVariables false
namespace Go.Proofs.Ytcfioplbbbaeoaa
open Go.Sort
set_option linter.unusedSectionVars false
set_option linter.unusedSimpArgs false

section
variable {α : Type} [Inhabited α] {lt : α → α → Bool}
/-- One element ahead of a sorted row. -/
def f1 (lt : α → α → Bool) (L : List α) (a c : Nat) : Bool := lt L.toArray[c]! L.toArray[a]!
theorem f1_mono (hO : SWO lt) {A U V B L : List α} (e : L = A ++ (U ++ (V ++ B))) (hV : Asc lt V) (a m b : Nat) (hm : m = A.length + U.length) (hb : b = m + V.length) : ∀ c e, m ≤ c → c ≤ e → e < b → f1 lt L a e = true → f1 lt L a c = true := by
  intro c e1 h1 h2 h3 hf
  unfold f1 at hf ⊢
  have e' : L = (A ++ U) ++ (V ++ B) := by rw [e]; simp
  have := asc_at (A := A ++ U) (B := B) hO hV (i := c) (j := e1) (by simp; omega) h2 (by simp; omega)
  rw [← e'] at this
  cases h : lt L.toArray[c]! L.toArray[a]! with
  | true => rfl
  | false =>
    have := hO.ntrans _ _ _ this h
    rw [hf] at this
    cases this
theorem take_at {A X B : List α} {k : Nat} {x : α} (h : x ∈ X.take k) : ∃ c, A.length ≤ c ∧ c < A.length + k ∧ c < A.length + X.length ∧ (A ++ (X ++ B)).toArray[c]! = x := by
  obtain ⟨c, h1, h2, h3⟩ := at_in (A := A) (B := X.drop k ++ B) h
  rw [List.length_take] at h2
  refine ⟨c, h1, by omega, by omega, ?_⟩
  rw [← h3]
  congr 2
  rw [← List.append_assoc (X.take k), List.take_append_drop]
theorem stb_drop_at {A X B : List α} {k : Nat} {x : α} (h : x ∈ X.drop k) : ∃ c, A.length + k ≤ c ∧ c < A.length + X.length ∧ (A ++ (X ++ B)).toArray[c]! = x := by
  have hk : k ≤ X.length := by
    refine Nat.le_of_not_lt fun hk => ?_
    rw [List.drop_eq_nil_of_le (by omega)] at h
    cases h
  obtain ⟨c, h1, h2, h3⟩ := at_in (A := A ++ X.take k) (B := B) h
  simp only [List.length_append, List.length_take, List.length_drop] at h1 h2
  refine ⟨c, by omega, by omega, ?_⟩
  rw [← h3]
  congr 2
  rw [List.append_assoc, ← List.append_assoc (X.take k), List.take_append_drop]
theorem one_down (hO : SWO lt) {A V B L : List α} {u : α} (e : L = A ++ ([u] ++ (V ++ B))) (a m b i : Nat) (ha : a = A.length) (hm : m = A.length + 1) (hb : b = m + V.length) (S : Bs (f1 lt L a) m b i i) :
    (∀ v ∈ V.take (i - m), lt v u = true) ∧ ∀ v ∈ V.drop (i - m), lt v u = false := by
  have hu : L.toArray[a]! = u := by rw [e]; exact get_mid A _ u a ha
  have e' : L = (A ++ [u]) ++ (V ++ B) := by rw [e]; simp
  have := S.h1
  constructor <;> intro v hv
  · obtain ⟨c, h1, h2, -, h3⟩ := take_at (A := A ++ [u]) (B := B) hv
    rw [← e'] at h3
    simp only [List.length_append, List.length_singleton] at h1 h2
    have := S.low c (by omega) (by omega)
    unfold f1 at this
    rwa [h3, hu] at this
  · obtain ⟨c, h1, h2, h3⟩ := stb_drop_at (A := A ++ [u]) (B := B) hv
    rw [← e'] at h3
    simp only [List.length_append, List.length_singleton] at h1 h2
    have := S.high c (by omega) (by omega)
    unfold f1 at this
    rwa [h3, hu] at this
/-- One element behind a sorted row. -/
def f2 (lt : α → α → Bool) (L : List α) (m c : Nat) : Bool := !lt L.toArray[m]! L.toArray[c]!
theorem f2_mono (hO : SWO lt) {A U B L : List α} (e : L = A ++ (U ++ B)) (hU : Asc lt U) (a m : Nat) (ha : a = A.length) (hm : m = A.length + U.length) : ∀ c e, a ≤ c → c ≤ e → e < m → f2 lt L m e = true → f2 lt L m c = true := by
  intro c e1 h1 h2 h3 hf
  unfold f2 at hf ⊢
  rw [Bool.not_eq_true'] at hf ⊢
  have := asc_at (A := A) (B := B) hO hU (i := c) (j := e1) (by omega) h2 (by omega)
  rw [← e] at this
  exact hO.ntrans _ _ _ hf this
theorem one_up {A U B L : List α} {v : α} (e : L = A ++ (U ++ ([v] ++ B))) (a m i : Nat) (ha : a = A.length) (hm : m = A.length + U.length) (S : Bs (f2 lt L m) a m i i) :
    (∀ u ∈ U.take (i - a), lt v u = false) ∧ ∀ u ∈ U.drop (i - a), lt v u = true := by
  have hv : L.toArray[m]! = v := by
    have := get_mid (A ++ U) B v m (by simp; omega)
    rw [e]; simpa using this
  have := S.h1
  constructor <;> intro u hu
  · obtain ⟨c, h1, h2, -, h3⟩ := take_at (A := A) (B := [v] ++ B) hu
    rw [← e] at h3
    have := S.low c (by omega) (by omega)
    unfold f2 at this
    rw [h3, hv, Bool.not_eq_true'] at this
    exact this
  · obtain ⟨c, h1, h2, h3⟩ := stb_drop_at (A := A) (B := [v] ++ B) hu
    rw [← e] at h3
    have := S.high c (by omega) (by omega)
    unfold f2 at this
    rw [h3, hv, Bool.not_eq_false'] at this
    exact this
/-- Two sorted rows of any lengths: c of the first against p - c of the second. -/
def f3 (lt : α → α → Bool) (L : List α) (p c : Nat) : Bool := !lt L.toArray[p - c]! L.toArray[c]!
/-- Where the search begins, and where it ends. -/
structure Sy (a m b mid lo r0 : Nat) : Prop where
  am : a < m
  mb : m < b
  half : mid = (a + b) / 2
  way : (mid < m ∧ lo = mid + m - b ∧ r0 = mid) ∨ (m ≤ mid ∧ lo = a ∧ r0 = m)
theorem Sy.le {a m b mid lo r0 : Nat} (Y : Sy a m b mid lo r0) : a ≤ lo ∧ lo ≤ r0 ∧ r0 ≤ m ∧ r0 ≤ mid := by
  have := Y.am; have := Y.mb; have := Y.half; have := Y.way
  omega
theorem Sy.in1 {a m b mid lo r0 c : Nat} (Y : Sy a m b mid lo r0) (h1 : lo ≤ c) (h2 : c < r0) : a ≤ c ∧ c < m ∧ m ≤ mid + m - 1 - c ∧ mid + m - 1 - c < b := by
  have := Y.am; have := Y.mb; have := Y.half; have := Y.way
  omega
theorem f3_mono (hO : SWO lt) {A U V B L : List α} (e : L = A ++ (U ++ (V ++ B))) (hU : Asc lt U) (hV : Asc lt V) {a m b mid lo r0 : Nat} (Y : Sy a m b mid lo r0) (ha : a = A.length) (hm : m = A.length + U.length) (hb : b = m + V.length) :
    ∀ c e, lo ≤ c → c ≤ e → e < r0 → f3 lt L (mid + m - 1) e = true → f3 lt L (mid + m - 1) c = true := by
  intro c e1 h1 h2 h3 hf
  unfold f3 at hf ⊢
  rw [Bool.not_eq_true'] at hf ⊢
  have i1 := Y.in1 h1 (by omega)
  have i2 := Y.in1 (c := e1) (by omega) h3
  have u := asc_at (A := A) (B := V ++ B) hO hU (i := c) (j := e1) (by omega) h2 (by omega)
  have v := asc_at (A := A ++ U) (B := B) hO hV (i := mid + m - 1 - e1) (j := mid + m - 1 - c) (by simp; omega) (by omega) (by simp; omega)
  rw [← e] at u
  have e' : L = (A ++ U) ++ (V ++ B) := by rw [e]; simp
  rw [← e'] at v
  exact hO.ntrans _ _ _ (hO.ntrans _ _ _ v hf) u
theorem sym_facts (hO : SWO lt) {A U V B L : List α} (e : L = A ++ (U ++ (V ++ B))) (hU : Asc lt U) (hV : Asc lt V) {a m b mid lo r0 s : Nat} (Y : Sy a m b mid lo r0) (ha : a = A.length) (hm : m = A.length + U.length) (hb : b = m + V.length) (S : Bs (f3 lt L (mid + m - 1)) lo r0 s s) :
    (a ≤ s ∧ s ≤ m ∧ s ≤ mid ∧ m ≤ mid + m - s ∧ mid + m - s ≤ b) ∧ (∀ u ∈ U.take (s - a), ∀ v ∈ V.drop (mid + m - s - m), lt v u = false) ∧ ∀ u ∈ U.drop (s - a), ∀ v ∈ V.take (mid + m - s - m), lt v u = true := by
  have b1 := S.h1; have b2 := S.h3
  have y0 := Y.am; have y1 := Y.mb; have y2 := Y.half; have y3 := Y.way
  have e' : L = (A ++ U) ++ (V ++ B) := by rw [e]; simp
  refine ⟨by omega, fun u hu v hv => ?_, fun u hu v hv => ?_⟩
  · obtain ⟨c, h1, h2, -, h3⟩ := take_at (A := A) (B := V ++ B) hu
    obtain ⟨d, g1, g2, g3⟩ := stb_drop_at (A := A ++ U) (B := B) hv
    rw [← e] at h3
    rw [← e'] at g3
    simp only [List.length_append] at g1 g2
    have q1 : lo ≤ s - 1 := by omega
    have hs := S.low (s - 1) q1 (by omega)
    have i1 := Y.in1 q1 (by omega)
    unfold f3 at hs
    rw [Bool.not_eq_true'] at hs
    have x := asc_at (A := A) (B := V ++ B) hO hU (i := c) (j := s - 1) (by omega) (by omega) (by omega)
    have y := asc_at (A := A ++ U) (B := B) hO hV (i := mid + m - 1 - (s - 1)) (j := d) (by simp; omega) (by omega) (by simp; omega)
    rw [← e] at x
    rw [← e'] at y
    rw [h3] at x
    rw [g3] at y
    exact hO.ntrans _ _ _ (hO.ntrans _ _ _ y hs) x
  · obtain ⟨c, h1, h2, h3⟩ := stb_drop_at (A := A) (B := V ++ B) hu
    obtain ⟨d, g1, g2, -, g3⟩ := take_at (A := A ++ U) (B := B) hv
    rw [← e] at h3
    rw [← e'] at g3
    simp only [List.length_append] at g1 g2
    have q1 : s < r0 := by omega
    have hs := S.high s (by omega) q1
    have i1 := Y.in1 b1 q1
    unfold f3 at hs
    rw [Bool.not_eq_false'] at hs
    have x := asc_at (A := A) (B := V ++ B) hO hU (i := s) (j := c) (by omega) (by omega) (by omega)
    have y := asc_at (A := A ++ U) (B := B) hO hV (i := d) (j := mid + m - 1 - s) (by simp; omega) (by omega) (by simp; omega)
    rw [← e] at x
    rw [← e'] at y
    rw [h3] at x
    rw [g3] at y
    cases h : lt v u with
    | true => rfl
    | false =>
      have := hO.ntrans _ _ _ (hO.ntrans _ _ _ y h) x
      rw [hs] at this
      cases this
/-- Sorted block by block, b in each, the last one shorter. -/
inductive Bl (lt : α → α → Bool) (b : Nat) : List α → Prop
  | last {X : List α} : X.length ≤ b → Asc lt X → Bl lt b X
  | more {X R : List α} : X.length = b → Asc lt X → Bl lt b R → Bl lt b (X ++ R)
theorem Bl.asc {b : Nat} {X : List α} (h : Bl lt b X) (hl : X.length ≤ b) : Asc lt X := by
  induction h with
  | last _ h => exact h
  | @more X R h1 h2 h3 ih =>
    have : R = [] := List.eq_nil_of_length_eq_zero (by simp at hl; omega)
    subst this
    simpa using h2
theorem Bl.one {b : Nat} {X : List α} (h : Bl lt b X) (hl : b ≤ X.length) : ∃ Y R, X = Y ++ R ∧ Y.length = b ∧ Asc lt Y ∧ Bl lt b R := by
  cases h with
  | last h1 h2 => exact ⟨X, [], by simp, by omega, h2, .last (by simp) List.Pairwise.nil⟩
  | @more Y R h1 h2 h3 => exact ⟨Y, R, rfl, h1, h2, h3⟩
/-- What may be laid ahead of rows that are sorted block by block. -/
def Pre (lt : α → α → Bool) (b : Nat) (P : List α) : Prop := ∀ R, Bl lt b R → Bl lt b (P ++ R)
theorem Pre.nil (b : Nat) : Pre lt b [] := fun R h => by simpa using h
theorem Pre.next {b : Nat} {P X : List α} (h : Pre lt b P) (hl : X.length = b) (hs : Asc lt X) : Pre lt b (P ++ X) := fun R hR => by
  have := h _ (Bl.more hl hs hR)
  simpa using this
/-- A swap of two ranges that stand apart, one pair after the other. -/
theorem range_step {P X Q Y S : List α} {x y : α} (p q : Nat) (hp : p = P.length) (hq : q = P.length + 1 + X.length + Q.length) :
    swp (P ++ (x :: X ++ (Q ++ (y :: Y ++ S)))).toArray p q = ((P ++ [y]) ++ (X ++ ((Q ++ [x]) ++ (Y ++ S)))).toArray := by
  have e : P ++ (x :: X ++ (Q ++ (y :: Y ++ S))) = P ++ x :: ((X ++ Q) ++ y :: (Y ++ S)) := by simp
  rw [e, swp_lists P (X ++ Q) (Y ++ S) x y p q hp (by simp; omega)]
  simp
theorem pair_step {P S : List α} {x y : α} (p q : Nat) (hp : p = P.length) (hq : q = P.length + 1) : swp (P ++ (x :: y :: S)).toArray p q = (P ++ (y :: x :: S)).toArray := by
  have := swp_lists P [] S x y p q hp (by simp; omega)
  simpa using this
theorem pair_step' {P S : List α} {x y : α} (p q : Nat) (hp : p = P.length) (hq : q = P.length + 1) : swp (P ++ (x :: y :: S)).toArray q p = (P ++ (y :: x :: S)).toArray := by
  have := swp_lists' P [] S x y p q hp (by simp; omega)
  simpa using this
end
end Go.Proofs.Ytcfioplbbbaeoaa

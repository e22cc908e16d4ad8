/-
  Plain mathematics of longest matches: the longest of a row of routes that has an address, within a range of lengths; the keys of an address, by length. No condition but those that stand in each.
-/
import Derived.Test.YtcfioplbbbaeoaaM12b
set_option linter.unusedSimpArgs false
set_option linter.unusedVariables false
namespace Go.Proofs.Ytcfioplbbbaeoaa
open M

/-- The key of an address with so many bits. -/
def cutK (ah al m : Nat) : Ky := ⟨cutW ah m, cutW al (m - 64), (m : Int)⟩
theorem cutW_cut (w n : Nat) : cutW (cutW w n) n = cutW w n := by
  unfold cutW
  rw [Nat.mul_div_cancel _ (Nat.two_pow_pos _)]
theorem has_cutK (k : Ky) (ah al : Nat) : hasB k.h k.l k.n ah al = true ↔ ∃ m : Nat, m ≤ 128 ∧ k = cutK ah al m := by
  unfold hasB rightB
  simp only [Bool.and_eq_true, decide_eq_true_eq]
  constructor
  · rintro ⟨⟨h1, h2, -, -⟩, h3, h4⟩
    refine ⟨k.n.toNat, by omega, ?_⟩
    obtain ⟨h, l, n⟩ := k
    simp only at h1 h2 h3 h4
    unfold cutK
    simp only
    rw [h3, h4, Int.toNat_of_nonneg h1]
  · rintro ⟨m, hm, rfl⟩
    unfold cutK
    simp only [Int.toNat_natCast]
    exact ⟨⟨by omega, by omega, cutW_cut _ _, cutW_cut _ _⟩, trivial, trivial⟩
theorem cutK_n {ah al m m' : Nat} (h : cutK ah al m = cutK ah al m') : m = m' := by
  unfold cutK at h
  injection h with _ _ h
  exact Int.ofNat.inj h
/-- The longest of the first so many that c allows: where it stands; of two as long the first. -/
def lngI (L : List Rt) (c : Rt → Bool) : Nat → Option Nat
  | 0 => none
  | j + 1 =>
    match lngI L c j with
    | none => if c (L.getD j ⟨⟨0, 0, 0⟩, 0⟩) = true then some j else none
    | some b => if c (L.getD j ⟨⟨0, 0, 0⟩, 0⟩) = true ∧ (L.getD b ⟨⟨0, 0, 0⟩, 0⟩).k.n < (L.getD j ⟨⟨0, 0, 0⟩, 0⟩).k.n then some j else some b
theorem getD_at {L : List Rt} {i : Nat} (h : i < L.length) : L.getD i ⟨⟨0, 0, 0⟩, 0⟩ = L[i] := by
  rw [List.getD_eq_getElem?_getD, List.getElem?_eq_getElem h]
  rfl
/-- What that is. -/
def LngOk (L : List Rt) (c : Rt → Bool) (j : Nat) : Option Nat → Prop
  | none => ∀ i (h : i < L.length), i < j → c L[i] = false
  | some b => ∃ hb : b < L.length, b < j ∧ c L[b] = true ∧ ∀ i (h : i < L.length), i < j → c L[i] = true → L[i].k.n ≤ L[b].k.n
theorem lng_ok (L : List Rt) (c : Rt → Bool) : ∀ j, j ≤ L.length → LngOk L c j (lngI L c j)
  | 0, _ => fun i _ h => absurd h (by omega)
  | j + 1, hj => by
    have ih := lng_ok L c j (by omega)
    have hjl : j < L.length := by omega
    unfold lngI
    rw [getD_at hjl]
    cases e : lngI L c j with
    | none =>
      rw [e] at ih
      have ih : ∀ i (h : i < L.length), i < j → c L[i] = false := ih
      by_cases hc : c L[j] = true
      · simp only [hc, if_true]
        refine ⟨hjl, by omega, hc, fun i hi hlt hci => ?_⟩
        by_cases hij : i = j
        · subst hij; exact Int.le_refl _
        · rw [ih i hi (by omega)] at hci; cases hci
      · simp only [hc]
        intro i hi hlt
        by_cases hij : i = j
        · subst hij; simpa using hc
        · exact ih i hi (by omega)
    | some b =>
      rw [e] at ih
      obtain ⟨hb, hbj, hcb, hmax⟩ := ih
      simp only [getD_at hb]
      by_cases hc : c L[j] = true ∧ L[b].k.n < L[j].k.n
      · rw [if_pos hc]
        refine ⟨hjl, by omega, hc.1, fun i hi hlt hci => ?_⟩
        by_cases hij : i = j
        · subst hij; exact Int.le_refl _
        · have := hmax i hi (by omega) hci; omega
      · rw [if_neg hc]
        refine ⟨hb, by omega, hcb, fun i hi hlt hci => ?_⟩
        by_cases hij : i = j
        · subst hij
          by_cases h2 : L[b].k.n < L[i].k.n
          · exact absurd ⟨hci, h2⟩ hc
          · omega
        · exact hmax i hi (by omega) hci
/-- Which routes Longest looks at. -/
def candB (ah al : Nat) (low high : Int) (r : Rt) : Bool := decide (low < r.k.n) && (decide (r.k.n ≤ high) && hasB r.k.h r.k.l r.k.n ah al)
/-- What a row has of an address, by length. -/
def depV (N : List Rt) (ah al m : Nat) : Option Int := (N.find? fun r => decide (r.k = cutK ah al m)).map Rt.v
/-- The greatest length below f, within a range, at which there is something. -/
def bestM (D : Nat → Option Int) (low high : Int) : Nat → Option Nat
  | 0 => none
  | f + 1 => if low < (f : Int) ∧ (f : Int) ≤ high ∧ (D f).isSome = true then some f else bestM D low high f
theorem best_none {D : Nat → Option Int} {low high : Int} : ∀ {f : Nat}, bestM D low high f = none ↔ ∀ m, m < f → ¬ (low < (m : Int) ∧ (m : Int) ≤ high ∧ (D m).isSome = true)
  | 0 => ⟨fun _ m h => absurd h (by omega), fun _ => rfl⟩
  | f + 1 => by
    unfold bestM
    split
    · rename_i h
      exact ⟨fun e => by (cases e), fun g => absurd h (g f (by omega))⟩
    · rename_i h
      rw [best_none (f := f)]
      refine ⟨fun g m hm => ?_, fun g m hm => g m (by omega)⟩
      by_cases e : m = f
      · subst e; exact h
      · exact g m (by omega)
theorem best_some {D : Nat → Option Int} {low high : Int} {b : Nat} : ∀ {f : Nat}, bestM D low high f = some b ↔ b < f ∧ (low < (b : Int) ∧ (b : Int) ≤ high ∧ (D b).isSome = true) ∧ ∀ m, b < m → m < f → ¬ (low < (m : Int) ∧ (m : Int) ≤ high ∧ (D m).isSome = true)
  | 0 => ⟨fun e => by (cases e), fun h => absurd h.1 (by omega)⟩
  | f + 1 => by
    unfold bestM
    split
    · rename_i h
      constructor
      · intro e
        injection e with e
        subst e
        exact ⟨by omega, h, fun m h1 h2 => absurd h2 (by omega)⟩
      · rintro ⟨h1, h2, h3⟩
        by_cases e : b = f
        · rw [e]
        · exact absurd h (h3 f (by omega) (by omega))
    · rename_i h
      rw [best_some (f := f)]
      constructor
      · rintro ⟨h1, h2, h3⟩
        refine ⟨by omega, h2, fun m hb hm => ?_⟩
        by_cases e : m = f
        · subst e; exact h
        · exact h3 m hb (by omega)
      · rintro ⟨h1, h2, h3⟩
        have hbf : b ≠ f := fun e => h (e ▸ h2)
        exact ⟨by omega, h2, fun m hb hm => h3 m hb (by omega)⟩
theorem dep_some {N : List Rt} {ah al m : Nat} : (depV N ah al m).isSome = true ↔ ∃ r ∈ N, r.k = cutK ah al m := by
  unfold depV
  rw [Option.isSome_map, List.find?_isSome]
  simp
theorem dep_of {N : List Rt} (hn : (keysR N).Nodup) {ah al m : Nat} {r : Rt} (hr : r ∈ N) (hk : r.k = cutK ah al m) : depV N ah al m = some r.v := by
  unfold depV
  cases e : N.find? (fun r => decide (r.k = cutK ah al m)) with
  | none =>
    rw [List.find?_eq_none] at e
    exact absurd (decide_eq_true hk) (e r hr)
  | some q =>
    have hq := List.mem_of_find?_eq_some e
    have hqk : q.k = cutK ah al m := by simpa using List.find?_some e
    obtain ⟨i, hi, rfl⟩ := List.getElem_of_mem hr
    obtain ⟨j, hj, rfl⟩ := List.getElem_of_mem hq
    have : i = j := by
      unfold keysR at hn
      exact (List.getElem_inj (xs := N.map Rt.k) (h₀ := by simpa using hi) (h₁ := by simpa using hj) hn).1 (by simp [hk, hqk])
    subst this
    rfl
/-- The longest of a row is the greatest length at which the row has something of the address. -/
theorem lng_best {N : List Rt} (ah al : Nat) (low high : Int) :
    (lngI N (candB ah al low high) N.length = none ∧ bestM (depV N ah al) low high 129 = none) ∨
    ∃ b, ∃ hb : b < N.length, ∃ m : Nat, lngI N (candB ah al low high) N.length = some b ∧ bestM (depV N ah al) low high 129 = some m ∧ N[b].k = cutK ah al m := by
  have hl := lng_ok N (candB ah al low high) N.length (Nat.le_refl _)
  have hc : ∀ r : Rt, candB ah al low high r = true ↔ low < r.k.n ∧ r.k.n ≤ high ∧ ∃ m : Nat, m ≤ 128 ∧ r.k = cutK ah al m := fun r => by
    unfold candB
    simp only [Bool.and_eq_true, decide_eq_true_eq, has_cutK]
  cases e : lngI N (candB ah al low high) N.length with
  | none =>
    rw [e] at hl
    have hl : ∀ i (h : i < N.length), i < N.length → candB ah al low high N[i] = false := hl
    refine .inl ⟨rfl, best_none.2 fun m hm h => ?_⟩
    obtain ⟨r, hr, hk⟩ := dep_some.1 h.2.2
    obtain ⟨i, hi, rfl⟩ := List.getElem_of_mem hr
    have h1 := hl i hi hi
    have h2 := (hc N[i]).2 ⟨by rw [hk]; exact h.1, by rw [hk]; exact h.2.1, m, by omega, hk⟩
    rw [h1] at h2
    cases h2
  | some b =>
    rw [e] at hl
    obtain ⟨hb, -, hcb, hmax⟩ := hl
    obtain ⟨h1, h2, m, hm, hk⟩ := (hc N[b]).1 hcb
    have hkn : N[b].k.n = (m : Int) := by rw [hk]; rfl
    refine .inr ⟨b, hb, m, rfl, best_some.2 ⟨by omega, ⟨by omega, by omega, dep_some.2 ⟨_, List.getElem_mem hb, hk⟩⟩, fun m' hm' hm2 h => ?_⟩, hk⟩
    obtain ⟨r, hr, hk'⟩ := dep_some.1 h.2.2
    obtain ⟨i, hi, rfl⟩ := List.getElem_of_mem hr
    have hn' : N[i].k.n = (m' : Int) := by rw [hk']; rfl
    have := hmax i hi hi ((hc N[i]).2 ⟨by rw [hn']; exact h.1, by rw [hn']; exact h.2.1, m', by omega, hk'⟩)
    omega
end Go.Proofs.Ytcfioplbbbaeoaa

/-
  Plain mathematics of buckets: a key, a key with its value, four places; what is put, taken, swapped, found, listed. No condition but those that stand in each.
-/
import Derived.Test.YtnmcgboafdglbaaM1
set_option linter.unusedSimpArgs false
set_option linter.unusedVariables false
namespace Go.Proofs.Ytnmcgboafdglbaa
open M

/-- A key: the two words of its address, and its length. -/
structure Ky where
  h : Nat
  l : Nat
  n : Int
deriving DecidableEq
/-- The words of a key are words of 64 bits. -/
def Ky.good (k : Ky) : Prop := W64 k.h ∧ W64 k.l
/-- A key and its value. -/
structure Rt where
  k : Ky
  v : Int
deriving DecidableEq
/-- A place: empty, or a key with its value. -/
abbrev Pl := Option Rt
def hasK (k : Ky) (x : Pl) : Bool :=
  match x with
  | some r => decide (r.k = k)
  | none => false
/-- The first place of a kind, or -1. -/
def idxI (p : Pl → Bool) (C : List Pl) : Int :=
  match C.findIdx? p with
  | some i => (i : Int)
  | none => -1
def putC (C : List Pl) (k : Ky) (v : Int) : Option (List Pl) :=
  match C.findIdx? (hasK k) with
  | some i => some (C.set i (some ⟨k, v⟩))
  | none =>
    match C.findIdx? Option.isNone with
    | some i => some (C.set i (some ⟨k, v⟩))
    | none => none
def takeC (C : List Pl) (k : Ky) : Option (List Pl) :=
  match C.findIdx? (hasK k) with
  | some i => some (C.set i none)
  | none => none
def getC (C : List Pl) (k : Ky) : Option Int :=
  match C.findIdx? (hasK k) with
  | some i => (C.getD i none).map Rt.v
  | none => none
def swapC (C : List Pl) (i : Int) (k : Ky) (v : Int) : Option (Rt × List Pl) :=
  if 0 ≤ i then
    match C.getD i.toNat none with
    | some r => some (r, C.set i.toNat (some ⟨k, v⟩))
    | none => none
  else none
def allC (C : List Pl) : List Rt := C.filterMap id
def xh (x : Pl) : Nat := match x with | some r => r.k.h | none => 0
def xl (x : Pl) : Nat := match x with | some r => r.k.l | none => 0
def xn (x : Pl) : Int := match x with | some r => r.k.n | none => 0
def xv (x : Pl) : Int := match x with | some r => r.v | none => 0
theorem hasK_eq (k : Ky) (x : Pl) : hasK k x = (x.isSome && decide (xh x = k.h ∧ xl x = k.l ∧ xn x = k.n)) := by
  cases x with
  | none => rfl
  | some r =>
    obtain ⟨⟨a, b, c⟩, v⟩ := r
    obtain ⟨d, e, f⟩ := k
    rw [Bool.eq_iff_iff]
    simp [hasK, xh, xl, xn]
    exact decide_eq_true_iff.symm
theorem idx_hit {p : Pl → Bool} {C : List Pl} {i : Nat} (hi : i < C.length) (h : p C[i] = true) (hb : ∀ j (hj : j < C.length), j < i → p C[j] = false) : C.findIdx? p = some i := by
  rw [List.findIdx?_eq_some_iff_getElem]
  exact ⟨hi, h, fun j hj => by simp [hb j (by omega) hj]⟩
theorem idx_miss {p : Pl → Bool} {C : List Pl} (hb : ∀ j (hj : j < C.length), p C[j] = false) : C.findIdx? p = none := by
  rw [List.findIdx?_eq_none_iff]
  intro x hx
  obtain ⟨j, hj, rfl⟩ := List.getElem_of_mem hx
  exact hb j hj
theorem idxI_hit {p : Pl → Bool} {C : List Pl} {i : Nat} (hi : i < C.length) (h : p C[i] = true) (hb : ∀ j (hj : j < C.length), j < i → p C[j] = false) : idxI p C = i := by
  unfold idxI
  rw [idx_hit hi h hb]
theorem idxI_miss {p : Pl → Bool} {C : List Pl} (hb : ∀ j (hj : j < C.length), p C[j] = false) : idxI p C = -1 := by
  unfold idxI
  rw [idx_miss hb]
/-- Either there is a first one, or none. -/
theorem idx_cases (p : Pl → Bool) (C : List Pl) : (∃ i, ∃ hi : i < C.length, C.findIdx? p = some i ∧ idxI p C = i ∧ p C[i] = true) ∨ (C.findIdx? p = none ∧ idxI p C = -1) := by
  cases h : C.findIdx? p with
  | none => exact .inr ⟨rfl, by unfold idxI; rw [h]⟩
  | some i =>
    have := List.findIdx?_eq_some_iff_getElem.1 h
    exact .inl ⟨i, this.1, rfl, by unfold idxI; rw [h], this.2.1⟩
theorem allC_len (C : List Pl) : (allC C).length ≤ C.length := List.length_filterMap_le _ _
/-- The places before number i, listed: one more. -/
theorem allC_snoc (C : List Pl) (i : Nat) (h : i < C.length) : allC (C.take (i + 1)) = allC (C.take i) ++ (C[i]).toList := by
  unfold allC
  rw [List.take_succ_eq_append_getElem h, List.filterMap_append]
  cases C[i] <;> rfl
theorem getC_hit {C : List Pl} {k : Ky} {i : Nat} (hi : i < C.length) (h : C.findIdx? (hasK k) = some i) (hk : hasK k C[i] = true) : getC C k = some (xv C[i]) := by
  unfold getC
  rw [h]
  simp only [List.getD_eq_getElem?_getD, List.getElem?_eq_getElem hi, Option.getD_some]
  cases e : C[i] with
  | none => rw [e] at hk; cases hk
  | some r => rfl
theorem getC_miss {C : List Pl} {k : Ky} (h : C.findIdx? (hasK k) = none) : getC C k = none := by
  unfold getC
  rw [h]
end Go.Proofs.Ytnmcgboafdglbaa

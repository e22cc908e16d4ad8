/-
  A row of numbers beside packed counters; what Up and Down leave, counter by counter. No condition but those that stand in each.
-/
import Derived.Test.YtodofjkajhhipaaNib
import Derived.Test.YtodofjkajhhipaaInts
set_option linter.unusedSimpArgs false
set_option linter.unusedVariables false
namespace Go.Proofs.Ytodofjkajhhipaa
open Go.RowKit Go.Sort M

def iC (C : List Nat) : List Value := ics (C.map fun (c : Nat) => (c : Int))
theorem iC_at (C : List Nat) (k : Nat) (h : k < C.length) : (iC C)[k]? = some (.int .i64 (C[k] : Nat)) := by simp [iC, ics, h]
theorem iC_set (C : List Nat) (k : Nat) (v : Nat) (x : Int) (h : x = (v : Int)) : (iC C).set k (.int .i64 x) = iC (C.set k v) := by
  subst h
  simp [iC, ics, List.map_set]
theorem iC_zero (n : Nat) : iC (List.replicate n 0) = (madeCells #[.int .i64 0] n).toList := by
  rw [toList_madeCells_one]
  simp [iC, ics]
theorem getN_at {C : List Nat} {k : Nat} (h : k < C.length) : getN C (k : Int) = C[k] := by
  unfold getN
  rw [if_pos (by omega), Int.toNat_natCast, List.getD_eq_getElem?_getD, List.getElem?_eq_getElem h]
  rfl
theorem Nib.le {w : World} {B B' g h : Nat} {C : List Nat} (H : Nib w B g h C) (hB : B' ≤ B) : Nib w B' g h C :=
  ⟨Nat.le_trans hB H.low, H.lt, H.ne, H.words, H.num, own_le H.own hB, H.small, H.len⟩
theorem fullN_snoc (C : List Nat) (k : Nat) (h : k < C.length) : fullN (C.take (k + 1)) = fullN (C.take k) + if C[k] = 15 then 1 else 0 := by
  rw [List.take_succ_eq_append_getElem h, fullN_append]
  unfold fullN
  rw [List.filter_cons]
  by_cases e : C[k] = 15 <;> simp [e]
theorem upL_len (C : List Nat) (k : Int) : (upL C k).length = C.length := by
  unfold upL
  split <;> simp
theorem downL_len (C : List Nat) (k : Int) : (downL C k).length = C.length := by
  unfold downL
  split <;> simp
theorem up_out {C : List Nat} {k : Int} (h : ¬ (0 ≤ k ∧ k < C.length)) : upB C k = false ∧ upL C k = C := by
  have : upB C k = false := by unfold upB; simp; omega
  exact ⟨this, by simp [upL, this]⟩
theorem down_out {C : List Nat} {k : Int} (h : ¬ (0 ≤ k ∧ k < C.length)) : downB C k = false ∧ downL C k = C := by
  have : downB C k = false := by unfold downB; simp; omega
  exact ⟨this, by simp [downL, this]⟩
theorem up_full {C : List Nat} {k : Nat} (h : k < C.length) (hv : C[k] = 15) : upB C k = false ∧ upL C k = C := by
  have : upB C k = false := by simp [upB, getN_at h, hv]
  exact ⟨this, by simp [upL, this]⟩
theorem up_more {C : List Nat} {k : Nat} (h : k < C.length) (hv : C[k] ≠ 15) : upB C k = true ∧ upL C k = C.set k (C[k] + 1) := by
  have : upB C k = true := by simp [upB, getN_at h, hv, h]
  exact ⟨this, by simp [upL, this, getN_at h]⟩
theorem down_stays {C : List Nat} {k : Nat} (h : k < C.length) (hv : C[k] = 15 ∨ C[k] = 0) : downB C k = false ∧ downL C k = C := by
  have : downB C k = false := by
    rcases hv with hv | hv <;> simp [downB, getN_at h, hv]
  exact ⟨this, by simp [downL, this]⟩
theorem down_less {C : List Nat} {k : Nat} (h : k < C.length) (hv : C[k] ≠ 15) (h0 : C[k] ≠ 0) : downB C k = true ∧ downL C k = C.set k (C[k] - 1) := by
  have : downB C k = true := by simp [downB, getN_at h, hv, h, h0]
  exact ⟨this, by simp [downL, this, getN_at h]⟩
end Go.Proofs.Ytodofjkajhhipaa

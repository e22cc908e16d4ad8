/-
  What package cidr's small functions hand back: mark, number; strings.Cut at one byte. No condition but those that stand in each.
-/
import Derived.Test.YtegaeifmikfpcaaDoorM2
import Derived.Test.YtegaeifmikfpcaaDoorW1b
import Derived.Test.YtegaeifmikfpcaaDoorShelf
import Derived.Lib.IndexBytes
set_option linter.unusedSimpArgs false
set_option linter.unusedVariables false
namespace Go.Proofs.YtegaeifmikfpcaaDoor
open Go.RowKit Go.Sort M

def optV (x : Option Nat) : Value := match x with | none => .tuple #[.int .i64 0, .bool false] | some n => .tuple #[.int .i64 n, .bool true]
theorem drop_at (s : ByteArray) (k : Nat) (h : k < s.size) : s.data.toList.drop k = s[k] :: s.data.toList.drop (k + 1) := by
  rw [List.drop_eq_getElem_cons (by simpa using h)]; rfl
theorem drop_end (s : ByteArray) (k : Nat) (h : s.size ≤ k) : s.data.toList.drop k = [] := List.drop_eq_nil_of_le (by simpa using h)
theorem numGo_dig {m acc : Nat} {c : UInt8} {l : List UInt8} {x : Option Nat} (h : Hid (numGo m acc (c :: l) = x)) (h0 : 48 ≤ c.toNat) (h1 : c.toNat ≤ 57) (hm : acc * 10 + (c.toNat - 48) ≤ m) : Hid (numGo m (acc * 10 + (c.toNat - 48)) l = x) := by
  have h := h.out
  rw [numGo, if_pos ((digB_iff c).2 ⟨h0, h1⟩), if_neg (by omega)] at h
  exact h
theorem numGo_bad {m acc : Nat} {c : UInt8} {l : List UInt8} {x : Option Nat} (h : Hid (numGo m acc (c :: l) = x)) (h0 : c.toNat < 48 ∨ 57 < c.toNat) : x = none := by
  have h := h.out
  rw [numGo, if_neg (by rw [digB_iff]; omega)] at h
  exact h.symm
theorem numGo_big {m acc : Nat} {c : UInt8} {l : List UInt8} {x : Option Nat} (h : Hid (numGo m acc (c :: l) = x)) (h0 : 48 ≤ c.toNat) (h1 : c.toNat ≤ 57) (hm : m < acc * 10 + (c.toNat - 48)) : x = none := by
  have h := h.out
  rw [numGo, if_pos ((digB_iff c).2 ⟨h0, h1⟩), if_pos hm] at h
  exact h.symm

theorem size_pos {s : ByteArray} (h : s.toList.isEmpty = false) : 0 < s.size := by
  rcases Nat.eq_zero_or_pos s.size with h0 | h0
  · have : s.toList = [] := by rw [Lib.toList_data]; exact List.eq_nil_of_length_eq_zero (by simpa using h0)
    rw [this] at h; cases h
  · exact h0
theorem ba_of (s : ByteArray) : s = ⟨s.data.toList.toArray⟩ := by cases s; simp
theorem ret_optV {x : Option Nat} {a : Int} {b : Bool} (h : optV x = .tuple #[.int .i64 a, .bool b]) : Ending.returned (.tuple #[.int .i64 a, .bool b]) = .returned (optV x) := by rw [h]

set_option maxHeartbeats 400000 in
theorem slcut_any (s : ByteArray) (c : UInt8) (hs : s.size ≤ maxLen) :
    Gives Tryd.prog 33 #[.string s, .string ⟨#[c]⟩] (.tuple #[.string ⟨(cutB c s.data.toList).1.toArray⟩, .string ⟨(cutB c s.data.toList).2.1.toArray⟩, .bool (cutB c s.data.toList).2.2]) := by
  intro w
  unfold maxLen at hs
  have hix := Tryd.stringslite_Index_one s c w
  rcases indexByte_cut c s.data.toList with ⟨h1, h2⟩ | ⟨k, h1, h2, h3⟩
  · rw [h1] at hix
    rw [h2]
    clear h1 h2
    have HI := Lib.hid hix
    clear hix
    go_enter Tryd.func33, Tryd.ntmps33
    go_wp2_with fail
    refine HI.out.mono ?_
    rintro e w' ⟨rfl, hww⟩
    obtain rfl : w = w' := hww.symm
    go_wp2
    go_ret3
    exact ⟨rfl, by go_grown⟩
  · rw [h1] at hix
    rw [h3]
    clear h1 h3
    have hk : k < s.size := by simpa using h2
    clear h2
    have HI := Lib.hid hix
    clear hix
    have hw1 : IntKind.i64.wrap ((k : Int) + 1) = ((k + 1 : Nat) : Int) := by rw [IntWalk.i64_in _ (by omega)]; omega
    go_enter Tryd.func33, Tryd.ntmps33
    go_wp2_with fail
    refine HI.out.mono ?_
    rintro e w' ⟨rfl, hww⟩
    obtain rfl : w = w' := hww.symm
    go_wp2_with fail
    have kg := cell_grow
    refine region_whole (by kernel_rfl) (by kernel_rfl) ?_
    repeat (any_goals (first | go_big_quiet_step (fail) | quiet_step (fail)))
    refine wpQuiet_nil ?_
    clear kg
    intro w1 hb1
    obtain ⟨hc1, hf1⟩ := bcell hb1
    have hw1 : Below w.heap.size w w1 := by
      refine Below.trans ?_ (hb1.mono ?_)
      · go_grown
      · first | omega | go_size
    go_wp2
    go_ret3
    refine ⟨?_, by go_grown⟩
    show Ending.returned (.tuple #[.string (s.extract 0 k), .string (s.extract (k + 1) s.size), .bool true]) = _
    rw [ba_of (s.extract 0 k), ba_of (s.extract (k + 1) s.size), Lib.extract_data, Lib.extract_to_end]
    simp

set_option maxHeartbeats 400000 in
theorem scut_any (s : ByteArray) (c : UInt8) (hs : s.size ≤ maxLen) :
    Gives Tryd.prog 14 #[.string s, .string ⟨#[c]⟩] (.tuple #[.string ⟨(cutB c s.data.toList).1.toArray⟩, .string ⟨(cutB c s.data.toList).2.1.toArray⟩, .bool (cutB c s.data.toList).2.2]) := by
  intro w
  have h := slcut_any s c hs
  generalize (cutB c s.data.toList).1 = x at h ⊢
  generalize (cutB c s.data.toList).2.1 = y at h ⊢
  generalize (cutB c s.data.toList).2.2 = z at h ⊢
  have HI := Lib.hid h
  clear h
  go_enter Tryd.func14, Tryd.ntmps14
  go_wp2_with fail
  refine (HI.out _).mono ?_
  rintro e w1 ⟨rfl, hb1⟩
  go_wp2
  go_ret3
  exact ⟨rfl, hb1⟩
end Go.Proofs.YtegaeifmikfpcaaDoor

/-
  What package cidr's small functions hand back: mark, number; strings.Cut at one byte. No condition but those that stand in each.
-/
import Derived.Test.YtmcageenjlbacaaDoorM2
import Derived.Test.YtmcageenjlbacaaDoorW1b
import Derived.Test.YtmcageenjlbacaaDoorShelf
import Derived.Lib.IndexBytes
set_option linter.unusedSimpArgs false
set_option linter.unusedVariables false
namespace Go.Proofs.YtmcageenjlbacaaDoor
open Go.RowKit Go.Sort M

def optV (x : Option Nat) : Value := match x with | none => .tuple #[.int .i64 0, .bool false] | some n => .tuple #[.int .i64 n, .bool true]
theorem drop_at (s : ByteArray) (k : Nat) (h : k < s.size) : s.data.toList.drop k = s[k] :: s.data.toList.drop (k + 1) := by
  rw [List.drop_eq_getElem_cons (by simpa using h)]; rfl
theorem drop_end (s : ByteArray) (k : Nat) (h : s.size ≤ k) : s.data.toList.drop k = [] := List.drop_eq_nil_of_le (by simpa using h)
theorem numGo_dig {m acc : Nat} {c : UInt8} {l : List UInt8} {x : Option Nat} (h : Hid (numGo m acc (c :: l) = x)) (h0 : 48 ≤ c.toNat) (h1 : c.toNat ≤ 57) (hm : acc * 10 + (c.toNat - 48) ≤ m) : Hid (numGo m (acc * 10 + (c.toNat - 48)) l = x) := by
  have h := h.out
  rw [numGo, if_pos ((digB_iff c).2 ⟨h0, h1⟩), if_neg (by omega)] at h
  exact h
theorem numGo_bad {m acc : Nat} {c : UInt8} {l : List UInt8} {x : Option Nat} (h : Hid (numGo m acc (c :: l) = x)) (h0 : c.toNat < 48 ∨ 57 < c.toNat) : x = none := by
  have h := h.out
  rw [numGo, if_neg (by rw [digB_iff]; omega)] at h
  exact h.symm
theorem numGo_big {m acc : Nat} {c : UInt8} {l : List UInt8} {x : Option Nat} (h : Hid (numGo m acc (c :: l) = x)) (h0 : 48 ≤ c.toNat) (h1 : c.toNat ≤ 57) (hm : m < acc * 10 + (c.toNat - 48)) : x = none := by
  have h := h.out
  rw [numGo, if_pos ((digB_iff c).2 ⟨h0, h1⟩), if_pos hm] at h
  exact h.symm

theorem size_pos {s : ByteArray} (h : s.toList.isEmpty = false) : 0 < s.size := by
  rcases Nat.eq_zero_or_pos s.size with h0 | h0
  · have : s.toList = [] := by rw [Lib.toList_data]; exact List.eq_nil_of_length_eq_zero (by simpa using h0)
    rw [this] at h; cases h
  · exact h0
theorem ba_of (s : ByteArray) : s = ⟨s.data.toList.toArray⟩ := by cases s; simp
theorem ret_optV {x : Option Nat} {a : Int} {b : Bool} (h : optV x = .tuple #[.int .i64 a, .bool b]) : Ending.returned (.tuple #[.int .i64 a, .bool b]) = .returned (optV x) := by rw [h]

set_option maxHeartbeats 1000000 in
theorem cnum_any (s : ByteArray) (m : Nat) (hm : m ≤ 1000) (hs : s.size ≤ maxLen) :
    Gives Tryd.prog 15 #[.string s, .int .i64 (m : Int)] (optV (numC m s.data.toList)) := by
  intro w
  unfold maxLen at hs
  generalize hx0 : numC m s.data.toList = x
  have hx := Lib.hid hx0
  clear hx0
  cases he : s.toList.isEmpty
  · have hp := size_pos he
    have h0 : s.data.toList = s[0] :: s.data.toList.drop 1 := by
      have := drop_at s 0 hp
      simpa using this
    by_cases hz : 1 < s.size ∧ s[0].toNat = 48
    · obtain ⟨hz1, hz2⟩ := hz
      have hz3 : ((s[0].toNat : Int) == 48) = true := by simp; omega
      have hn : x = none := by
        rw [← hx.out, numC, if_pos]
        have : s[0] = 48 := u8_ext hz2
        rw [h0, this, zeroed]
        have hl : s.data.toList.length = s.size := by simp
        simp; omega
      have HN := Lib.hid hn
      clear hn h0
      go_enter Tryd.func15, Tryd.ntmps15
      go_wp2
      go_ret2
      exact ⟨ret_optV (by rw [HN.out]; rfl), by go_grown⟩
    · have hzz : zeroed s.data.toList = false := by
        rw [h0, zeroed]
        have hl : s.data.toList.length = s.size := by simp
        simp only [List.isEmpty_cons, Bool.false_or, Bool.and_eq_false_iff, decide_eq_false_iff_not, List.head?_cons]
        by_cases h1 : 1 < s.size
        · right
          have : s[0] ≠ 48 := fun e => hz ⟨h1, by rw [e]; rfl⟩
          simpa using this
        · left
          rw [← h0]; omega
      have hgo : Hid (numGo m 0 (s.data.toList.drop 0) = x) := Lib.hid (by
        rw [← hx.out, numC, hzz]; simp)
      clear hx hzz h0
      have hz' : (1 < s.size ∧ ((s[0].toNat : Int) == 48) = false) ∨ ¬ 1 < s.size := by
        by_cases h1 : 1 < s.size
        · left; have : s[0].toNat ≠ 48 := fun e => hz ⟨h1, e⟩
          exact ⟨h1, by simp; omega⟩
        · exact Or.inr h1
      clear hz
      rcases hz' with ⟨hz1, hz2⟩ | hz'
      all_goals
        go_enter Tryd.func15, Tryd.ntmps15
        go_wp2
      all_goals
        go_loop [6, 22] (fun n i => ∃ k acc : Nat, k ≤ s.size ∧ i = .int .i64 k ∧ n = .int .i64 acc ∧ acc ≤ m ∧ Hid (numGo m acc (s.data.toList.drop k) = x)) (fun _ i => s.size - (intOf i).toNat)
        case atStart => exact ⟨0, 0, Nat.zero_le _, rfl, rfl, Nat.zero_le _, hgo⟩
        case round =>
          obtain ⟨k, acc, hk, rfl, rfl, hacc, hrest⟩ := hrel
          by_cases hlt : k < s.size
          · rw [drop_at s k hlt] at hrest
            have hb : s[k].toNat < 256 := s[k].toNat_lt
            by_cases hd : 48 ≤ s[k].toNat ∧ s[k].toNat ≤ 57
            · obtain ⟨hd0, hd1⟩ := hd
              by_cases hbig : m < acc * 10 + (s[k].toNat - 48)
              · have hn := Lib.hid (numGo_big hrest hd0 hd1 hbig)
                go_wp2
                go_ret2
                exact ⟨ret_optV (by rw [hn.out]; rfl), by go_grown⟩
              · have hn := numGo_dig hrest hd0 hd1 (by omega)
                clear hrest
                go_wp2
                go_round
                case rel => exact ⟨k + 1, acc * 10 + (s[k].toNat - 48), by omega, by go_num, by go_num, by omega, hn⟩
                case measure => simp [intOf]; omega
            · have hn := Lib.hid (numGo_bad hrest (by omega))
              clear hrest
              have hd' : s[k].toNat < 48 ∨ 57 < s[k].toNat := by omega
              clear hd
              rcases hd' with hd' | hd'
              all_goals
                go_wp2
                go_ret2
                exact ⟨ret_optV (by rw [hn.out]; rfl), by go_grown⟩
          · rw [drop_end s k (by omega)] at hrest
            go_wp2
            go_ret2
            exact ⟨ret_optV (by rw [← hrest.out]; rfl), by go_grown⟩
  · have hn : x = none := by
      have : s.data.toList = [] := by rw [← Lib.toList_data]; simpa using he
      rw [← hx.out, this]; rfl
    have HN := Lib.hid hn
    clear hn
    go_enter Tryd.func15, Tryd.ntmps15
    go_wp2
    go_ret2
    exact ⟨ret_optV (by rw [HN.out]; rfl), by go_grown⟩

set_option maxHeartbeats 400000 in
theorem mark_any (i : Nat) (w : World) : Calls Tryd.prog 14 #[.int .i64 (i : Int)] w fun e w' => e = .returned (.string ⟨#[markB i]⟩) ∧ w = w' := by
  by_cases h : i = 3
  · subst h
    go_enter Tryd.func14, Tryd.ntmps14
    go_wp2
    go_ret
    exact ⟨rfl, rfl⟩
  · have h' : ((i : Int) == 3) = false := by simp; omega
    have hm : markB i = 46 := if_neg h
    rw [hm]
    clear hm
    go_enter Tryd.func14, Tryd.ntmps14
    go_wp2
    go_ret
    exact ⟨rfl, rfl⟩

set_option maxHeartbeats 400000 in
theorem slcut_any (s : ByteArray) (c : UInt8) (hs : s.size ≤ maxLen) :
    Gives Tryd.prog 27 #[.string s, .string ⟨#[c]⟩] (.tuple #[.string ⟨(cutB c s.data.toList).1.toArray⟩, .string ⟨(cutB c s.data.toList).2.1.toArray⟩, .bool (cutB c s.data.toList).2.2]) := by
  intro w
  unfold maxLen at hs
  have hix := Tryd.stringslite_Index_one s c w
  rcases indexByte_cut c s.data.toList with ⟨h1, h2⟩ | ⟨k, h1, h2, h3⟩
  · rw [h1] at hix
    rw [h2]
    clear h1 h2
    have HI := Lib.hid hix
    clear hix
    go_enter Tryd.func27, Tryd.ntmps27
    go_wp2_with fail
    refine HI.out.mono ?_
    rintro e w' ⟨rfl, hww⟩
    obtain rfl : w = w' := hww.symm
    go_wp2
    go_ret3
    exact ⟨rfl, by go_grown⟩
  · rw [h1] at hix
    rw [h3]
    clear h1 h3
    have hk : k < s.size := by simpa using h2
    clear h2
    have HI := Lib.hid hix
    clear hix
    have hw1 : IntKind.i64.wrap ((k : Int) + 1) = ((k + 1 : Nat) : Int) := by rw [IntWalk.i64_in _ (by omega)]; omega
    go_enter Tryd.func27, Tryd.ntmps27
    go_wp2_with fail
    refine HI.out.mono ?_
    rintro e w' ⟨rfl, hww⟩
    obtain rfl : w = w' := hww.symm
    go_wp2_with fail
    have kg := cell_grow
    refine region_whole (by kernel_rfl) (by kernel_rfl) ?_
    repeat (any_goals (first | go_big_quiet_step (fail) | quiet_step (fail)))
    refine wpQuiet_nil ?_
    clear kg
    intro w1 hb1
    obtain ⟨hc1, hf1⟩ := bcell hb1
    have hw1 : Below w.heap.size w w1 := by
      refine Below.trans ?_ (hb1.mono ?_)
      · go_grown
      · go_size
    go_wp2
    go_ret3
    refine ⟨?_, by go_grown⟩
    show Ending.returned (.tuple #[.string (s.extract 0 k), .string (s.extract (k + 1) s.size), .bool true]) = _
    rw [ba_of (s.extract 0 k), ba_of (s.extract (k + 1) s.size), Lib.extract_data, Lib.extract_to_end]
    simp

set_option maxHeartbeats 400000 in
theorem scut_any (s : ByteArray) (c : UInt8) (hs : s.size ≤ maxLen) :
    Gives Tryd.prog 13 #[.string s, .string ⟨#[c]⟩] (.tuple #[.string ⟨(cutB c s.data.toList).1.toArray⟩, .string ⟨(cutB c s.data.toList).2.1.toArray⟩, .bool (cutB c s.data.toList).2.2]) := by
  intro w
  have h := slcut_any s c hs
  generalize (cutB c s.data.toList).1 = x at h ⊢
  generalize (cutB c s.data.toList).2.1 = y at h ⊢
  generalize (cutB c s.data.toList).2.2 = z at h ⊢
  have HI := Lib.hid h
  clear h
  go_enter Tryd.func13, Tryd.ntmps13
  go_wp2_with fail
  refine (HI.out _).mono ?_
  rintro e w1 ⟨rfl, hb1⟩
  go_wp2
  go_ret3
  exact ⟨rfl, hb1⟩
end Go.Proofs.YtmcageenjlbacaaDoor

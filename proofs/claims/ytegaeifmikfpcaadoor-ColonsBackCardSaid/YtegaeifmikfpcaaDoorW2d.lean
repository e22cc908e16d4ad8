/-
  What the reference's small words on texts hand back: Dec, number, split, whole. No condition but that texts and numbers are such as a machine holds.
-/
import Derived.Test.YtegaeifmikfpcaaDoorW2b
import Derived.Test.YtegaeifmikfpcaaDoorW1d
import Derived.Lib.ItoaLen
set_option linter.unusedSimpArgs false
set_option linter.unusedVariables false
namespace Go.Proofs.YtegaeifmikfpcaaDoor
open Go.RowKit Go.Sort M

theorem ret_str {a b : ByteArray} (h : a = b) : Ending.returned (.string a) = .returned (.string b) := by rw [h]
theorem ba_app (a b : List UInt8) : (⟨a.toArray⟩ ++ ⟨b.toArray⟩ : ByteArray) = ⟨(a ++ b).toArray⟩ := by
  apply ByteArray.ext; simp
theorem digit_at (k : Nat) (h : k < 10) : ByteArray.extract ⟨#[48, 49, 50, 51, 52, 53, 54, 55, 56, 57]⟩ k (k + 1) = ⟨#[UInt8.ofNat (48 + k)]⟩ := by
  obtain rfl | rfl | rfl | rfl | rfl | rfl | rfl | rfl | rfl | rfl : k = 0 ∨ k = 1 ∨ k = 2 ∨ k = 3 ∨ k = 4 ∨ k = 5 ∨ k = 6 ∨ k = 7 ∨ k = 8 ∨ k = 9 := by omega
  all_goals rfl
theorem dec_len20 (u : Nat) (h : u < 9223372036854775808) : (Lib.decDigits u).length ≤ 20 := by
  rw [Lib.decDigits_length]; exact Lib.nDigits_le20 u (by omega)

set_option maxHeartbeats 400000 in
theorem rdec_any (n : Nat) (hn : n < 9223372036854775808) : Gives Tryd.prog 29 #[.int .i64 (n : Int)] (.string ⟨(Lib.decDigits n).toArray⟩) := by
  induction n using Nat.strongRecOn with
  | _ n ih =>
    intro w
    by_cases h : n < 10
    · rw [decDigits_small h]
      go_enter Tryd.func29, Tryd.ntmps29
      go_wp2_with fail
      go_ret
      refine ⟨ret_str ?_, by go_grown⟩
      rw [show n % 10 = n by omega]
      exact digit_at n h
    · have hd := ih (n / 10) (by omega) (by omega)
      rw [decDigits_more h]
      have hl := dec_len20 (n / 10) (by omega)
      generalize Lib.decDigits (n / 10) = D at hd hl
      rw [show ((n / 10 : Nat) : Int) = (n : Int) / 10 by omega] at hd
      have HD := Lib.hid hd
      clear hd ih
      go_enter Tryd.func29, Tryd.ntmps29
      go_wp2_with fail
      refine (HD.out _).mono ?_
      rintro e w1 ⟨rfl, hb1⟩
      go_wp2
      go_ret
      refine ⟨ret_str ?_, hb1⟩
      rw [digit_at _ (by omega)]
      exact ba_app D [_]

def capN (m : Nat) (x : Option Nat) : Option Nat := match x with | none => none | some n => if m < n then none else some n
def numI (x : Option Nat) : Int := match x with | none => -1 | some n => n
theorem valGo_dig {acc : Nat} {c : UInt8} {l : List UInt8} {x : Option Nat} (h : Hid (valGo acc (c :: l) = x)) (h0 : 48 ≤ c.toNat) (h1 : c.toNat ≤ 57) : Hid (valGo (acc * 10 + (c.toNat - 48)) l = x) := by
  have h := h.out
  rw [valGo, if_pos ((digB_iff c).2 ⟨h0, h1⟩)] at h
  exact h
theorem valGo_bad {acc : Nat} {c : UInt8} {l : List UInt8} {x : Option Nat} (h : Hid (valGo acc (c :: l) = x)) (h0 : c.toNat < 48 ∨ 57 < c.toNat) : x = none := by
  have h := h.out
  rw [valGo, if_neg (by rw [digB_iff]; omega)] at h
  exact h.symm
theorem valGo_nil {acc : Nat} {x : Option Nat} (h : Hid (valGo acc [] = x)) : x = some acc := h.out.symm
theorem ret_int {k : IntKind} {a b : Int} (h : a = b) : Ending.returned (.int k a) = .returned (.int k b) := by rw [h]

set_option maxHeartbeats 1000000 in
/-- What it says behind its looks at the length and the first digit. -/
theorem rnum_go (s : ByteArray) (m : Nat) (hm : m ≤ 1000) (x : Option Nat) (h1 : 0 < s.size) (h3 : s.size ≤ 3) (h0 : (1 < s.size ∧ ((s[0].toNat : Int) == 48) = false) ∨ ¬ 1 < s.size) (hx : Hid (valGo 0 (s.data.toList.drop 0) = x)) :
    Gives Tryd.prog 19 #[.string s, .int .i64 (m : Int)] (.int .i64 (numI (capN m x))) := by
  intro w
  obtain ⟨v, hv⟩ : ∃ v, v = numI (capN m x) := ⟨_, rfl⟩
  rw [← hv]
  have HV := Lib.hid hv
  clear hv
  have hc0 : ((s[0].toNat : Int) == 48) = true ∨ ((s[0].toNat : Int) == 48) = false := by cases ((s[0].toNat : Int) == 48) <;> simp
  rcases h0 with ⟨ha, hb⟩ | ha
  case' inr => rcases hc0 with hb | hb
  all_goals
    go_enter Tryd.func19, Tryd.ntmps19
    go_wp2
  all_goals
    go_loop [5, 6] (fun n i => ∃ k acc : Nat, k ≤ s.size ∧ i = .int .i64 k ∧ n = .int .i64 acc ∧ acc < 10 ^ k ∧ Hid (valGo acc (s.data.toList.drop k) = x)) (fun _ i => s.size - (intOf i).toNat)
    case atStart => exact ⟨0, 0, Nat.zero_le _, rfl, rfl, by decide, hx⟩
    case round =>
      obtain ⟨k, acc, hk, rfl, rfl, hacc, hrest⟩ := hrel
      have hacc' : acc < 1000 := Nat.lt_of_lt_of_le hacc (Nat.le_trans (Nat.pow_le_pow_right (by omega) (show k ≤ 3 by omega)) (by decide))
      by_cases hlt : k < s.size
      · rw [drop_at s k hlt] at hrest
        have hbb : s[k].toNat < 256 := s[k].toNat_lt
        by_cases hd : 48 ≤ s[k].toNat ∧ s[k].toNat ≤ 57
        · obtain ⟨hd0, hd1⟩ := hd
          have hn := valGo_dig hrest hd0 hd1
          have HA := Lib.hid hacc
          clear hrest hacc
          go_wp2
          go_round
          case rel => exact ⟨k + 1, acc * 10 + (s[k].toNat - 48), by omega, by go_num, by go_num, by rw [Nat.pow_succ]; have := HA.out; omega, hn⟩
          case measure => simp [intOf]; omega
        · have hn := Lib.hid (valGo_bad hrest (by omega))
          clear hrest hacc
          have hd' : s[k].toNat < 48 ∨ 57 < s[k].toNat := by omega
          clear hd
          rcases hd' with hd' | hd'
          all_goals
            go_wp2
            go_ret
            exact ⟨ret_int (by rw [HV.out, hn.out]; rfl), by go_grown⟩
      · rw [drop_end s k (by omega)] at hrest
        have hn := Lib.hid (valGo_nil hrest)
        clear hrest hacc
        by_cases hbig : m < acc
        all_goals
          go_wp2
          go_ret
          refine ⟨ret_int ?_, by go_grown⟩
          rw [HV.out, hn.out]
          simp [numI, capN, hbig]

set_option maxHeartbeats 1000000 in
theorem rnum_any (s : ByteArray) (m : Nat) (hm : m ≤ 1000) (hs : s.size ≤ maxLen) :
    Gives Tryd.prog 19 #[.string s, .int .i64 (m : Int)] (.int .i64 (numI (numR m s.data.toList))) := by
  unfold maxLen at hs
  have hlen : s.data.toList.length = s.size := by simp
  by_cases h3 : s.size ≤ 3
  · by_cases h1 : 0 < s.size
    · have h0 : s.data.toList = s[0] :: s.data.toList.drop 1 := by
        have := drop_at s 0 h1
        simpa using this
      by_cases hz : 1 < s.size ∧ s[0].toNat = 48
      · intro w
        obtain ⟨hz1, hz2⟩ := hz
        have hz3 : ((s[0].toNat : Int) == 48) = true := by simp; omega
        have hn : numR m s.data.toList = none := by
          rw [numR, if_pos]
          left
          have : s[0] = 48 := u8_ext hz2
          rw [h0, this, zeroed]
          simp; omega
        rw [hn]
        clear hn h0 hlen
        go_enter Tryd.func19, Tryd.ntmps19
        go_wp2
        go_ret
        exact ⟨rfl, by go_grown⟩
      · have hzz : zeroed s.data.toList = false := by
          rw [h0, zeroed]
          simp only [List.isEmpty_cons, Bool.false_or, Bool.and_eq_false_iff, decide_eq_false_iff_not, List.head?_cons]
          by_cases h1 : 1 < s.size
          · right
            have : s[0] ≠ 48 := fun e => hz ⟨h1, by rw [e]; rfl⟩
            simpa using this
          · left
            rw [← h0]; omega
        have hz' : (1 < s.size ∧ ((s[0].toNat : Int) == 48) = false) ∨ ¬ 1 < s.size := by
          by_cases h1 : 1 < s.size
          · left; have : s[0].toNat ≠ 48 := fun e => hz ⟨h1, e⟩
            exact ⟨h1, by simp; omega⟩
          · exact Or.inr h1
        have := rnum_go s m hm (valGo 0 s.data.toList) h1 h3 hz' (Lib.hid (by simp))
        unfold numR
        rw [if_neg (by rw [hzz]; simp; omega)]
        exact this
    · intro w
      have hn : numR m s.data.toList = none := by
        have : s.data.toList = [] := List.eq_nil_of_length_eq_zero (by omega)
        rw [this]; rfl
      rw [hn]
      clear hn hlen
      go_enter Tryd.func19, Tryd.ntmps19
      go_wp2
      go_ret
      exact ⟨rfl, by go_grown⟩
  · intro w
    have hn : numR m s.data.toList = none := by rw [numR, if_pos]; right; omega
    rw [hn]
    clear hn hlen
    go_enter Tryd.func19, Tryd.ntmps19
    go_wp2
    go_ret
    exact ⟨rfl, by go_grown⟩
end Go.Proofs.YtegaeifmikfpcaaDoor

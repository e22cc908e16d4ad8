/-
  What the reference's small words on texts with colons hand back: hex, readHex, double. No condition but those that stand in each.
-/
import Derived.Test.YtegaeifmikfpcaaDoorW2d
import Derived.Test.YtegaeifmikfpcaaDoorM3b
set_option linter.unusedSimpArgs false
set_option linter.unusedVariables false
namespace Go.Proofs.YtegaeifmikfpcaaDoor
open Go.RowKit Go.Sort M

theorem digit16_at (k : Nat) (h : k < 16) : ByteArray.extract ⟨#[48, 49, 50, 51, 52, 53, 54, 55, 56, 57, 97, 98, 99, 100, 101, 102]⟩ k (k + 1) = ⟨#[dg k]⟩ := by
  obtain rfl | rfl | rfl | rfl | rfl | rfl | rfl | rfl | rfl | rfl | rfl | rfl | rfl | rfl | rfl | rfl : k = 0 ∨ k = 1 ∨ k = 2 ∨ k = 3 ∨ k = 4 ∨ k = 5 ∨ k = 6 ∨ k = 7 ∨ k = 8 ∨ k = 9 ∨ k = 10 ∨ k = 11 ∨ k = 12 ∨ k = 13 ∨ k = 14 ∨ k = 15 := by omega
  all_goals rfl
set_option maxHeartbeats 400000 in
theorem rhex_go : ∀ (f n : Nat), Hid (n < 16 ^ (f + 1)) → n < 65536 → Hid (f ≤ 3) → Gives Tryd.prog 28 #[.int .i64 (n : Int)] (.string ⟨(hexF (f + 1) n).toArray⟩)
  | f, n, hf, hn, h3 => by
    intro w
    by_cases h : n < 16
    · rw [hexF, if_pos h]
      clear hf
      go_enter Tryd.func28, Tryd.ntmps28
      go_wp2_with fail
      go_ret
      refine ⟨ret_str ?_, by go_grown⟩
      rw [show n % 16 = n by omega]
      exact digit16_at n h
    · match f, hf, h3 with
      | 0, hf, _ =>
        exfalso
        have := hf.out
        simp at this; omega
      | f + 1, hf, h3 =>
        have hd := rhex_go f (n / 16) (Lib.hid (by have := hf.out; rw [Nat.pow_succ] at this; omega)) (by omega) (Lib.hid (by have := h3.out; omega))
        rw [hexF, if_neg h]
        have hl : (hexF (f + 1) (n / 16)).length ≤ 4 := by
          have := (hexF_get (f + 1) (n / 16) (by omega) (by have := hf.out; rw [Nat.pow_succ] at this; omega)).2.2.1
          have := h3.out
          omega
        generalize hexF (f + 1) (n / 16) = D at hd hl
        rw [show ((n / 16 : Nat) : Int) = (n : Int) / 16 by omega] at hd
        have HD := Lib.hid hd
        clear hd hf h3
        go_enter Tryd.func28, Tryd.ntmps28
        go_wp2_with fail
        refine (HD.out _).mono ?_
        rintro e w1 ⟨rfl, hb1⟩
        go_wp2
        go_ret
        refine ⟨ret_str ?_, hb1⟩
        rw [digit16_at _ (by omega)]
        exact ba_app D [_]
theorem rhex_any (n : Nat) (hn : n < 65536) : Gives Tryd.prog 28 #[.int .i64 (n : Int)] (.string ⟨(hexS n).toArray⟩) := rhex_go 3 n (Lib.hid (by omega)) hn (Lib.hid (by omega))

theorem hexD_cases (c : UInt8) : (48 ≤ c.toNat ∧ c.toNat ≤ 57 ∧ hexD c = some (c.toNat - 48)) ∨ (97 ≤ c.toNat ∧ c.toNat ≤ 102 ∧ hexD c = some (c.toNat - 97 + 10)) ∨ (65 ≤ c.toNat ∧ c.toNat ≤ 70 ∧ hexD c = some (c.toNat - 65 + 10)) ∨
    ((c.toNat < 48 ∨ (57 < c.toNat ∧ c.toNat < 65) ∨ (70 < c.toNat ∧ c.toNat < 97) ∨ 102 < c.toNat) ∧ hexD c = none) := by
  unfold hexD
  by_cases h1 : 48 ≤ c.toNat ∧ c.toNat ≤ 57
  · left; rw [if_pos h1]; exact ⟨h1.1, h1.2, rfl⟩
  · right
    by_cases h2 : 97 ≤ c.toNat ∧ c.toNat ≤ 102
    · left; rw [if_neg h1, if_pos h2]; exact ⟨h2.1, h2.2, by congr 1; omega⟩
    · right
      by_cases h3 : 65 ≤ c.toNat ∧ c.toNat ≤ 70
      · left; rw [if_neg h1, if_neg h2, if_pos h3]; exact ⟨h3.1, h3.2, by congr 1; omega⟩
      · right; rw [if_neg h1, if_neg h2, if_neg h3]; exact ⟨by omega, rfl⟩
theorem hexgo_on {acc d : Nat} {c : UInt8} {l : List UInt8} {x : Option Nat} (h : Hid (hexGo acc (c :: l) = x)) (hd : hexD c = some d) : Hid (hexGo (acc * 16 + d) l = x) := by
  have h := h.out
  rw [hexGo, hd] at h
  exact h
theorem hexgo_bad {acc : Nat} {c : UInt8} {l : List UInt8} {x : Option Nat} (h : Hid (hexGo acc (c :: l) = x)) (hd : hexD c = none) : x = none := by
  have h := h.out
  rw [hexGo, hd] at h
  exact h.symm
set_option maxHeartbeats 2000000 in
theorem rreadHex_any (s : ByteArray) (hs : s.size ≤ 1000000) : Gives Tryd.prog 49 #[.string s] (.int .i64 (numI (hexV s.data.toList))) := by
  intro w
  have hlen : s.data.toList.length = s.size := by simp
  by_cases hbad : s.size < 1 ∨ 4 < s.size
  · have hn : hexV s.data.toList = none := by
      unfold hexV
      rw [if_pos]
      rcases hbad with h | h
      · left
        have : s.data.toList = [] := List.eq_nil_of_length_eq_zero (by omega)
        rw [this]; rfl
      · right; omega
    rw [hn]
    clear hn hlen
    rcases hbad with h | h
    all_goals
      go_enter Tryd.func49, Tryd.ntmps49
      go_wp2
      go_ret
      exact ⟨rfl, by go_grown⟩
  · have h1 : 1 ≤ s.size := by omega
    have h4 : s.size ≤ 4 := by omega
    generalize hx0 : hexV s.data.toList = x
    have hx : Hid (hexGo 0 (s.data.toList.drop 0) = x) := by
      refine Lib.hid ?_
      rw [← hx0, List.drop_zero]
      unfold hexV
      rw [if_neg]
      intro h
      rcases h with h | h
      · have : s.data.toList = [] := by simpa using h
        rw [this] at hlen; simp at hlen; omega
      · omega
    clear hx0 hlen hbad hs
    go_enter Tryd.func49, Tryd.ntmps49
    go_wp2
    go_loop [3, 4] (fun n i => ∃ k acc : Nat, k ≤ s.size ∧ i = .int .i64 k ∧ n = .int .i64 acc ∧ acc < 16 ^ k ∧ Hid (hexGo acc (s.data.toList.drop k) = x)) (fun _ i => s.size - (intOf i).toNat)
    case atStart => exact ⟨0, 0, Nat.zero_le _, rfl, rfl, by decide, hx⟩
    case round =>
      clear hx
      obtain ⟨k, acc, hk, rfl, rfl, hacc, hrest⟩ := hrel
      have hacc' : acc < 65537 := Nat.lt_of_lt_of_le hacc (Nat.le_trans (Nat.pow_le_pow_right (by omega) (show k ≤ 4 by omega)) (by decide))
      by_cases hlt : k < s.size
      · rw [drop_at s k hlt] at hrest
        have hbb : s[k].toNat < 256 := s[k].toNat_lt
        have HA := Lib.hid hacc
        rcases hexD_cases s[k] with ⟨c0, c1, hd⟩ | ⟨c0, c1, hd⟩ | ⟨c0, c1, hd⟩ | ⟨c0, hd⟩
        · have hn := hexgo_on hrest hd
          clear hrest hacc hd
          go_wp2
          go_round
          case rel => exact ⟨k + 1, acc * 16 + (s[k].toNat - 48), by omega, by go_num, by go_num, by rw [Nat.pow_succ]; have := HA.out; omega, hn⟩
          case measure => simp [intOf]; omega
        · have hn := hexgo_on hrest hd
          clear hrest hacc hd
          go_wp2
          go_round
          case rel => exact ⟨k + 1, acc * 16 + (s[k].toNat - 97 + 10), by omega, by go_num, by go_num, by rw [Nat.pow_succ]; have := HA.out; omega, hn⟩
          case measure => simp [intOf]; omega
        · have hn := hexgo_on hrest hd
          clear hrest hacc hd
          go_wp2
          go_round
          case rel => exact ⟨k + 1, acc * 16 + (s[k].toNat - 65 + 10), by omega, by go_num, by go_num, by rw [Nat.pow_succ]; have := HA.out; omega, hn⟩
          case measure => simp [intOf]; omega
        · have hn := Lib.hid (hexgo_bad hrest hd)
          clear hrest hacc hd
          rcases c0 with c0 | ⟨c0, c1⟩ | ⟨c0, c1⟩ | c0
          all_goals
            go_wp2
            go_ret
            exact ⟨ret_int (by rw [hn.out]; rfl), by go_grown⟩
      · have hF : x = some acc := by
          have := hrest.out
          rw [drop_end s k (by omega)] at this
          exact this.symm
        have HF := Lib.hid hF
        clear hrest hF hacc
        go_wp2
        go_ret
        exact ⟨ret_int (by rw [HF.out]; rfl), by go_grown⟩
theorem occ_two (s : List UInt8) (k : Nat) (h : k + 1 < s.length) : Lib.occAt s [58, 58] k = (decide (s[k] = 58) && decide (s[k + 1] = 58)) := by
  unfold Lib.occAt
  rw [List.drop_eq_getElem_cons (by omega), List.drop_eq_getElem_cons (by omega)]
  simp only [List.isPrefixOf, Bool.and_true]
  have e : ∀ a b : UInt8, (a == b) = decide (b = a) := by
    intro a b
    by_cases hh : a = b
    · simp [hh]
    · simp [hh, Ne.symm hh]
  rw [e, e]
set_option maxHeartbeats 1000000 in
theorem rdouble_any (s : ByteArray) (hs : s.size ≤ 1000000) : Gives Tryd.prog 39 #[.string s] (.int .i64 (dblI s.data.toList)) := by
  intro w
  have hlen : s.data.toList.length = s.size := by simp
  have HL := Lib.hid hlen
  clear hlen
  obtain ⟨R, hR⟩ : ∃ R, R = dblI s.data.toList := ⟨_, rfl⟩
  rw [← hR]
  have HR := Lib.hid hR
  clear hR
  go_enter Tryd.func39, Tryd.ntmps39
  go_wp2
  go_loop [3] (fun i => ∃ k : Nat, k ≤ s.size ∧ i = .int .i64 k ∧ Hid (Lib.NoOcc s.data.toList [58, 58] k)) (fun i => s.size - (intOf i).toNat)
  case atStart => exact ⟨0, Nat.zero_le _, rfl, Lib.hid (Lib.NoOcc.zero _ _)⟩
  case round =>
    obtain ⟨k, hk, rfl, hno⟩ := hrel
    by_cases hlt : k + 1 < s.size
    · have hocc := occ_two s.data.toList k (by rw [HL.out]; exact hlt)
      have g0 : s.data.toList[k]'(by rw [HL.out]; omega) = s[k] := rfl
      have g1 : s.data.toList[k + 1]'(by rw [HL.out]; omega) = s[k + 1] := rfl
      rw [g0, g1] at hocc
      by_cases a0 : s[k] = 58
      · have e0 : ((s[k].toNat : Int) == 58) = true := by rw [a0]; rfl
        by_cases a1 : s[k + 1] = 58
        · have e1 : ((s[k + 1].toNat : Int) == 58) = true := by rw [a1]; rfl
          have hr : R = (k : Int) := by
            rw [HR.out]
            exact Lib.index_hit hno.out (by rw [HL.out]; omega) (by rw [hocc, a0, a1]; rfl)
          have HRR := Lib.hid hr
          clear hocc a0 a1 g0 g1 hr
          go_wp2
          go_ret
          exact ⟨ret_int (by rw [HRR.out]), by go_grown⟩
        · have e1 : ((s[k + 1].toNat : Int) == 58) = false := by
            have : s[k + 1].toNat ≠ 58 := fun e => a1 (u8_ext e)
            simp; omega
          have hn := Lib.hid (hno.out.succ (by rw [hocc]; simp [a1]))
          clear hocc a0 a1 g0 g1 hno
          go_wp2
          go_round
          case rel => exact ⟨k + 1, by omega, by go_num, hn⟩
          case measure => simp [intOf]; omega
      · have e0 : ((s[k].toNat : Int) == 58) = false := by
          have : s[k].toNat ≠ 58 := fun e => a0 (u8_ext e)
          simp; omega
        have hn := Lib.hid (hno.out.succ (by rw [hocc]; simp [a0]))
        clear hocc a0 g0 g1 hno
        go_wp2
        go_round
        case rel => exact ⟨k + 1, by omega, by go_num, hn⟩
        case measure => simp [intOf]; omega
    · have hr : R = -1 := by
        rw [HR.out]
        exact Lib.index_past (by simp) hno.out (by rw [HL.out]; simp; omega)
      have HRR := Lib.hid hr
      clear hr hno
      go_wp2
      go_ret
      exact ⟨ret_int (by rw [HRR.out]), by go_grown⟩
end Go.Proofs.YtegaeifmikfpcaaDoor

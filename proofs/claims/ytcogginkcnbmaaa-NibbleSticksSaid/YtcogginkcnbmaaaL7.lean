/-
  The given laws of chapter 7 as walks: the example, and NibbleSticks, hand back true, for every input. No condition.
-/
import Derived.Test.YtcogginkcnbmaaaNib
set_option linter.unusedSimpArgs false
set_option linter.unusedVariables false
namespace Go.Proofs.Ytcogginkcnbmaaa
open Go.RowKit Go.Sort M

/-- Old memory is as it was, behind a write to one of the call's own blocks. -/
theorem below_write {B : Nat} {w w1 w2 : World} {h : Nat} (hw : Below B w w1) (hB : B ≤ w1.heap.size) (hg : w1.grownBy w2 (some h)) (hh : B ≤ h) : Below B w w2 :=
  hw.grown hg hB (fun k e => by cases e; exact hh)
set_option maxHeartbeats 1000000 in
theorem alive7_any : Gives Try.prog 5 #[] (.bool true) := by
  intro w
  go_enter Try.func5, Try.ntmps5
  go_wp2_with fail
  refine (new_any 5 (by decide) (by decide) _).mono ?_
  rintro e w1 ⟨v, rfl, ⟨g, h, rfl, H1⟩, hw1⟩
  have hz1 := hw1.size
  have hlow := H1.low2.1
  go_wp2_with fail
  refine (up_any _ _ _ _ 2 _ H1).mono ?_
  rintro e w2 ⟨rfl, H2, hg2⟩
  rw [show min (5 : Int).toNat 65536 = 5 by decide, show upB (List.replicate 5 0) 2 = true by decide +kernel]
  rw [show min (5 : Int).toNat 65536 = 5 by decide, show upL (List.replicate 5 0) 2 = [0, 0, 1, 0, 0] by decide +kernel] at H2
  have hw2 := below_write hw1 hz1 hg2 hlow
  clear hg2 hw1 hz1
  go_wp2_with fail
  refine (len_any _ _ _ _ _ H2).mono ?_
  rintro e w3 ⟨rfl, hb3⟩
  have H3 := H2.below hb3
  have hw3 := hw2.trans (hb3.mono hw2.size)
  rw [show (([0, 0, 1, 0, 0] : List Nat).length : Int) = 5 by decide]
  clear H2 hb3 hw2
  go_wp2_with fail
  refine (get_any _ _ _ _ 2 _ H3).mono ?_
  rintro e w4 ⟨rfl, hb4⟩
  rw [show ((getN [0, 0, 1, 0, 0] 2 : Nat) : Int) = 1 by decide]
  have hw4 := hw3.trans (hb4.mono hw3.size)
  go_wp2
  go_ret
  exact ⟨rfl, hw4⟩

/-- One counter of 41 is at v, the others are at 0. -/
def oneL (a v : Nat) : List Nat := (List.replicate 41 0).set a v
theorem oneL_len (a v : Nat) : (oneL a v).length = 41 := by simp [oneL]
theorem oneL_at (a v : Nat) (h : a < 41) (i : Int) : getN (oneL a v) i = if i = (a : Int) then v else 0 := by
  unfold getN oneL
  by_cases h0 : 0 ≤ i
  · obtain ⟨k, rfl⟩ := Int.eq_ofNat_of_zero_le h0
    rw [if_pos h0, Int.toNat_natCast, getD_set (by simpa using h)]
    by_cases e : k = a
    · rw [if_pos e, if_pos (by omega)]
    · rw [if_neg e, if_neg (by omega), List.getD_eq_getElem?_getD, List.getElem?_replicate]
      split <;> rfl
  · rw [if_neg h0, if_neg (by omega)]
theorem oneL_zero (a : Nat) (h : a < 41) : List.replicate 41 0 = oneL a 0 := by
  unfold oneL
  apply List.ext_getElem
  · simp
  · intro i h1 h2
    rw [List.getElem_set, List.getElem_replicate]
    split <;> rfl
theorem oneL_set (a v u : Nat) : (oneL a v).set a u = oneL a u := by simp [oneL]
theorem oneL_up (a v : Nat) (h : a < 41) (hv : v ≤ 15) : upL (oneL a v) (a : Int) = oneL a (min (v + 1) 15) := by
  unfold upL upB
  rw [oneL_at a v h, if_pos rfl, oneL_len, Int.toNat_natCast]
  by_cases e : v = 15
  · subst e
    simp
  · rw [if_pos (by simp [e]; omega), oneL_set, Nat.min_eq_left (by omega)]
theorem oneL_down (a v : Nat) (h : a < 41) (hv : v ≤ 15) : downL (oneL a v) (a : Int) = oneL a (if v = 15 then 15 else v - 1) := by
  unfold downL downB
  rw [oneL_at a v h, if_pos rfl, oneL_len, Int.toNat_natCast]
  by_cases e : v = 15
  · subst e
    simp
  · by_cases e0 : v = 0
    · subst e0
      simp
    · rw [if_pos (by simp [e, e0]; omega), oneL_set, if_neg e]
theorem oneL_full (a v : Nat) (h : a < 41) : fullN (oneL a v) = if v = 15 then 1 else 0 := by
  unfold oneL
  rw [List.set_eq_take_append_cons_drop, if_pos (by simpa using h), List.take_replicate, List.drop_replicate]
  unfold fullN
  rw [List.filter_append, List.filter_cons]
  have z : ∀ n : Nat, (List.replicate n 0).filter (fun x => x == 15) = [] := fun n => by simp
  rw [z, z]
  by_cases e : v = 15 <;> simp [e]
def after (u d : Nat) : Nat := if 15 ≤ u then 15 else u - d
set_option maxHeartbeats 2000000 in
theorem nibbleSticks_walk (m u d : Int) : Gives Try.prog 4 #[.int .i64 m, .int .i64 u, .int .i64 d] (.bool true) := by
  intro w
  have HA := Lib.hid alive7_any
  by_cases m0 : 0 ≤ m
  · by_cases m1 : m ≤ 40
    · by_cases u0 : 0 ≤ u
      · by_cases u1 : u ≤ 60
        · by_cases d0 : 0 ≤ d
          · by_cases d1 : d ≤ 60
            · obtain ⟨a, rfl⟩ := Int.eq_ofNat_of_zero_le m0
              obtain ⟨p, rfl⟩ := Int.eq_ofNat_of_zero_le u0
              obtain ⟨q, rfl⟩ := Int.eq_ofNat_of_zero_le d0
              have ha : a < 41 := by omega
              go_enter Try.func4, Try.ntmps4
              go_wp2_with fail
              refine (HA.out _).mono ?_
              rintro e0 w0 ⟨rfl, hb0⟩
              have hw0 : Below w.heap.size w w0 := by
                refine Below.trans ?_ (hb0.mono ?_)
                · go_grown
                · go_size
              have hz0 := hw0.size
              go_wp2_with fail
              refine (new_any 41 (by decide) (by decide) _).mono ?_
              rintro e w1 ⟨v, rfl, ⟨g, h, rfl, H1⟩, hb1⟩
              rw [show min (41 : Int).toNat 65536 = 41 by decide, oneL_zero a ha] at H1
              have hw1 := hw0.trans (hb1.mono hz0)
              have hz1 := hw1.size
              have hlow : w.heap.size ≤ h := Nat.le_trans hz0 H1.low2.1
              clear hb1 hw0
              go_wp2
              go_loopw [9] (fun i9 wr => ∃ i : Nat, i ≤ p ∧ i9 = .int .i64 i ∧ Nib wr w0.heap.size g h (oneL a (min i 15)) ∧ Below w.heap.size w wr) (fun i9 _ => p - (intOf i9).toNat)
              case atStart => exact ⟨0, Nat.zero_le _, rfl, H1, hw1⟩
              case round =>
                clear H1 hw1 hz1
                obtain ⟨i, hi, rfl, H1, hw1⟩ := hrel
                have hz1 := hw1.size
                by_cases hlt : i < p
                · go_wp2_with fail
                  refine (up_any _ _ _ _ a _ H1).mono ?_
                  rintro e w2 ⟨rfl, H2, hg2⟩
                  rw [oneL_up a _ ha (by omega), show min (min i 15 + 1) 15 = min (i + 1) 15 by omega] at H2
                  have hw2 := below_write hw1 hz1 hg2 hlow
                  clear hg2 hw1 hz1 H1
                  go_wp2
                  go_roundw
                  case rel => exact ⟨i + 1, by omega, by go_num, H2, hw2⟩
                  case measure => simp [intOf]; omega
                · have HI : Hid (i = p) := by show i = p; omega
                  rw [HI.out] at H1
                  go_wp2
                  go_loopw [10] (fun j10 wr2 => ∃ j : Nat, j ≤ q ∧ j10 = .int .i64 j ∧ Nib wr2 w0.heap.size g h (oneL a (after p j)) ∧ Below w.heap.size w wr2) (fun j10 _ => q - (intOf j10).toNat)
                  case atStart => exact ⟨0, Nat.zero_le _, rfl, by rw [show after p 0 = min p 15 by unfold after; split <;> omega]; exact H1, hw1⟩
                  case round =>
                    clear H1 hw1 hz1
                    obtain ⟨j, hj, rfl, H1, hw1⟩ := hrel
                    have hz1 := hw1.size
                    have haft : after p j ≤ 15 := by unfold after; split <;> omega
                    by_cases hlt2 : j < q
                    · go_wp2_with fail
                      refine (down_any _ _ _ _ a _ H1).mono ?_
                      rintro e w2 ⟨rfl, H2, hg2⟩
                      rw [oneL_down a _ ha haft, show (if after p j = 15 then 15 else after p j - 1) = after p (j + 1) by unfold after; split <;> split <;> omega] at H2
                      have hw2 := below_write hw1 hz1 hg2 hlow
                      clear hg2 hw1 hz1 H1
                      go_wp2
                      go_roundw
                      case rel => exact ⟨j + 1, by omega, by go_num, H2, hw2⟩
                      case measure => simp [intOf]; omega
                    · have HJ : Hid (j = q) := by show j = q; omega
                      rw [HJ.out] at H1 haft
                      obtain ⟨v, hv⟩ : ∃ v, v = after p q := ⟨_, rfl⟩
                      rw [← hv] at H1 haft
                      have HV := Lib.hid hv
                      clear hv
                      by_cases t1 : (p : Int) - (q : Int) < 0 <;> by_cases t2 : (15 : Int) ≤ (p : Int)
                      all_goals
                        go_wp2
                        go_loopw [12] (fun k12 wr3 => ∃ k : Nat, k ≤ 41 ∧ k12 = .int .i64 k ∧ Nib wr3 w0.heap.size g h (oneL a v) ∧ Below w.heap.size w wr3) (fun k12 _ => 41 - (intOf k12).toNat)
                        case atStart => exact ⟨0, by omega, rfl, H1, hw1⟩
                        case round =>
                          clear H1 hw1 hz1
                          obtain ⟨k, hk, rfl, H1, hw1⟩ := hrel
                          have hz1 := hw1.size
                          by_cases hlt3 : k < 41
                          · by_cases hka : k = a
                            · subst hka
                              go_wp2
                              go_roundw
                              case rel => exact ⟨k + 1, by omega, by go_num, H1, hw1⟩
                              case measure => simp [intOf]; omega
                            · have hn : (k : Int) ≠ (a : Int) := by omega
                              go_wp2_with fail
                              refine (get_any _ _ _ _ k _ H1).mono ?_
                              rintro e w2 ⟨rfl, hb2⟩
                              rw [oneL_at a v ha, if_neg hn]
                              have H2 := H1.below hb2
                              have hw2 := hw1.trans (hb2.mono hz1)
                              go_wp2
                              go_roundw
                              case rel => exact ⟨k + 1, by omega, by go_num, H2, hw2⟩
                              case measure => simp [intOf]; omega
                          · go_wp2_with fail
                            refine (get_any _ _ _ _ a _ H1).mono ?_
                            rintro e w2 ⟨rfl, hb2⟩
                            rw [oneL_at a v ha, if_pos rfl]
                            have H2 := H1.below hb2
                            have hw2 := hw1.trans (hb2.mono hz1)
                            go_wp2_with fail
                            rotate_left
                            · go_ret
                              have hv := HV.out
                              unfold after at hv
                              exfalso
                              split at hv <;> omega
                            refine (full_any _ _ _ _ _ H2).mono ?_
                            rintro e w3 ⟨rfl, hb3⟩
                            rw [oneL_full a v ha]
                            have hw3 := hw2.trans (hb3.mono hw2.size)
                            go_wp2
                            all_goals
                              go_ret
                              have hv := HV.out
                              refine ⟨ret_bool ?_, by assumption⟩
                              unfold after at hv
                              clear H1 H2 HV haft hlow
                              first
                                | (exfalso; split at hv <;> omega)
                                | (split at hv <;> simp <;> omega)
                                | trace_state
            · skip
              go_enter Try.func4, Try.ntmps4
              go_wp2_with fail
              refine (HA.out _).mono ?_
              rintro e0 w0 ⟨rfl, hb0⟩
              have hw0 : Below w.heap.size w w0 := by
                refine Below.trans ?_ (hb0.mono ?_)
                · go_grown
                · go_size
              go_wp2
              all_goals
                go_ret
                exact ⟨rfl, by go_grown⟩
          · skip
            go_enter Try.func4, Try.ntmps4
            go_wp2_with fail
            refine (HA.out _).mono ?_
            rintro e0 w0 ⟨rfl, hb0⟩
            have hw0 : Below w.heap.size w w0 := by
              refine Below.trans ?_ (hb0.mono ?_)
              · go_grown
              · go_size
            go_wp2
            all_goals
              go_ret
              exact ⟨rfl, by go_grown⟩
        · skip
          go_enter Try.func4, Try.ntmps4
          go_wp2_with fail
          refine (HA.out _).mono ?_
          rintro e0 w0 ⟨rfl, hb0⟩
          have hw0 : Below w.heap.size w w0 := by
            refine Below.trans ?_ (hb0.mono ?_)
            · go_grown
            · go_size
          go_wp2
          all_goals
            go_ret
            exact ⟨rfl, by go_grown⟩
      · skip
        go_enter Try.func4, Try.ntmps4
        go_wp2_with fail
        refine (HA.out _).mono ?_
        rintro e0 w0 ⟨rfl, hb0⟩
        have hw0 : Below w.heap.size w w0 := by
          refine Below.trans ?_ (hb0.mono ?_)
          · go_grown
          · go_size
        go_wp2
        all_goals
          go_ret
          exact ⟨rfl, by go_grown⟩
    · skip
      go_enter Try.func4, Try.ntmps4
      go_wp2_with fail
      refine (HA.out _).mono ?_
      rintro e0 w0 ⟨rfl, hb0⟩
      have hw0 : Below w.heap.size w w0 := by
        refine Below.trans ?_ (hb0.mono ?_)
        · go_grown
        · go_size
      go_wp2
      all_goals
        go_ret
        exact ⟨rfl, by go_grown⟩
  · skip
    go_enter Try.func4, Try.ntmps4
    go_wp2_with fail
    refine (HA.out _).mono ?_
    rintro e0 w0 ⟨rfl, hb0⟩
    have hw0 : Below w.heap.size w w0 := by
      refine Below.trans ?_ (hb0.mono ?_)
      · go_grown
      · go_size
    go_wp2
    all_goals
      go_ret
      exact ⟨rfl, by go_grown⟩
end Go.Proofs.Ytcogginkcnbmaaa

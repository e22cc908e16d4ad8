/-
  The given laws of chapter 10 as walks: what all of them call, and WeighTells, which hands back true for every input. No condition but that the numbers are whole numbers of 64 bits and that the row's length is one.
-/
import Derived.Test.YtdfmebfkhcdphaaW10e
set_option linter.unusedSimpArgs false
set_option linter.unusedVariables false
namespace Go.Proofs.Ytdfmebfkhcdphaa
open Go.RowKit Go.Sort M

theorem num10_any (n : Int) : Gives Try.prog 12 #[.int .i64 n] (.int .i64 n) := by
  intro w
  go_enter Try.func12, Try.ntmps12
  go_wp2
  go_ret
  exact ⟨rfl, by go_grown⟩
/-- The shares, or none; the error's number. -/
noncomputable def shX (total least : Int) (X : List Nat) : List Int := open Classical in if shOk total least X.length then shL total least X else []
noncomputable def shE (total least : Int) (n : Nat) : Int := open Classical in if shOk total least n then 0 else 1
theorem shX_len (total least : Int) (X : List Nat) : (shX total least X).length ≤ X.length := by
  unfold shX
  split
  · rw [shL_len]; exact Nat.le_refl _
  · simp
theorem shE_in (total least : Int) (n : Nat) : 0 ≤ shE total least n ∧ shE total least n ≤ 1 := by
  unfold shE
  split <;> omega
theorem shares_both (total least : Int) (p : Option Addr) (c : Nat) (X : List Nat) (w : World) (hX : Row w p (fcs X)) (hn : X.length ≤ 1000000000) :
    Calls Try.prog 8 #[.int .i64 total, .int .i64 least, .slice p X.length c] w fun e w' => ∃ q d, e = .returned (.tuple #[.slice q (shX total least X).length d, .int .i64 (shE total least X.length)]) ∧
      IRow w' q (shX total least X) ∧ Below w.heap.size w w' := by
  by_cases h : shOk total least X.length
  · unfold shX shE
    rw [if_pos h, if_pos h, shL_len]
    refine (shares_any total least p c X w hX h).mono ?_
    rintro e w' ⟨q, d, rfl, ho, hb⟩
    refine ⟨q, d, rfl, ?_, hb⟩
    rw [← shL_len total least X] at ho
    exact IRow.of_own ho
  · unfold shX shE
    rw [if_neg h, if_neg h]
    refine (shares_bad total least p c X.length w hn h).mono ?_
    rintro e w' ⟨rfl, hb⟩
    exact ⟨none, 0, rfl, .inl rfl, hb⟩
theorem rshares_both (total least : Int) (p : Option Addr) (c : Nat) (X : List Nat) (w : World) (hX : Row w p (fcs X)) (hn : X.length ≤ 1000000000) :
    Calls Try.prog 9 #[.int .i64 total, .int .i64 least, .slice p X.length c] w fun e w' => ∃ q d, e = .returned (.tuple #[.slice q (shX total least X).length d, .int .i64 (shE total least X.length)]) ∧
      IRow w' q (shX total least X) ∧ Below w.heap.size w w' := by
  by_cases h : shOk total least X.length
  · unfold shX shE
    rw [if_pos h, if_pos h, shL_len]
    refine (rshares_any total least p c X w hX h).mono ?_
    rintro e w' ⟨q, d, rfl, ho, hb⟩
    refine ⟨q, d, rfl, ?_, hb⟩
    rw [← shL_len total least X] at ho
    exact IRow.of_own ho
  · unfold shX shE
    rw [if_neg h, if_neg h]
    refine (rshares_bad total least p c X.length w hn h).mono ?_
    rintro e w' ⟨rfl, hb⟩
    exact ⟨none, 0, rfl, .inl rfl, hb⟩
theorem shOk_one : shOk 10 1 1 := by unfold shOk; omega
theorem shL_one : shL 10 1 [4607182418800017408] = [10] := by decide +kernel
theorem wt_two : wtN 4612811918334230528 = 2 := by decide +kernel
set_option maxHeartbeats 1000000 in
theorem alive10_any : Gives Try.prog 7 #[] (.bool true) := by
  intro w
  have hs := fun p c wx h => shares_any 10 1 p c [4607182418800017408] wx h shOk_one
  rw [shL_one] at hs
  have HS : Hid (∀ (p : Option Addr) (c : Nat) (wx : World), Row wx p (fcs [4607182418800017408]) → Calls Try.prog 8 #[.int .i64 10, .int .i64 1, .slice p 1 c] wx fun e w' => ∃ q d, e = .returned (.tuple #[.slice q 1 d, .int .i64 0]) ∧
      w'.ownsRow wx.heap.size 3 1 (.slice q 1 d) 1 (ics [10]) ∧ Below wx.heap.size wx w') := Lib.hid hs
  have hw := weight_any 4612811918334230528
  rw [wt_two, fl_two] at hw
  have HW := Lib.hid hw
  have HN := Lib.hid (num10_any 0)
  have h2 : (FloatKind.f64.format.order 4611686018427387904 4611686018427387904 == some .eq) = true := by decide +kernel
  clear hs hw
  go_enter Try.func7, Try.ntmps7
  go_wp2_with fail
  refine (HS.out _ _ _ ?_).mono ?_
  · refine .inr ⟨_, 0, rfl, by simp, fun j u hj => ?_⟩
    match j, hj with
    | 0, hj =>
      simp only [fcs, List.map_cons, List.map_nil, List.getElem?_cons_zero, Option.some.injEq] at hj
      subst hj
      simp [go_sem]
  rintro e w1 ⟨q, d, rfl, hown, hb1⟩
  obtain ⟨g, o, rfl, hg, c0⟩ := (IRow.of_own hown).at (k := 0) (by decide)
  have hw1 : Below w.heap.size w w1 := Below.trans (by go_grown) (hb1.mono (by go_size))
  clear hb1 hown
  rw [Nat.add_zero] at c0
  change w1.cell? ⟨g, o, none⟩ = some (.int .i64 10) at c0
  go_wp2_with fail
  refine (HN.out _).mono ?_
  rintro e w2 ⟨rfl, hb2⟩
  have hs1 := hw1.size
  obtain ⟨hc2, hf2⟩ := bcell hb2
  have c0 := (hc2 _ _ (by omega)).trans c0
  have hw1 := Below.trans hw1 (hb2.mono (by omega))
  have hg := Nat.lt_of_lt_of_le hg hb2.size
  clear hc2 hf2 hb2
  have hs2 := hw1.size
  go_wp2_with fail
  refine (HW.out _).mono ?_
  rintro e w3 ⟨rfl, hb3⟩
  obtain ⟨hc3, hf3⟩ := bcell hb3
  have c0 := (hc3 _ _ (by omega)).trans c0
  have hw1 := Below.trans hw1 (hb3.mono (by omega))
  have hg := Nat.lt_of_lt_of_le hg hb3.size
  clear hc3 hf3 hb3
  go_wp2
  go_ret
  exact ⟨rfl, by go_grown⟩
end Go.Proofs.Ytdfmebfkhcdphaa

/-
  The given laws of chapter 13 as walks: the example, and HopsLeft, hand back true, for every input. No condition.
-/
import Derived.Test.YtipconmghjohpaaHops2
set_option linter.unusedSimpArgs false
set_option linter.unusedVariables false
namespace Go.Proofs.Ytipconmghjohpaa
open Go.RowKit Go.Sort Go.Maps M

theorem wf_nat (i : Nat) (h : i ≤ 1000000) : (Lit.int .i64 (i : Int)).wf = true := WalkArith.wf_i64 (by omega)
theorem hup_yes {U : Int → Nat} {c : Nat} {most x : Int} (h0 : 0 ≤ x) (h : 0 < U x ∨ (c : Int) < most) : hupB U c most x = true := by
  unfold hupB
  rcases h with h | h <;> simp [h0, h]
theorem hup_not {U : Int → Nat} {c : Nat} {most x : Int} (h : U x = 0) (h1 : ¬ (c : Int) < most) : hupB U c most x = false := by
  unfold hupB
  simp [h, h1]
set_option maxHeartbeats 1000000 in
theorem alive13_any : Gives Try.prog 5 #[] (.bool true) := by
  intro w
  go_enter Try.func5, Try.ntmps5
  go_wp2_with fail
  refine (hnew_any 2 _).mono ?_
  rintro e w1 ⟨v, rfl, ⟨g, b, rfl, H1⟩, hw1⟩
  have hz1 := hw1.size
  go_wp2_with fail
  refine (hcount_any _ _ _ _ _ _ _ _ H1).mono ?_
  rintro e w2 ⟨rfl, hb2⟩
  have H2 := H1.below hb2
  have hw2 := hw1.trans (hb2.mono hz1)
  clear H1 hb2 hw1 hz1
  go_wp2_with fail
  refine (hup_any _ _ _ _ _ _ _ 5 (by decide) (by decide) _ H2).mono ?_
  rintro e w3 ⟨rfl, H3, hg3⟩
  have hu : hupB (fun _ => 0) 0 (capH 2) 5 = true := by decide
  rw [show hupU (fun _ => 0) 0 (capH 2) 5 = updU (fun _ => 0) 5 1 by simp [hupU, hu], show hupC (fun _ => 0) 0 (capH 2) 5 = 1 by simp [hupC, hu]] at H3
  rw [hu]
  have hw3 := below_write hw2 hw2.size hg3 H2.low2
  clear hg3 hw2 H2 hu
  go_wp2_with fail
  refine (hcount_any _ _ _ _ _ _ _ _ H3).mono ?_
  rintro e w4 ⟨rfl, hb4⟩
  have H4 := H3.below hb4
  have hw4 := hw3.trans (hb4.mono hw3.size)
  go_wp2_with fail
  refine (huses_any _ _ _ _ _ _ _ 5 (by decide) _ H4).mono ?_
  rintro e w5 ⟨rfl, hb5⟩
  have hw5 := hw4.trans (hb5.mono hw4.size)
  rw [updU_same]
  go_wp2
  go_ret
  exact ⟨rfl, hw5⟩

/-- The numbers below i have u uses each, i has k. -/
def levU (u i k : Nat) : Int → Nat := fun y => if 0 ≤ y ∧ y < (i : Int) then u else if y = (i : Int) then k else 0
theorem levU_zero (u : Nat) : (fun _ => 0) = levU u 0 0 := by
  funext y
  unfold levU
  split
  · omega
  · split <;> rfl
theorem levU_at (u i k : Nat) : levU u i k (i : Int) = k := by
  unfold levU
  rw [if_neg (by omega), if_pos rfl]
theorem levU_up (u i k : Nat) : updU (levU u i k) (i : Int) (k + 1) = levU u i (k + 1) := by
  funext y
  unfold updU levU
  by_cases h : y = (i : Int)
  · rw [if_pos h, if_neg (by omega), if_pos h]
  · rw [if_neg h, if_neg h, if_neg h]
theorem levU_next (u i : Nat) : levU u i u = levU u (i + 1) 0 := by
  funext y
  unfold levU
  by_cases h : 0 ≤ y ∧ y < (i : Int)
  · rw [if_pos h, if_pos (by omega)]
  · rw [if_neg h]
    by_cases h2 : y = (i : Int)
    · rw [if_pos h2, if_pos (by omega)]
    · rw [if_neg h2, if_neg (by omega)]
      split <;> rfl
/-- How many have some. -/
def levC (i k : Nat) : Nat := if 0 < k then i + 1 else i
theorem lev_up {u i k n : Nat} (hi : i < n) : hupB (levU u i k) (levC i k) (n : Int) (i : Int) = true ∧ hupU (levU u i k) (levC i k) (n : Int) (i : Int) = levU u i (k + 1) ∧ hupC (levU u i k) (levC i k) (n : Int) (i : Int) = levC i (k + 1) := by
  have h : hupB (levU u i k) (levC i k) (n : Int) (i : Int) = true := by
    refine hup_yes (by omega) ?_
    rw [levU_at]
    by_cases hk : 0 < k
    · exact .inl hk
    · right
      unfold levC
      rw [if_neg hk]
      omega
  refine ⟨h, ?_, ?_⟩
  · unfold hupU
    rw [if_pos h, levU_at, levU_up]
  · unfold hupC
    rw [if_pos h, levU_at]
    unfold levC
    split <;> rfl
set_option maxHeartbeats 4000000 in
theorem hopsLeft_walk (m0 u0 : Int) : Gives Try.prog 4 #[.int .i64 m0, .int .i64 u0] (.bool true) := by
  intro w
  have HA := Lib.hid alive13_any
  by_cases a0 : m0 < 1
  · skip
    go_enter Try.func4, Try.ntmps4
    go_wp2_with fail
    refine (HA.out _).mono ?_
    rintro e0 w0 ⟨rfl, hb0⟩
    have hw0 : Below w.heap.size w w0 := by
      refine Below.trans ?_ (hb0.mono ?_)
      · go_grown
      · go_size
    go_wp2
    all_goals
      go_ret
      exact ⟨rfl, by go_grown⟩
  · by_cases a1 : m0 > 60
    · skip
      go_enter Try.func4, Try.ntmps4
      go_wp2_with fail
      refine (HA.out _).mono ?_
      rintro e0 w0 ⟨rfl, hb0⟩
      have hw0 : Below w.heap.size w w0 := by
        refine Below.trans ?_ (hb0.mono ?_)
        · go_grown
        · go_size
      go_wp2
      all_goals
        go_ret
        exact ⟨rfl, by go_grown⟩
    · by_cases b0 : u0 < 1
      · skip
        go_enter Try.func4, Try.ntmps4
        go_wp2_with fail
        refine (HA.out _).mono ?_
        rintro e0 w0 ⟨rfl, hb0⟩
        have hw0 : Below w.heap.size w w0 := by
          refine Below.trans ?_ (hb0.mono ?_)
          · go_grown
          · go_size
        go_wp2
        all_goals
          go_ret
          exact ⟨rfl, by go_grown⟩
      · by_cases b1 : u0 > 20
        · skip
          go_enter Try.func4, Try.ntmps4
          go_wp2_with fail
          refine (HA.out _).mono ?_
          rintro e0 w0 ⟨rfl, hb0⟩
          have hw0 : Below w.heap.size w w0 := by
            refine Below.trans ?_ (hb0.mono ?_)
            · go_grown
            · go_size
          go_wp2
          all_goals
            go_ret
            exact ⟨rfl, by go_grown⟩
        · obtain ⟨n, rfl⟩ := Int.eq_ofNat_of_zero_le (show 0 ≤ m0 by omega)
          obtain ⟨u, rfl⟩ := Int.eq_ofNat_of_zero_le (show 0 ≤ u0 by omega)
          have HCAP : Hid (capH (n : Int) = (n : Int)) := by show capH (n : Int) = (n : Int); unfold capH; omega
          go_enter Try.func4, Try.ntmps4
          go_wp2_with fail
          refine (HA.out _).mono ?_
          rintro e0 w0 ⟨rfl, hb0⟩
          have hw0 : Below w.heap.size w w0 := by
            refine Below.trans ?_ (hb0.mono ?_)
            · go_grown
            · go_size
          have hz0 := hw0.size
          go_wp2_with fail
          refine (hnew_any _ _).mono ?_
          rintro e w1 ⟨v, rfl, ⟨g, b, rfl, H1⟩, hb1⟩
          rw [HCAP.out, levU_zero u] at H1
          replace H1 := H1.le hz0
          have hw1 := hw0.trans (hb1.mono hz0)
          clear hb1 hz0 hw0
          go_wp2
          go_loopw [7] (fun i7 wr => ∃ i : Nat, i ≤ n ∧ i7 = .int .i64 i ∧ Hps wr w.heap.size g b (n : Int) (levU u i 0) (levC i 0) (20 * i) ∧ Below w.heap.size w wr) (fun i7 _ => n - (intOf i7).toNat)
          case atStart => exact ⟨0, Nat.zero_le _, rfl, H1, hw1⟩
          case round =>
            clear H1 hw1
            obtain ⟨i, hi, rfl, H1, hw1⟩ := hrel
            by_cases hlt : i < n
            · go_wp2
              rename World => wo
              go_loopw [8] (fun k8 wr => ∃ k : Nat, k ≤ u ∧ k8 = .int .i64 k ∧ Hps wr w.heap.size g b (n : Int) (levU u i k) (levC i k) (20 * i + k) ∧ Below w.heap.size w wr) (fun k8 _ => u - (intOf k8).toNat)
              case atStart => exact ⟨0, Nat.zero_le _, rfl, H1, hw1⟩
              case round =>
                clear H1 hw1
                obtain ⟨k, hk, rfl, H1, hw1⟩ := hrel
                by_cases hlk : k < u
                · have HU := Lib.hid (lev_up (u := u) (k := k) hlt)
                  go_wp2_with fail
                  refine (hup_any _ _ _ _ _ _ _ (i : Int) (wf_nat i (by omega)) (by omega) _ H1).mono ?_
                  rintro e w2 ⟨rfl, H2, hg2⟩
                  rw [HU.out.2.1, HU.out.2.2] at H2
                  rw [HU.out.1]
                  have hw2 := below_write hw1 hw1.size hg2 H1.low2
                  clear H1 hw1 hg2
                  go_wp2
                  go_roundw
                  case rel => exact ⟨k + 1, by omega, by go_num, H2, hw2⟩
                  case measure => simp [intOf]; omega
                · obtain rfl : k = u := by omega
                  rw [levU_next] at H1
                  have hc : levC i k = levC (i + 1) 0 := by unfold levC; rw [if_pos (by omega), if_neg (by omega)]
                  rw [hc] at H1
                  replace H1 := H1.more (show 20 * i + k ≤ 20 * (i + 1) by omega)
                  clear hc
                  go_wp2
                  go_roundw
                  case rel => exact ⟨i + 1, by omega, by go_num, H1, hw1⟩
                  case measure => simp [intOf]; omega
            · obtain rfl : i = n := by omega
              have hc : levC i 0 = i := by unfold levC; rw [if_neg (by omega)]
              rw [hc] at H1
              have hno : hupB (levU u i 0) i (i : Int) (i : Int) = false := hup_not (levU_at _ _ _) (by omega)
              have hno1 : hupU (levU u i 0) i (i : Int) (i : Int) = levU u i 0 := by simp [hupU, hno]
              have hno2 : hupC (levU u i 0) i (i : Int) (i : Int) = i := by simp [hupC, hno]
              have HNO := Lib.hid (And.intro hno (And.intro hno1 hno2))
              clear hc hno hno1 hno2
              go_wp2_with fail
              refine (hup_any _ _ _ _ _ _ _ (i : Int) (wf_nat i (by omega)) (by omega) _ H1).mono ?_
              rintro e w2 ⟨rfl, H2, hg2⟩
              rw [HNO.out.2.1, HNO.out.2.2] at H2
              rw [HNO.out.1]
              have hw2 := below_write hw1 hw1.size hg2 H1.low2
              clear H1 hw1 hg2 HNO
              go_wp2_with fail
              refine (hcount_any _ _ _ _ _ _ _ _ H2).mono ?_
              rintro e w3 ⟨rfl, hb3⟩
              have H3 := H2.below hb3
              have hw3 := hw2.trans (hb3.mono hw2.size)
              clear H2 hb3 hw2
              go_wp2
              go_loopw [9] (fun k9 wr => ∃ (k : Nat) (U : Int → Nat) (c m : Nat), k ≤ u ∧ k9 = .int .i64 k ∧ Hid (U 0 = u - k ∧ U (i : Int) = 0 ∧ c = if k = u then i - 1 else i) ∧ m ≤ 1201 + 2 * k ∧ Hps wr w.heap.size g b (i : Int) U c m ∧ Below w.heap.size w wr) (fun k9 _ => u - (intOf k9).toNat)
              case atStart =>
                refine ⟨0, _, _, _, Nat.zero_le _, rfl, Lib.hid ⟨?_, levU_at _ _ _, ?_⟩, by omega, H3, hw3⟩
                · unfold levU
                  rw [if_pos (by omega)]
                  rfl
                · rw [if_neg (by omega)]
              case round =>
                clear H3 hw3
                obtain ⟨k, U, c, m, hk, rfl, HF, hm, H1, hw1⟩ := hrel
                by_cases hlk : k < u
                · have hf := HF.out
                  rw [if_neg (by omega)] at hf
                  obtain ⟨f1, f2, rfl⟩ := hf
                  have hno : hupB U c (c : Int) (c : Int) = false := hup_not f2 (by omega)
                  have hno1 : hupU U c (c : Int) (c : Int) = U := by simp [hupU, hno]
                  have hno2 : hupC U c (c : Int) (c : Int) = c := by simp [hupC, hno]
                  have HNO := Lib.hid (And.intro hno (And.intro hno1 hno2))
                  have HP : Hid (0 < U 0) := by show 0 < U 0; omega
                  have HF1 := Lib.hid f1
                  have HF2 := Lib.hid f2
                  clear hno hno1 hno2 f1 f2 HF
                  go_wp2_with fail
                  refine (hup_any _ _ _ _ _ _ _ (c : Int) (wf_nat c (by omega)) (by omega) _ H1).mono ?_
                  rintro e w2 ⟨rfl, H2, hg2⟩
                  rw [HNO.out.2.1, HNO.out.2.2] at H2
                  rw [HNO.out.1]
                  have hw2 := below_write hw1 hw1.size hg2 H1.low2
                  clear H1 hw1 hg2 HNO
                  go_wp2_with fail
                  refine (hdown_any _ _ _ _ _ _ _ 0 (by decide) (by omega) _ H2).mono ?_
                  rintro e w3 ⟨rfl, H3, hg3⟩
                  rw [decide_eq_true HP.out]
                  have hw3 := below_write hw2 hw2.size hg3 H2.low2
                  clear H2 hw2 hg3
                  go_wp2
                  go_roundw
                  case rel =>
                    refine ⟨k + 1, _, _, _, by omega, by go_num, Lib.hid ⟨?_, ?_, ?_⟩, ?_, H3, hw3⟩
                    · rw [updU_same, HF1.out]
                      omega
                    · rw [updU_other _ _ (by omega), HF2.out]
                    · unfold hdnC
                      rw [HF1.out]
                      by_cases e : k + 1 = u
                      · rw [if_pos e, if_pos (by omega)]
                      · rw [if_neg e, if_neg (by omega)]
                    · omega
                  case measure => simp [intOf]; omega
                · obtain ⟨f1, f2, f3⟩ := HF.out
                  obtain rfl : k = u := by omega
                  rw [if_pos rfl] at f3
                  rw [Nat.sub_self] at f1
                  have hyes : hupB U c (i : Int) (i : Int) = true := hup_yes (by omega) (.inr (by omega))
                  have hy1 : hupU U c (i : Int) (i : Int) = updU U (i : Int) 1 := by simp [hupU, hyes, f2]
                  have hy2 : hupC U c (i : Int) (i : Int) = i := by simp [hupC, hyes, f2]; omega
                  have hno : hupB (updU U (i : Int) 1) i (i : Int) 0 = false := hup_not (by rw [updU_other _ _ (by omega), f1]) (by omega)
                  have hno1 : hupU (updU U (i : Int) 1) i (i : Int) 0 = updU U (i : Int) 1 := by simp [hupU, hno]
                  have hno2 : hupC (updU U (i : Int) 1) i (i : Int) 0 = i := by simp [hupC, hno]
                  have hq : updU U (i : Int) 1 0 = 0 := by rw [updU_other _ _ (by omega), f1]
                  have hq2 : hdnC (updU U (i : Int) 1) i 0 = i := by simp [hdnC, hq]
                  have HY := Lib.hid (And.intro hyes (And.intro hy1 hy2))
                  have HNO := Lib.hid (And.intro hno (And.intro hno1 hno2))
                  have HQ := Lib.hid (And.intro hq hq2)
                  clear hyes hy1 hy2 hno hno1 hno2 hq hq2 f1 f2 f3 HF
                  go_wp2_with fail
                  refine (hup_any _ _ _ _ _ _ _ (i : Int) (wf_nat i (by omega)) (by omega) _ H1).mono ?_
                  rintro e w2 ⟨rfl, H2, hg2⟩
                  rw [HY.out.2.1, HY.out.2.2] at H2
                  rw [HY.out.1]
                  have hw2 := below_write hw1 hw1.size hg2 H1.low2
                  clear H1 hw1 hg2 HY
                  go_wp2_with fail
                  refine (hup_any _ _ _ _ _ _ _ 0 (by decide) (by omega) _ H2).mono ?_
                  rintro e w3 ⟨rfl, H3, hg3⟩
                  rw [HNO.out.2.1, HNO.out.2.2] at H3
                  rw [HNO.out.1]
                  have hw3 := below_write hw2 hw2.size hg3 H2.low2
                  clear H2 hw2 hg3 HNO
                  go_wp2_with fail
                  refine (hdown_any _ _ _ _ _ _ _ 0 (by decide) (by omega) _ H3).mono ?_
                  rintro e w4 ⟨rfl, H4, hg4⟩
                  rw [HQ.out.2, HQ.out.1, show updU (updU U (i : Int) 1) 0 (0 - 1) = updU U (i : Int) 1 by have := updU_id (updU U (i : Int) 1) 0; rwa [HQ.out.1] at this] at H4
                  rw [HQ.out.1, show decide (0 < 0) = false by decide]
                  have hw4 := below_write hw3 hw3.size hg4 H3.low2
                  clear H3 hw3 hg4
                  go_wp2_with fail
                  refine (hcount_any _ _ _ _ _ _ _ _ H4).mono ?_
                  rintro e w5 ⟨rfl, hb5⟩
                  have H5 := H4.below hb5
                  have hw5 := hw4.trans (hb5.mono hw4.size)
                  clear H4 hb5 hw4
                  go_wp2_with fail
                  refine (huses_any _ _ _ _ _ _ _ 0 (by decide) _ H5).mono ?_
                  rintro e w6 ⟨rfl, hb6⟩
                  rw [HQ.out.1]
                  have hw6 := hw5.trans (hb6.mono hw5.size)
                  go_wp2
                  go_ret
                  exact ⟨rfl, hw6⟩
end Go.Proofs.Ytipconmghjohpaa

/-
  The given laws of chapter 6 as walks, continued: PickEven hands back true, for every input. No condition.
-/
import Derived.Test.YtbffapnohnfgdaaL6
set_option linter.unusedSimpArgs false
set_option linter.unusedVariables false
namespace Go.Proofs.Ytbffapnohnfgdaa
open Go.RowKit Go.Sort M

/-- How many of the first i numbers lie in each place. -/
def cntL (a c i : Nat) : List Int := (List.range a).map fun j => ((cntN c j i : Nat) : Int)
theorem cntL_len (a c i : Nat) : (cntL a c i).length = a := by simp [cntL]
theorem cntL_at (a c i j : Nat) (h : j < a) : (ics (cntL a c i))[j]? = some (.int .i64 (cntN c j i : Nat)) := by simp [ics, cntL, h]
theorem cntL_start (a c : Nat) : ics (cntL a c 0) = (madeCells #[.int .i64 0] a).toList := by
  apply List.ext_getElem?
  intro j
  by_cases h : j < a
  · rw [cntL_at a c 0 j h, cntN_start]
    simp [madeCells, h, Nat.mod_one]
  · rw [List.getElem?_eq_none (by rw [ics_len, cntL_len]; omega), List.getElem?_eq_none (by simp [madeCells]; omega)]
theorem cntN_next (k j i : Nat) (hk : 0 < k) : cntN k j (i + 1) = cntN k j i + if j = (i - 1) / k then 1 else 0 := by
  by_cases hi : 1 ≤ i
  · exact cntN_step k j i hk hi
  · obtain rfl : i = 0 := by omega
    rw [cntN_zero, cntN_start, Nat.zero_sub, Nat.zero_div, Nat.zero_add]
theorem cntL_set (a c i : Nat) (hc : 0 < c) : (ics (cntL a c i)).set ((i - 1) / c) (.int .i64 ((cntN c ((i - 1) / c) i : Nat) + 1)) = ics (cntL a c (i + 1)) := by
  apply List.ext_getElem?
  intro j
  rw [List.getElem?_set, ics_len, cntL_len]
  by_cases h : j < a
  · rw [cntL_at a c (i + 1) j h, cntN_next c j i hc]
    by_cases e : (i - 1) / c = j
    · rw [if_pos e, if_pos (by omega), if_pos e.symm, e]
      rfl
    · rw [if_neg e, if_neg (fun h => e h.symm), cntL_at a c i j h]
      rfl
  · rw [List.getElem?_eq_none (l := ics (cntL a c (i + 1))) (by rw [ics_len, cntL_len]; omega)]
    by_cases e : (i - 1) / c = j
    · rw [if_pos e, if_neg (by rw [e]; exact h)]
    · rw [if_neg e, List.getElem?_eq_none (by rw [ics_len, cntL_len]; omega)]
theorem cntN_le (c j i : Nat) : cntN c j i ≤ c + 1 := by
  unfold cntN
  split <;> omega
/-- Where number i lies. -/
theorem place_at (a c i : Nat) (ha0 : 1 ≤ a) (ha : a ≤ 60) (hc0 : 1 ≤ c) (hc : c ≤ 20) (hi : i < a * c) : redN (i * ((2 ^ 64 - 1) / (a * c))) a = (i - 1) / c := by
  by_cases h : 1 ≤ i
  · exact place_eq a c i ha0 ha hc0 hc h hi
  · obtain rfl : i = 0 := by omega
    rw [Nat.zero_mul, redN_zero, Nat.zero_sub, Nat.zero_div]
theorem place_in (a c i : Nat) (ha : 0 < a) (hc0 : 0 < c) (hi : i < a * c) : (i - 1) / c < a := by
  rw [Nat.div_lt_iff_lt_mul hc0]
  omega

set_option maxHeartbeats 1000000 in
theorem pickEven_walk (m k : Int) : Gives Try.prog 5 #[.int .i64 m, .int .i64 k] (.bool true) := by
  intro w
  have HA := Lib.hid alive6_any
  by_cases m0 : 1 ≤ m
  · by_cases m1 : m ≤ 60
    · by_cases k0 : 1 ≤ k
      · by_cases k1 : k ≤ 20
        · obtain ⟨a, rfl⟩ := Int.eq_ofNat_of_zero_le (show 0 ≤ m by omega)
          obtain ⟨c, rfl⟩ := Int.eq_ofNat_of_zero_le (show 0 ≤ k by omega)
          have ha : a ≤ 60 := by omega
          have hc : c ≤ 20 := by omega
          have ha0 : 1 ≤ a := by omega
          have hc0 : 1 ≤ c := by omega
          have hmk := make_row (P := Try.prog) (t := 32) Try.underlying32 infoI a (by omega) (by unfold maxLen; omega)
          obtain ⟨N, hN⟩ : ∃ N, N = a * c := ⟨_, rfl⟩
          have hN0 : 1 ≤ N := by rw [hN]; exact Nat.mul_pos ha0 hc0
          have hN1 : N ≤ 1200 := by rw [hN]; exact Nat.mul_le_mul ha hc
          obtain ⟨S, hS⟩ : ∃ S, S = 18446744073709551615 / N := ⟨_, rfl⟩
          have hS1 : N * S ≤ 18446744073709551615 := by rw [hS]; exact Nat.mul_div_le _ _
          have hS2 : S ≤ 18446744073709551615 := by rw [hS]; exact Nat.div_le_self _ _
          have q0 : IntKind.u64.wrap (wrap64 ((a : Int) * (c : Int))) = (N : Int) := by
            rw [mulC, ← hN, IntWalk.wrap64_in _ (by omega), wrapU _ (by omega)]
          have q1 : IntKind.u64.wrap (Int.tdiv 18446744073709551615 (N : Int)) = (S : Int) := by
            rw [show Int.tdiv 18446744073709551615 (N : Int) = ((18446744073709551615 / N : Nat) : Int) from rfl, ← hS, wrapU _ (by omega)]
          have q2 : ((N : Int) == 0) = false := by simp; omega
          have HN := Lib.hid hN
          have HS := Lib.hid hS
          have HS1 := Lib.hid hS1
          clear hN hS hS1 hS2
          go_enter Try.func5, Try.ntmps5
          go_wp2_with fail
          refine (HA.out _).mono ?_
          rintro e0 w0 ⟨rfl, hb0⟩
          have hw0 : Below w.heap.size w w0 := by
            refine Below.trans ?_ (hb0.mono ?_)
            · go_grown
            · go_size
          have hz0 := hw0.size
          have hown0 : (w0.alloc (.cells (madeCells #[.int .i64 0] a) 3)).ownsRow w.heap.size 3 1 (.slice (some ⟨w0.heap.size, 0, none⟩) a a) a (ics (cntL a c 0)) := by
            rw [cntL_start]
            exact World.ownsRow_lit _ _ a (by omega) (by unfold maxLen; omega) (by simp [madeCells])
          go_wp2_with (first | rw [q0] | rw [q1] | fail)
          go_loopw [9] (fun i9 wr => ∃ (i : Nat), i ≤ N ∧ i9 = .int .u64 i ∧ wr.ownsRow w.heap.size 3 1 (.slice (some ⟨w0.heap.size, 0, none⟩) a a) a (ics (cntL a c i)) ∧ Below w.heap.size w wr) (fun i9 _ => N - (intOf i9).toNat)
          case atStart => exact ⟨0, Nat.zero_le _, rfl, hown0, by go_grown⟩
          case round =>
            clear hown0 hw0 hb0
            obtain ⟨i, hi, rfl, hown, hw1⟩ := hrel
            have hz1 := hw1.size
            by_cases hlt : i < N
            · have hiN : i * S ≤ 18446744073709551615 := Nat.le_trans (Nat.mul_le_mul_right S (Nat.le_of_lt hlt)) HS1.out
              have r0 : IntKind.u64.wrap ((i : Int) * (S : Int)) = ((i * S : Nat) : Int) := by rw [mulC, wrapU _ (by omega)]
              have hr := red_any (i * S) a (W64.mk (by omega)) (by omega)
              have hp := place_at a c i ha0 ha hc0 hc (by rw [← HN.out]; exact hlt)
              simp only [Nat.reducePow, Nat.reduceSub] at hp
              rw [← HN.out, ← HS.out] at hp
              rw [redI_nat _ a (by omega), hp] at hr
              have hq := place_in a c i ha0 hc0 (by rw [← HN.out]; exact hlt)
              have hset := cntL_set a c i hc0
              have hat := cntL_at a c i _ hq
              have hcl := cntN_le c ((i - 1) / c) i
              generalize (i - 1) / c = q at hr hq hset hat hcl
              generalize cntN c q i = u at hset hat hcl
              rw [← r0] at hr
              have HR := Lib.hid hr
              have HSET := Lib.hid hset
              have HAT := Lib.hid hat
              clear hr hp hset hat hiN r0
              go_wp2_with fail
              refine (HR.out _).mono ?_
              rintro e w2 ⟨rfl, hb2⟩
              have hgz := (hown.lt w0.heap.size rfl).2
              have hgz2 : w0.heap.size < w2.heap.size := Nat.lt_of_lt_of_le hgz hb2.size
              have hown2 := own_below hown hb2
              have hw2 := hw1.trans (hb2.mono hz1)
              have d0 : w2.cell? ⟨w0.heap.size, q, none⟩ = some (.int .i64 u) := (hown2.cellAt q (by omega)).trans HAT.out
              have f0 := hown2.frozenAt q
              have s0 : wrap64 ((u : Int) + 1) = (u : Int) + 1 := IntWalk.wrap64_in _ (by omega)
              clear hown hb2 hw1 hz1
              go_wp2
              go_roundw
              case rel =>
                refine ⟨i + 1, by omega, by go_num, ?_, by go_grown⟩
                have := (hown2.stored q (.int .i64 ((u : Int) + 1))).1
                rw [HSET.out] at this
                exact this
              case measure => simp [intOf]; omega
            · have HI : Hid (i = N) := Lib.hid (by omega)
              go_wp2
              go_loopw [11] (fun j11 wr2 => ∃ (j : Nat), j ≤ a ∧ j11 = .int .i64 j ∧ wr2.ownsRow w.heap.size 3 1 (.slice (some ⟨w0.heap.size, 0, none⟩) a a) a (ics (cntL a c i)) ∧ Below w.heap.size w wr2) (fun j11 _ => a - (intOf j11).toNat)
              case atStart => exact ⟨0, Nat.zero_le _, rfl, hown, hw1⟩
              case round =>
                clear hown hw1 hz1
                obtain ⟨j, hj, rfl, hown, hw1⟩ := hrel
                have hz1 := hw1.size
                by_cases hlt2 : j < a
                · have hend := cntN_end a c j hlt2 hc0
                  rw [← HN.out, ← HI.out] at hend
                  have hat := cntL_at a c i j hlt2
                  generalize cntN c j i = u at hend hat
                  obtain ⟨u0, u1⟩ := hend
                  have HAT := Lib.hid hat
                  clear hat
                  have hgz := (hown.lt w0.heap.size rfl).2
                  have d0 : wr.cell? ⟨w0.heap.size, j, none⟩ = some (.int .i64 u) := (hown.cellAt j (by omega)).trans HAT.out
                  go_wp2
                  go_roundw
                  case rel => exact ⟨j + 1, by omega, by go_num, hown, hw1⟩
                  case measure => simp [intOf]; omega
                · go_wp2
                  go_ret
                  exact ⟨rfl, hw1⟩
        · skip
          go_enter Try.func5, Try.ntmps5
          go_wp2_with fail
          refine (HA.out _).mono ?_
          rintro e0 w0 ⟨rfl, hb0⟩
          have hw0 : Below w.heap.size w w0 := by
            refine Below.trans ?_ (hb0.mono ?_)
            · go_grown
            · go_size
          go_wp2
          all_goals
            go_ret
            exact ⟨rfl, by go_grown⟩
      · skip
        go_enter Try.func5, Try.ntmps5
        go_wp2_with fail
        refine (HA.out _).mono ?_
        rintro e0 w0 ⟨rfl, hb0⟩
        have hw0 : Below w.heap.size w w0 := by
          refine Below.trans ?_ (hb0.mono ?_)
          · go_grown
          · go_size
        go_wp2
        all_goals
          go_ret
          exact ⟨rfl, by go_grown⟩
    · skip
      go_enter Try.func5, Try.ntmps5
      go_wp2_with fail
      refine (HA.out _).mono ?_
      rintro e0 w0 ⟨rfl, hb0⟩
      have hw0 : Below w.heap.size w w0 := by
        refine Below.trans ?_ (hb0.mono ?_)
        · go_grown
        · go_size
      go_wp2
      all_goals
        go_ret
        exact ⟨rfl, by go_grown⟩
  · skip
    go_enter Try.func5, Try.ntmps5
    go_wp2_with fail
    refine (HA.out _).mono ?_
    rintro e0 w0 ⟨rfl, hb0⟩
    have hw0 : Below w.heap.size w w0 := by
      refine Below.trans ?_ (hb0.mono ?_)
      · go_grown
      · go_size
    go_wp2
    all_goals
      go_ret
      exact ⟨rfl, by go_grown⟩
end Go.Proofs.Ytbffapnohnfgdaa

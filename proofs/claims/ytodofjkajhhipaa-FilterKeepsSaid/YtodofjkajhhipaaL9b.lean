/-
  The given laws of chapter 9 as walks: FilterKeeps hands back true, for every input. No condition but that the numbers are whole numbers of 64 bits and that the rows of keys lie in old memory.
-/
import Derived.Test.YtodofjkajhhipaaL9
set_option linter.unusedSimpArgs false
set_option linter.unusedVariables false
namespace Go.Proofs.Ytodofjkajhhipaa
open Go.RowKit Go.Sort M

section
variable (s : Nat) (k : Int) (M : Nat) (S G : List Key) (i : Nat)
theorem both_step (hS : i < S.length) (hG : i < G.length) : tally M ((flat s k M (S.take i) ++ flat s k M (G.take i) ++ plk s k M G[i]) ++ plk s k M S[i]) = tally M (flat s k M (S.take (i + 1)) ++ flat s k M (G.take (i + 1))) := by
  rw [flat_snoc s k M S i hS, flat_snoc s k M G i hG]
  refine tally_same fun x => ?_
  simp only [List.count_append]
  omega
theorem left_step (hS : i < S.length) (hG : ¬ i < G.length) : tally M ((flat s k M (S.take i) ++ flat s k M (G.take i)) ++ plk s k M S[i]) = tally M (flat s k M (S.take (i + 1)) ++ flat s k M (G.take (i + 1))) := by
  rw [flat_snoc s k M S i hS, flat_all s k M G i (by omega), flat_all s k M G (i + 1) (by omega)]
  refine tally_same fun x => ?_
  simp only [List.count_append]
  omega
theorem right_step (hS : ¬ i < S.length) (hG : i < G.length) : tally M ((flat s k M (S.take i) ++ flat s k M (G.take i)) ++ plk s k M G[i]) = tally M (flat s k M (S.take (i + 1)) ++ flat s k M (G.take (i + 1))) := by
  rw [flat_snoc s k M G i hG, flat_all s k M S i (by omega), flat_all s k M S (i + 1) (by omega), List.append_assoc]
end
set_option maxHeartbeats 4000000 in
theorem filterKeeps_walk (s : Nat) (k m : Int) (p1 p2 : Option Addr) (q1 q2 : Nat) (S G : List Key) (ws : W64 s) (wk : (Lit.int .i64 k).wf = true) (wm : (Lit.int .i64 m).wf = true) (gS : ∀ a ∈ S, Good9 a) (gG : ∀ a ∈ G, Good9 a)
    (hS : S.length ≤ maxLen) (hG : G.length ≤ maxLen) (w : World) (R1 : RowA 3 key9 w p1 S) (R2 : RowA 3 key9 w p2 G) :
    Calls Try.prog 4 #[.int .u64 s, .int .i64 k, .int .i64 m, .slice p1 S.length q1, .slice p2 G.length q2] w fun e w' => e = .returned (.bool true) ∧ Below w.heap.size w w' := by
  have HA := Lib.hid alive9_any
  obtain ⟨k0, k1⟩ := bounds_i64 wk
  obtain ⟨m0, m1⟩ := bounds_i64 wm
  have HS := Lib.hid gS
  have HG := Lib.hid gG
  have HR1 := Lib.hid R1
  have HR2 := Lib.hid R2
  clear gS gG R1 R2 wk wm
  unfold maxLen at hS hG
  by_cases k2 : 1 ≤ k
  · by_cases k3 : k ≤ 16
    · by_cases m2 : 1 ≤ m
      · by_cases m3 : m ≤ 500
        · by_cases l1 : S.length ≤ 60
          · by_cases l2 : G.length ≤ 60
            · obtain ⟨M, rfl⟩ := Int.eq_ofNat_of_zero_le (show 0 ≤ m by omega)
              have HN := Lib.hid (num_any 0)
              go_enter Try.func4, Try.ntmps4
              go_wp2_with fail
              refine (HA.out _).mono ?_
              rintro e0 w0 ⟨rfl, hb0⟩
              have hw0 : Below w.heap.size w w0 := by
                refine Below.trans ?_ (hb0.mono ?_)
                · go_grown
                · go_size
              have hz0 := hw0.size
              go_wp2_with fail
              refine (fnew_any s k M ws k2 k3 m2 (by omega) _).mono ?_
              rintro e w1 ⟨f, rfl, H1, hb1⟩
              have hw1 := hw0.trans (hb1.mono hz0)
              rw [Int.toNat_natCast, tally_nil] at H1
              clear hb1 hw0
              go_wp2_with fail
              refine (HN.out _).mono ?_
              rintro e w2 ⟨rfl, hb2⟩
              have hw2 := hw1.trans (hb2.mono hw1.size)
              have H2 := H1.below hb2
              obtain ⟨hi, hhi⟩ : ∃ hi, hi = w1.heap.size := ⟨_, rfl⟩
              obtain ⟨lo, hlo⟩ : ∃ lo, lo = w0.heap.size := ⟨_, rfl⟩
              rw [← hhi, ← hlo] at H2
              have hzz : w.heap.size ≤ lo := by omega
              clear hb2 H1 hw1 hhi hlo hz0
              go_wp2
              go_loopw [14] (fun i14 wr => ∃ i : Nat, i ≤ max S.length G.length ∧ i14 = .int .i64 i ∧ Fil wr lo hi f s k (tally M (flat s k M (S.take i) ++ flat s k M (G.take i))) ∧ Below w.heap.size w wr) (fun i14 _ => max S.length G.length - (intOf i14).toNat)
              case atStart => exact ⟨0, Nat.zero_le _, rfl, H2, hw2⟩
              case round =>
                clear H2 hw2
                obtain ⟨i, hi2, rfl, H, hw⟩ := hrel
                have hz := hw.size
                by_cases lG : i < G.length
                · by_cases lS : i < S.length
                  · have hst := both_step s k M S G i lS lG
                    obtain ⟨g1, o1, rfl, hg1, a1, b1, c1⟩ := HR1.out.key lS
                    have ga1 := HS.out _ (List.getElem_mem lS)
                    generalize S[i] = x1 at *
                    obtain ⟨xh1, xl1, xn1⟩ := x1
                    simp only at a1 b1 c1
                    have ka1 := Lib.hid a1
                    have kb1 := Lib.hid b1
                    have kc1 := Lib.hid c1
                    have HGA1 := Lib.hid ga1
                    clear a1 b1 c1 ga1
                    obtain ⟨g2, o2, rfl, hg2, a2, b2, c2⟩ := HR2.out.key lG
                    have ga2 := HG.out _ (List.getElem_mem lG)
                    generalize G[i] = x2 at *
                    obtain ⟨xh2, xl2, xn2⟩ := x2
                    simp only at a2 b2 c2
                    have ka2 := Lib.hid a2
                    have kb2 := Lib.hid b2
                    have kc2 := Lib.hid c2
                    have HGA2 := Lib.hid ga2
                    clear a2 b2 c2 ga2
                    have HST := Lib.hid hst
                    have HH := Lib.hid H
                    clear hst H
                    have a2 := (hw.cell (p := ⟨g2, _, none⟩) hg2).trans ka2.out
                    have b2 := (hw.cell (p := ⟨g2, _, none⟩) hg2).trans kb2.out
                    have c2 := (hw.cell (p := ⟨g2, _, none⟩) hg2).trans kc2.out
                    have z2 := Nat.lt_of_lt_of_le hg2 hw.size
                    go_wp2_with fail
                    refine (tadd_any _ _ _ _ _ _ _ xh2 xl2 xn2 _ HH.out HGA2.out).mono ?_
                    rintro e w3 ⟨rfl, H3, ht3⟩
                    have hw3 := hw.trans (ht3.below hw.size (fun j hj => Nat.le_trans hzz hj.1))
                    clear ht3 a2 b2 c2 z2
                    have HH3 := Lib.hid H3
                    clear H3 HH
                    have a1 := (hw3.cell (p := ⟨g1, _, none⟩) hg1).trans ka1.out
                    have b1 := (hw3.cell (p := ⟨g1, _, none⟩) hg1).trans kb1.out
                    have c1 := (hw3.cell (p := ⟨g1, _, none⟩) hg1).trans kc1.out
                    have z1 := Nat.lt_of_lt_of_le hg1 hw3.size
                    go_wp2_with fail
                    refine (tadd_any _ _ _ _ _ _ _ xh1 xl1 xn1 _ HH3.out HGA1.out).mono ?_
                    rintro e w4 ⟨rfl, H4, ht4⟩
                    have hw4 := hw3.trans (ht4.below hw3.size (fun j hj => Nat.le_trans hzz hj.1))
                    clear ht4 a1 b1 c1 z1
                    rw [HST.out] at H4
                    have HU := Lib.hid H4
                    clear H4
                    go_wp2
                    go_roundw
                    case rel => exact ⟨i + 1, by omega, by go_num, HU.out, hw4⟩
                    case measure => simp [intOf]; omega
                  · have hst := right_step s k M S G i lS lG
                    obtain ⟨g2, o2, rfl, hg2, a2, b2, c2⟩ := HR2.out.key lG
                    have ga2 := HG.out _ (List.getElem_mem lG)
                    generalize G[i] = x2 at *
                    obtain ⟨xh2, xl2, xn2⟩ := x2
                    simp only at a2 b2 c2
                    have ka2 := Lib.hid a2
                    have kb2 := Lib.hid b2
                    have kc2 := Lib.hid c2
                    have HGA2 := Lib.hid ga2
                    clear a2 b2 c2 ga2
                    have HST := Lib.hid hst
                    have HH := Lib.hid H
                    have nS : ¬ (i : Int) < (S.length : Int) := by omega
                    clear hst H
                    have a2 := (hw.cell (p := ⟨g2, _, none⟩) hg2).trans ka2.out
                    have b2 := (hw.cell (p := ⟨g2, _, none⟩) hg2).trans kb2.out
                    have c2 := (hw.cell (p := ⟨g2, _, none⟩) hg2).trans kc2.out
                    have z2 := Nat.lt_of_lt_of_le hg2 hw.size
                    go_wp2_with fail
                    refine (tadd_any _ _ _ _ _ _ _ xh2 xl2 xn2 _ HH.out HGA2.out).mono ?_
                    rintro e w3 ⟨rfl, H3, ht3⟩
                    have hw3 := hw.trans (ht3.below hw.size (fun j hj => Nat.le_trans hzz hj.1))
                    clear ht3 a2 b2 c2 z2
                    rw [HST.out] at H3
                    have HU := Lib.hid H3
                    clear H3
                    go_wp2
                    go_roundw
                    case rel => exact ⟨i + 1, by omega, by go_num, HU.out, hw3⟩
                    case measure => simp [intOf]; omega
                · have nG : ¬ (i : Int) < (G.length : Int) := by omega
                  by_cases lS : i < S.length
                  · have hst := left_step s k M S G i lS lG
                    obtain ⟨g1, o1, rfl, hg1, a1, b1, c1⟩ := HR1.out.key lS
                    have ga1 := HS.out _ (List.getElem_mem lS)
                    generalize S[i] = x1 at *
                    obtain ⟨xh1, xl1, xn1⟩ := x1
                    simp only at a1 b1 c1
                    have ka1 := Lib.hid a1
                    have kb1 := Lib.hid b1
                    have kc1 := Lib.hid c1
                    have HGA1 := Lib.hid ga1
                    clear a1 b1 c1 ga1
                    have HST := Lib.hid hst
                    have HH := Lib.hid H
                    clear hst H
                    have a1 := (hw.cell (p := ⟨g1, _, none⟩) hg1).trans ka1.out
                    have b1 := (hw.cell (p := ⟨g1, _, none⟩) hg1).trans kb1.out
                    have c1 := (hw.cell (p := ⟨g1, _, none⟩) hg1).trans kc1.out
                    have z1 := Nat.lt_of_lt_of_le hg1 hw.size
                    go_wp2_with fail
                    refine (tadd_any _ _ _ _ _ _ _ xh1 xl1 xn1 _ HH.out HGA1.out).mono ?_
                    rintro e w3 ⟨rfl, H3, ht3⟩
                    have hw3 := hw.trans (ht3.below hw.size (fun j hj => Nat.le_trans hzz hj.1))
                    clear ht3 a1 b1 c1 z1
                    rw [HST.out] at H3
                    have HU := Lib.hid H3
                    clear H3
                    go_wp2
                    go_roundw
                    case rel => exact ⟨i + 1, by omega, by go_num, HU.out, hw3⟩
                    case measure => simp [intOf]; omega
                  · have nS : ¬ (i : Int) < (S.length : Int) := by omega
                    rw [flat_all s k M S i (by omega), flat_all s k M G i (by omega)] at H
                    obtain ⟨C, hC⟩ : ∃ C, C = tally M (flat s k M S ++ flat s k M G) := ⟨_, rfl⟩
                    rw [← hC] at H
                    have hCl : C.length = M := by rw [hC, tally_len]
                    have HC := Lib.hid hC
                    have HCL := Lib.hid hCl
                    clear hC hCl lS lG hi2
                    go_wp2
                    go_loopw [15] (fun i15 wr2 => ∃ i : Nat, i ≤ G.length ∧ i15 = .int .i64 i ∧ Fil wr2 lo hi f s k (remL C (flat s k M (G.take i))) ∧ Below w.heap.size w wr2) (fun i15 _ => G.length - (intOf i15).toNat)
                    case atStart => exact ⟨0, Nat.zero_le _, rfl, H, hw⟩
                    case round =>
                      clear H hw hz nS nG
                      obtain ⟨i, hi2, rfl, H, hw⟩ := hrel
                      by_cases lG : i < G.length
                      · have hst := congrArg (remL C) (flat_snoc s k M G i lG)
                        obtain ⟨g2, o2, rfl, hg2, a2, b2, c2⟩ := HR2.out.key lG
                        have ga2 := HG.out _ (List.getElem_mem lG)
                        generalize G[i] = x2 at *
                        obtain ⟨xh2, xl2, xn2⟩ := x2
                        simp only at a2 b2 c2
                        have ka2 := Lib.hid a2
                        have kb2 := Lib.hid b2
                        have kc2 := Lib.hid c2
                        have HGA2 := Lib.hid ga2
                        clear a2 b2 c2 ga2
                        have HST := Lib.hid hst.symm
                        have HH := Lib.hid H
                        clear hst H
                        have a2 := (hw.cell (p := ⟨g2, _, none⟩) hg2).trans ka2.out
                        have b2 := (hw.cell (p := ⟨g2, _, none⟩) hg2).trans kb2.out
                        have c2 := (hw.cell (p := ⟨g2, _, none⟩) hg2).trans kc2.out
                        have z2 := Nat.lt_of_lt_of_le hg2 hw.size
                        go_wp2_with fail
                        refine (trem_any _ _ _ _ _ _ _ HCL.out _ xh2 xl2 xn2 _ HH.out HGA2.out).mono ?_
                        rintro e w3 ⟨rfl, H3, ht3⟩
                        have hw3 := hw.trans (ht3.below hw.size (fun j hj => Nat.le_trans hzz hj.1))
                        clear ht3 a2 b2 c2 z2
                        rw [HST.out] at H3
                        have HU := Lib.hid H3
                        clear H3
                        go_wp2
                        go_roundw
                        case rel => exact ⟨i + 1, by omega, by go_num, HU.out, hw3⟩
                        case measure => simp [intOf]; omega
                      · have nG : ¬ (i : Int) < (G.length : Int) := by omega
                        rw [flat_all s k M G i (by omega)] at H
                        clear lG hi2
                        have hmay : ∀ j (hj : j < S.length), mayL (remL C (flat s k M G)) (plk s k M S[j]) = true := fun j hj => by
                          rw [HC.out]
                          exact kept_may M _ _ _ (plk_in s k M S[j]) (fun x hx => flat_mem s k M S j hj _ (List.getElem_mem hx))
                        have HMAY := Lib.hid hmay
                        clear hmay
                        go_wp2
                        go_loopw [16] (fun i16 wr3 => ∃ i : Nat, i ≤ S.length ∧ i16 = .int .i64 i ∧ Fil wr3 lo hi f s k (remL C (flat s k M G)) ∧ Below w.heap.size w wr3) (fun i16 _ => S.length - (intOf i16).toNat)
                        case atStart => exact ⟨0, Nat.zero_le _, rfl, H, hw⟩
                        case round =>
                          clear H hw nG
                          obtain ⟨i, hi2, rfl, H, hw⟩ := hrel
                          by_cases lS : i < S.length
                          · have hms := HMAY.out i lS
                            obtain ⟨g1, o1, rfl, hg1, a1, b1, c1⟩ := HR1.out.key lS
                            have ga1 := HS.out _ (List.getElem_mem lS)
                            generalize S[i] = x1 at *
                            obtain ⟨xh1, xl1, xn1⟩ := x1
                            simp only at a1 b1 c1
                            have ka1 := Lib.hid a1
                            have kb1 := Lib.hid b1
                            have kc1 := Lib.hid c1
                            have HGA1 := Lib.hid ga1
                            clear a1 b1 c1 ga1
                            have HMS := Lib.hid hms
                            have HH := Lib.hid H
                            clear hms H
                            have a1 := (hw.cell (p := ⟨g1, _, none⟩) hg1).trans ka1.out
                            have b1 := (hw.cell (p := ⟨g1, _, none⟩) hg1).trans kb1.out
                            have c1 := (hw.cell (p := ⟨g1, _, none⟩) hg1).trans kc1.out
                            have z1 := Nat.lt_of_lt_of_le hg1 hw.size
                            go_wp2_with fail
                            refine (tmay_any _ _ _ _ _ _ M (by rw [remL_len]; exact HCL.out) (by omega) xh1 xl1 xn1 _ HH.out HGA1.out).mono ?_
                            rintro e w3 ⟨rfl, hb3⟩
                            rw [HMS.out]
                            have hw3 := hw.trans (hb3.mono hw.size)
                            have H3 := HH.out.below hb3
                            have HU := Lib.hid H3
                            clear hb3 a1 b1 c1 z1 H3
                            go_wp2
                            go_roundw
                            case rel => exact ⟨i + 1, by omega, by go_num, HU.out, hw3⟩
                            case measure => simp [intOf]; omega
                          · have nS : ¬ (i : Int) < (S.length : Int) := by omega
                            go_wp2
                            go_ret
                            exact ⟨rfl, hw⟩
            · skip
              go_enter Try.func4, Try.ntmps4
              go_wp2_with fail
              refine (HA.out _).mono ?_
              rintro e0 w0 ⟨rfl, hb0⟩
              have hw0 : Below w.heap.size w w0 := by
                refine Below.trans ?_ (hb0.mono ?_)
                · go_grown
                · go_size
              go_wp2
              all_goals
                go_ret
                exact ⟨rfl, by go_grown⟩
          · skip
            go_enter Try.func4, Try.ntmps4
            go_wp2_with fail
            refine (HA.out _).mono ?_
            rintro e0 w0 ⟨rfl, hb0⟩
            have hw0 : Below w.heap.size w w0 := by
              refine Below.trans ?_ (hb0.mono ?_)
              · go_grown
              · go_size
            go_wp2
            all_goals
              go_ret
              exact ⟨rfl, by go_grown⟩
        · skip
          go_enter Try.func4, Try.ntmps4
          go_wp2_with fail
          refine (HA.out _).mono ?_
          rintro e0 w0 ⟨rfl, hb0⟩
          have hw0 : Below w.heap.size w w0 := by
            refine Below.trans ?_ (hb0.mono ?_)
            · go_grown
            · go_size
          go_wp2
          all_goals
            go_ret
            exact ⟨rfl, by go_grown⟩
      · skip
        go_enter Try.func4, Try.ntmps4
        go_wp2_with fail
        refine (HA.out _).mono ?_
        rintro e0 w0 ⟨rfl, hb0⟩
        have hw0 : Below w.heap.size w w0 := by
          refine Below.trans ?_ (hb0.mono ?_)
          · go_grown
          · go_size
        go_wp2
        all_goals
          go_ret
          exact ⟨rfl, by go_grown⟩
    · skip
      go_enter Try.func4, Try.ntmps4
      go_wp2_with fail
      refine (HA.out _).mono ?_
      rintro e0 w0 ⟨rfl, hb0⟩
      have hw0 : Below w.heap.size w w0 := by
        refine Below.trans ?_ (hb0.mono ?_)
        · go_grown
        · go_size
      go_wp2
      all_goals
        go_ret
        exact ⟨rfl, by go_grown⟩
  · skip
    go_enter Try.func4, Try.ntmps4
    go_wp2_with fail
    refine (HA.out _).mono ?_
    rintro e0 w0 ⟨rfl, hb0⟩
    have hw0 : Below w.heap.size w w0 := by
      refine Below.trans ?_ (hb0.mono ?_)
      · go_grown
      · go_size
    go_wp2
    all_goals
      go_ret
      exact ⟨rfl, by go_grown⟩
end Go.Proofs.Ytodofjkajhhipaa

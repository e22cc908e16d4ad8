/-
  The given laws of chapter 9 as walks: FilterOrder hands back true, for every input. No condition but that the numbers are whole numbers of 64 bits and that the row of keys lies in old memory.
-/
import Derived.Test.YtodofjkajhhipaaL9
set_option linter.unusedSimpArgs false
set_option linter.unusedVariables false
namespace Go.Proofs.Ytodofjkajhhipaa
open Go.RowKit Go.Sort M

set_option maxHeartbeats 4000000 in
theorem filterOrder_walk (s : Nat) (k m : Int) (p : Option Addr) (q : Nat) (L : List Key) (ws : W64 s) (wk : (Lit.int .i64 k).wf = true) (wm : (Lit.int .i64 m).wf = true) (gL : ∀ a ∈ L, Good9 a)
    (hL : L.length ≤ maxLen) (w : World) (R : RowA 3 key9 w p L) :
    Calls Try.prog 6 #[.int .u64 s, .int .i64 k, .int .i64 m, .slice p L.length q] w fun e w' => e = .returned (.bool true) ∧ Below w.heap.size w w' := by
  have HA := Lib.hid alive9_any
  obtain ⟨k0, k1⟩ := bounds_i64 wk
  obtain ⟨m0, m1⟩ := bounds_i64 wm
  have HL := Lib.hid gL
  have HR := Lib.hid R
  clear gL R wk wm
  unfold maxLen at hL
  by_cases k2 : 1 ≤ k
  · by_cases k3 : k ≤ 16
    · by_cases m2 : 1 ≤ m
      · by_cases m3 : m ≤ 300
        · by_cases l1 : L.length ≤ 60
          · obtain ⟨M, rfl⟩ := Int.eq_ofNat_of_zero_le (show 0 ≤ m by omega)
            have HN := Lib.hid (num_any 0)
            go_enter Try.func6, Try.ntmps6
            go_wp2_with fail
            refine (HA.out _).mono ?_
            rintro e0 w0 ⟨rfl, hb0⟩
            have hw0 : Below w.heap.size w w0 := by
              refine Below.trans ?_ (hb0.mono ?_)
              · go_grown
              · go_size
            have hz0 := hw0.size
            go_wp2_with fail
            refine (fnew_any s k M ws k2 k3 m2 (by omega) _).mono ?_
            rintro e w1 ⟨f, rfl, H1, hb1⟩
            have hw1 := hw0.trans (hb1.mono hz0)
            have hz1 := hb1.size
            rw [Int.toNat_natCast, tally_nil] at H1
            clear hb1 hw0
            go_wp2_with fail
            refine (fnew_any s k M ws k2 k3 m2 (by omega) _).mono ?_
            rintro e w2 ⟨f2, rfl, G2, hb2⟩
            have hw2 := hw1.trans (hb2.mono hw1.size)
            rw [Int.toNat_natCast, tally_nil] at G2
            have H2 := H1.below hb2
            clear hb2 H1
            go_wp2_with fail
            refine (HN.out _).mono ?_
            rintro e w3 ⟨rfl, hb3⟩
            have hw3 := hw2.trans (hb3.mono hw2.size)
            have H3 := H2.below hb3
            have G3 := G2.below hb3
            obtain ⟨hi2, hh2⟩ : ∃ hi, hi = w2.heap.size := ⟨_, rfl⟩
            obtain ⟨hi, hhi⟩ : ∃ hi, hi = w1.heap.size := ⟨_, rfl⟩
            obtain ⟨lo, hlo⟩ : ∃ lo, lo = w0.heap.size := ⟨_, rfl⟩
            rw [← hhi, ← hlo] at H3
            rw [← hhi, ← hh2] at G3
            have hzz : w.heap.size ≤ lo := by omega
            have hzz2 : w.heap.size ≤ hi := by omega
            clear hb3 H2 G2 hw1 hw2 hhi hlo hh2 hz0 hz1
            go_wp2
            go_loopw [14] (fun i14 wr => ∃ i : Nat, i ≤ L.length ∧ i14 = .int .i64 i ∧ Fil wr lo hi f s k (tally M (flat s k M (L.take i))) ∧ Fil wr hi hi2 f2 s k (tally M (flat s k M (L.reverse.take i))) ∧ Below w.heap.size w wr) (fun i14 _ => L.length - (intOf i14).toNat)
            case atStart => exact ⟨0, Nat.zero_le _, rfl, H3, G3, hw3⟩
            case round =>
              clear H3 G3 hw3
              obtain ⟨i, hii, rfl, H, G, hw⟩ := hrel
              have hz := hw.size
              by_cases lL : i < L.length
              · have lR : L.length - 1 - i < L.length := by omega
                have hst := congrArg (tally M) (flat_snoc s k M L i lL)
                have hsr := congrArg (tally M) (flat_snoc s k M L.reverse i (by rw [List.length_reverse]; exact lL))
                rw [List.getElem_reverse] at hsr
                obtain ⟨g1, o1, hp1, hg1, a1, b1, c1⟩ := HR.out.key lL
                have ga1 := HL.out _ (List.getElem_mem lL)
                obtain ⟨g2, o2, hp2, hg2, a2, b2, c2⟩ := HR.out.key lR
                have ga2 := HL.out _ (List.getElem_mem lR)
                generalize L[i] = x1 at *
                generalize L[L.length - 1 - i] = x2 at *
                obtain ⟨xh1, xl1, xn1⟩ := x1
                simp only at a1 b1 c1
                have ka1 := Lib.hid a1
                have kb1 := Lib.hid b1
                have kc1 := Lib.hid c1
                have HGA1 := Lib.hid ga1
                clear a1 b1 c1 ga1
                obtain ⟨xh2, xl2, xn2⟩ := x2
                simp only at a2 b2 c2
                have ka2 := Lib.hid a2
                have kb2 := Lib.hid b2
                have kc2 := Lib.hid c2
                have HGA2 := Lib.hid ga2
                clear a2 b2 c2 ga2
                subst hp1
                obtain ⟨rfl, rfl⟩ : g2 = g1 ∧ o2 = o1 := by simpa using hp2.symm
                have HST := Lib.hid hst.symm
                have HSR := Lib.hid hsr.symm
                have HH := Lib.hid H
                have HG := Lib.hid G
                clear hst hsr H G hp2 hg2
                have a1 := (hw.cell (p := ⟨g2, _, none⟩) hg1).trans ka1.out
                have b1 := (hw.cell (p := ⟨g2, _, none⟩) hg1).trans kb1.out
                have c1 := (hw.cell (p := ⟨g2, _, none⟩) hg1).trans kc1.out
                have z1 := Nat.lt_of_lt_of_le hg1 hw.size
                go_wp2_with fail
                refine (tadd_any _ _ _ _ _ _ _ xh1 xl1 xn1 _ HH.out HGA1.out).mono ?_
                rintro e w4 ⟨rfl, H4, ht4⟩
                have hw4 := hw.trans (ht4.below hw.size (fun j hj => Nat.le_trans hzz hj.1))
                clear a1 b1 c1 z1
                have HG4 := Lib.hid (HG.out.touched ht4 (fun j h1 h2 h3 => absurd h3.2 (by omega)))
                rw [HST.out] at H4
                have HH4 := Lib.hid H4
                clear H4 HH HG ht4
                have a2 := (hw4.cell (p := ⟨g2, _, none⟩) hg1).trans ka2.out
                have b2 := (hw4.cell (p := ⟨g2, _, none⟩) hg1).trans kb2.out
                have c2 := (hw4.cell (p := ⟨g2, _, none⟩) hg1).trans kc2.out
                have z2 := Nat.lt_of_lt_of_le hg1 hw4.size
                go_wp2_with fail
                refine (tadd_any _ _ _ _ _ _ _ xh2 xl2 xn2 _ HG4.out HGA2.out).mono ?_
                rintro e w5 ⟨rfl, G5, ht5⟩
                have hw5 := hw4.trans (ht5.below hw4.size (fun j hj => Nat.le_trans hzz2 hj.1))
                have HH5 := Lib.hid (HH4.out.touched ht5 (fun j h1 h2 h3 => absurd h3.1 (by omega)))
                rw [HSR.out] at G5
                have HG5 := Lib.hid G5
                clear a2 b2 c2 z2 ht5 G5
                go_wp2
                go_roundw
                case rel => exact ⟨i + 1, by omega, by go_num, HH5.out, HG5.out, hw5⟩
                case measure => simp [intOf]; omega
              · have nL : ¬ (i : Int) < (L.length : Int) := by omega
                rw [flat_all s k M L i (by omega)] at H
                rw [flat_all s k M L.reverse i (by rw [List.length_reverse]; omega), tally_same (flat_rev s k M L)] at G
                have hCl := tally_len M (flat s k M L)
                generalize tally M (flat s k M L) = C at *
                have HCL := Lib.hid hCl
                clear hCl lL hii
                go_wp2
                go_loopw [15] (fun i15 wr2 => ∃ j : Nat, j ≤ M ∧ i15 = .int .i64 j ∧ Fil wr2 lo hi f s k C ∧ Fil wr2 hi hi2 f2 s k C ∧ Below w.heap.size w wr2) (fun i15 _ => M - (intOf i15).toNat)
                case atStart => exact ⟨0, Nat.zero_le _, rfl, H, G, hw⟩
                case round =>
                  clear H G hw hz nL
                  obtain ⟨j, hj, rfl, H, G, hw⟩ := hrel
                  by_cases lM : j < M
                  · have HH := Lib.hid H
                    have HG := Lib.hid G
                    clear H G
                    go_wp2_with fail
                    refine (fcounter_any _ _ _ _ _ _ j _ HH.out).mono ?_
                    rintro e w4 ⟨rfl, hb4⟩
                    have HH4 := Lib.hid (HH.out.below hb4)
                    have HG4 := Lib.hid (HG.out.below hb4)
                    have hw4 := hw.trans (hb4.mono hw.size)
                    clear hb4 HH HG hw
                    go_wp2_with fail
                    refine (fcounter_any _ _ _ _ _ _ j _ HG4.out).mono ?_
                    rintro e w5 ⟨rfl, hb5⟩
                    have HH5 := Lib.hid (HH4.out.below hb5)
                    have HG5 := Lib.hid (HG4.out.below hb5)
                    have hw5 := hw4.trans (hb5.mono hw4.size)
                    clear hb5 HH4 HG4 hw4
                    go_wp2_with fail
                    refine (fon_any _ _ _ _ _ _ j _ HH5.out).mono ?_
                    rintro e w6 ⟨rfl, hb6⟩
                    have HH6 := Lib.hid (HH5.out.below hb6)
                    have HG6 := Lib.hid (HG5.out.below hb6)
                    have hw6 := hw5.trans (hb6.mono hw5.size)
                    clear hb6 HH5 HG5 hw5
                    go_wp2_with fail
                    refine (fon_any _ _ _ _ _ _ j _ HG6.out).mono ?_
                    rintro e w7 ⟨rfl, hb7⟩
                    have HH7 := Lib.hid (HH6.out.below hb7)
                    have HG7 := Lib.hid (HG6.out.below hb7)
                    have hw7 := hw6.trans (hb7.mono hw6.size)
                    clear hb7 HH6 HG6 hw6
                    go_wp2
                    go_roundw
                    case rel => exact ⟨j + 1, by omega, by go_num, HH7.out, HG7.out, hw7⟩
                    case measure => simp [intOf]; omega
                  · have nM : ¬ (j : Int) < (M : Int) := by omega
                    have HH := Lib.hid H
                    have HG := Lib.hid G
                    clear H G
                    go_wp2_with fail
                    refine (ffull_any _ _ _ _ _ _ _ HH.out).mono ?_
                    rintro e w4 ⟨rfl, hb4⟩
                    have HG4 := Lib.hid (HG.out.below hb4)
                    have hw4 := hw.trans (hb4.mono hw.size)
                    clear hb4 HH HG hw
                    go_wp2_with fail
                    refine (ffull_any _ _ _ _ _ _ _ HG4.out).mono ?_
                    rintro e w5 ⟨rfl, hb5⟩
                    have hw5 := hw4.trans (hb5.mono hw4.size)
                    clear hb5
                    go_wp2
                    go_ret
                    exact ⟨ret_bool (by simp), hw5⟩
          · skip
            go_enter Try.func6, Try.ntmps6
            go_wp2_with fail
            refine (HA.out _).mono ?_
            rintro e0 w0 ⟨rfl, hb0⟩
            have hw0 : Below w.heap.size w w0 := by
              refine Below.trans ?_ (hb0.mono ?_)
              · go_grown
              · go_size
            go_wp2
            all_goals
              go_ret
              exact ⟨rfl, by go_grown⟩
        · skip
          go_enter Try.func6, Try.ntmps6
          go_wp2_with fail
          refine (HA.out _).mono ?_
          rintro e0 w0 ⟨rfl, hb0⟩
          have hw0 : Below w.heap.size w w0 := by
            refine Below.trans ?_ (hb0.mono ?_)
            · go_grown
            · go_size
          go_wp2
          all_goals
            go_ret
            exact ⟨rfl, by go_grown⟩
      · skip
        go_enter Try.func6, Try.ntmps6
        go_wp2_with fail
        refine (HA.out _).mono ?_
        rintro e0 w0 ⟨rfl, hb0⟩
        have hw0 : Below w.heap.size w w0 := by
          refine Below.trans ?_ (hb0.mono ?_)
          · go_grown
          · go_size
        go_wp2
        all_goals
          go_ret
          exact ⟨rfl, by go_grown⟩
    · skip
      go_enter Try.func6, Try.ntmps6
      go_wp2_with fail
      refine (HA.out _).mono ?_
      rintro e0 w0 ⟨rfl, hb0⟩
      have hw0 : Below w.heap.size w w0 := by
        refine Below.trans ?_ (hb0.mono ?_)
        · go_grown
        · go_size
      go_wp2
      all_goals
        go_ret
        exact ⟨rfl, by go_grown⟩
  · skip
    go_enter Try.func6, Try.ntmps6
    go_wp2_with fail
    refine (HA.out _).mono ?_
    rintro e0 w0 ⟨rfl, hb0⟩
    have hw0 : Below w.heap.size w w0 := by
      refine Below.trans ?_ (hb0.mono ?_)
      · go_grown
      · go_size
    go_wp2
    all_goals
      go_ret
      exact ⟨rfl, by go_grown⟩
end Go.Proofs.Ytodofjkajhhipaa

/-
  WeighAll as a walk: it hands back true, for every input. No condition but that the row's length is one.
-/
import Derived.Test.YtdfmebfkhcdphaaL10
set_option linter.unusedSimpArgs false
set_option linter.unusedVariables false
namespace Go.Proofs.Ytdfmebfkhcdphaa
open Go.RowKit Go.Sort M

theorem IRow.atF {w : World} {p : Option Addr} {n : Nat} {F : Nat → Int} (h : IRow w p ((List.range n).map F)) {k : Nat} (hk : k < n) :
    ∃ g o, p = some ⟨g, o, none⟩ ∧ g < w.heap.size ∧ w.cell? ⟨g, o + k, none⟩ = some (.int .i64 (F k)) := by
  obtain ⟨g, o, e, hg, hc⟩ := h.at (k := k) (by simpa using hk)
  rw [List.getElem_map, List.getElem_range] at hc
  exact ⟨g, o, e, hg, hc⟩

set_option maxRecDepth 100000 in
set_option maxHeartbeats 4000000 in
theorem wall_walk (total least : Int) (p : Option Addr) (c : Nat) (X : List Nat) (w : World) (hX : Row w p (fcs X)) (hl : X.length ≤ maxLen) :
    Calls Try.prog 5 #[.int .i64 total, .int .i64 least, .slice p X.length c] w fun e w' => e = .returned (.bool true) ∧ Below w.heap.size w w' := by
  have HA := Lib.hid alive10_any
  unfold maxLen at hl
  by_cases hok : shOk total least X.length ∧ X.length ≤ 100 ∧ least ≤ 1000
  · obtain ⟨hok, n100, l1000⟩ := hok
    have n1 := hok.1
    obtain ⟨l, r, rfl, hT, l1, l2, r1, t1, m1, e⟩ := shOk_parts hok
    have hsl : shL total (l : Int) X = (List.range X.length).map (shF (wtF X) l r X.length) := by
      unfold shL
      rw [e, Int.toNat_natCast]
    have hs := fun wx hb => shares_any total l p c X wx (hX.below (w' := wx) hb) hok
    rw [hsl] at hs
    have hat : ∀ k, k < X.length → ∃ g o x, p = some ⟨g, o, none⟩ ∧ g < w.heap.size ∧ wtF X k = wtN x ∧ ∀ wx, Below w.heap.size w wx → wx.cell? ⟨g, o + k, none⟩ = some (.float .f64 x) := fun k hk => by
      obtain ⟨g, o, e, hg, hc⟩ := hX.atF hk
      exact ⟨g, o, _, e, hg, wtF_at X k hk, fun wx hb => (hb.cell (p := ⟨g, o + k, none⟩) hg).trans hc⟩
    have hwt := wtF_le X
    have hsb : ∀ k, sumF (wtF X) k ≤ k * 1073741824 := sumF_bound (wtF_le X)
    have hsum := share_sum (wtF X) l r X.length n1
    have hmono : ∀ k, k ≤ X.length → sumF (share (wtF X) l r X.length) k ≤ X.length * l + r := fun k hk => by
      rw [← hsum]
      exact sumF_mono hk
    have hle := fun j hj => share_le (wtF X) l r X.length j hj
    have hleast := fun j => share_least (wtF X) l r X.length j
    have hzero := fun j h h0 => share_zero (wtF X) l r X.length j h h0
    have hmore := fun i k h h0 => share_more (wtF X) l r X.length i k h h0
    have hF : shF (wtF X) l r X.length = fun j => ((share (wtF X) l r X.length j : Nat) : Int) := rfl
    rw [hF] at hs
    generalize share (wtF X) l r X.length = sh at *
    generalize wtF X = wt at *
    generalize hn : X.length = n at *
    obtain ⟨m, hm⟩ : ∃ m, m = n * l := ⟨_, rfl⟩
    rw [← hm] at hT t1 m1 hsum hmono hle
    have q0 : wrap64 ((l : Int) * (n : Int)) = (m : Int) := by
      rw [hm, show (l : Int) * (n : Int) = ((n * l : Nat) : Int) by rw [Int.natCast_mul, Int.mul_comm]]
      exact IntWalk.wrap64_in _ (by omega)
    have hT2 : total ≤ 1073741824 := by omega
    have hT3 : (m : Int) ≤ total := by omega
    have hN := num10_any 0
    have HT := Lib.hid hT
    have Q0 := Lib.hid q0
    have HS := Lib.hid hs
    have HAT := Lib.hid hat
    have HWT := Lib.hid hwt
    have HSB := Lib.hid hsb
    have HSUM := Lib.hid hsum
    have HMONO := Lib.hid hmono
    have HLE := Lib.hid hle
    have HLEAST := Lib.hid hleast
    have HZERO := Lib.hid hzero
    have HMORE := Lib.hid hmore
    have HN := Lib.hid hN
    clear q0 hs hat hwt hsb hsum hmono hle hleast hzero hmore hN hT hm hn hX hok hsl e hF
    go_enter Try.func5, Try.ntmps5
    go_wp2_with fail
    refine (HA.out _).mono ?_
    rintro e0 w0 ⟨rfl, hb0⟩
    have hw0 : Below w.heap.size w w0 := by
      refine Below.trans ?_ (hb0.mono ?_)
      · go_grown
      · go_size
    go_wp2_with (first | rw [Q0.out] | fail)
    refine (HS.out _ hw0).mono ?_
    rintro e w1 ⟨q, d, rfl, hown, hb1⟩
    have hw1 := hw0.trans (hb1.mono hw0.size)
    have h := IRow.of_own hown
    clear hb1 hb0 hw0 hown
    go_wp2_with fail
    refine (HN.out _).mono ?_
    rintro e w2 ⟨rfl, hb2⟩
    have h2 := h.below hb2
    have hw2 := hw1.trans (hb2.mono hw1.size)
    clear hb2 hw1 h
    go_wp2_with fail
    go_loopw [10, 11, 12] (fun s10 s11 s12 wr => ∃ k : Nat, k ≤ n ∧ s12 = .int .i64 k ∧ s11 = .int .i64 (sumF wt k : Nat) ∧ s10 = .int .i64 (sumF sh k : Nat) ∧ IRow wr q ((List.range n).map fun j => ((sh j : Nat) : Int)) ∧ Below w.heap.size w wr) (fun _ _ s12 _ => n - (intOf s12).toNat)
    case atStart => exact ⟨0, Nat.zero_le _, rfl, rfl, rfl, h2, by go_grown⟩
    case round =>
      clear h2 hw2
      obtain ⟨k, hk, rfl, rfl, rfl, h, hb⟩ := hrel
      have hz := hb.size
      by_cases hlt : k < n
      · obtain ⟨g, o, x, rfl, hg0, ex, hcx⟩ := HAT.out k hlt
        have a0 := hcx wr hb
        have hg : g < wr.heap.size := by omega
        obtain ⟨g2, o2, rfl, hg2, d0⟩ := h.atF hlt
        have hW := rweight_any x
        rw [← ex] at hW
        have hu := HWT.out k
        have hs1 : sumF wt (k + 1) = sumF wt k + wt k := rfl
        have hs2 : sumF sh (k + 1) = sumF sh k + sh k := rfl
        have hsb := HSB.out (k + 1)
        have hsm := HMONO.out (k + 1) (by omega)
        have hll := HLEAST.out k
        rw [hs1] at hsb
        rw [hs2] at hsm
        have HS1 := Lib.hid hs1
        have HS2 := Lib.hid hs2
        generalize sumF wt k = S at hsb HS1 ⊢
        generalize sumF sh k = U at hsm HS2 ⊢
        generalize wt k = u at hu hsb HS1 hW
        generalize sh k = y at hsm HS2 hll d0
        have hSb : S + u ≤ 107374182400 := by omega
        have hUb : U + y ≤ 1073741824 := by omega
        have HW := Lib.hid hW
        have HCX := Lib.hid hcx
        have d1 : ∀ wx, Below wr.heap.size wr wx → wx.cell? ⟨g2, o2 + k, none⟩ = some (.int .i64 (y : Nat)) := fun wx hb => (hb.cell (p := ⟨g2, o2 + k, none⟩) hg2).trans d0
        have HD1 := Lib.hid d1
        clear hs1 hs2 hsb hsm hW hcx ex d1
        go_wp2_with fail
        refine (HW.out _).mono ?_
        rintro e w3 ⟨rfl, hb3⟩
        have h3 := h.below hb3
        have hw3 := hb.trans (hb3.mono hz)
        have d2 := HD1.out w3 hb3
        have hg3 : g2 < w3.heap.size := Nat.lt_of_lt_of_le hg2 hb3.size
        clear hb3 hb h a0 d0
        go_wp2
        go_roundw
        case rel => exact ⟨k + 1, by omega, by go_num, by rw [HS1.out]; go_num, by rw [HS2.out]; go_num, h3, hw3⟩
        case measure => simp [intOf]; omega
      · have HK : Hid (k = n) := Lib.hid (by omega)
        obtain ⟨a, ha⟩ : ∃ a, a = sumF wt k := ⟨_, rfl⟩
        rw [← ha]
        have HAA : Hid (a = sumF wt n) := Lib.hid (by rw [ha, HK.out])
        obtain ⟨U, hU⟩ : ∃ U, U = sumF sh k := ⟨_, rfl⟩
        rw [← hU]
        have HU : Hid ((U : Int) = total) := Lib.hid (by rw [hU, HK.out, HSUM.out, HT.out])
        have hab : a ≤ 107374182400 := by
          have := HSB.out n
          rw [← HAA.out] at this
          omega
        clear ha hU
        go_wp2_with fail
        go_loopw [13, 14] (fun s13 s14 wr => ∃ i : Nat, i ≤ n ∧ s13 = .int .i64 i ∧ IRow wr q ((List.range n).map fun j => ((sh j : Nat) : Int)) ∧ Below w.heap.size w wr) (fun s13 _ _ => n - (intOf s13).toNat)
        case atStart => exact ⟨0, Nat.zero_le _, rfl, h, hb⟩
        case round =>
          clear h hb hz
          obtain ⟨i, hi, rfl, h, hb⟩ := hrel
          have hz := hb.size
          by_cases hlt2 : i < n
          · by_cases ha0 : 0 < a
            · go_wp2_with fail
              rename World => wo
              go_loopw [14] (fun s14 wr => ∃ j : Nat, j ≤ n ∧ s14 = .int .i64 j ∧ IRow wr q ((List.range n).map fun j => ((sh j : Nat) : Int)) ∧ Below w.heap.size w wr) (fun s14 _ => n - (intOf s14).toNat)
              case atStart => exact ⟨0, Nat.zero_le _, rfl, h, hb⟩
              case round =>
                clear h hb hz
                obtain ⟨j, hj, rfl, h, hb⟩ := hrel
                have hz := hb.size
                by_cases hlt3 : j < n
                · obtain ⟨g, o, x, rfl, hg0, ex, hcx⟩ := HAT.out i hlt2
                  obtain ⟨g', o', x', e', -, ex', hcx'⟩ := HAT.out j hlt3
                  injection e' with e'
                  injection e' with e1 e2
                  subst e1 e2
                  have a0 := hcx wr hb
                  have b0 := hcx' wr hb
                  have hg : g < wr.heap.size := by omega
                  obtain ⟨g2, o2, rfl, hg2, c0⟩ := h.atF hlt2
                  obtain ⟨g3, o3, e3, -, d0⟩ := h.atF hlt3
                  injection e3 with e3
                  injection e3 with e1 e2
                  subst e1 e2
                  have hWI := rweight_any x
                  have hWK := rweight_any x'
                  rw [← ex] at hWI
                  rw [← ex'] at hWK
                  have hu := HWT.out i
                  have hv := HWT.out j
                  have hyi := HLE.out i hlt2
                  have hyj := HLE.out j hlt3
                  have hmo := HMORE.out i j (by rw [← HAA.out]; exact ha0)
                  have hze := HZERO.out i (by rw [← HAA.out]; exact ha0)
                  generalize wt i = u at hWI hu hmo hze
                  generalize wt j = v at hWK hv hmo
                  generalize sh i = y at c0 hyi hmo hze
                  generalize sh j = z at d0 hyj hmo
                  have i1 : (0 : Int) ≤ (i : Int) := by omega
                  have i2 : (i : Int) < (n : Int) := by omega
                  have i3 : (0 : Int) ≤ (j : Int) := by omega
                  have i4 : (j : Int) < (n : Int) := by omega
                  have HWI := Lib.hid hWI
                  have HWK := Lib.hid hWK
                  clear hWI hWK ex ex' hcx hcx'
                  by_cases hvu : v < u
                  · have hu0 : ((u : Int) == 0) = false := by simp; omega
                    have hmo2 := hmo hvu
                    have hc1 : decide ((y : Int) < (z : Int) - 1) = false := by simp; omega
                    have hvu2 : (v : Int) < (u : Int) := by omega
                    clear hmo hze
                    go_wp2_with fail
                    have kg := cell_grow
                    refine region_whole (by kernel_rfl) (by kernel_rfl) ?_
                    repeat (any_goals (first | go_big_quiet_step ((go_at_call 13; (first | (with_reducible exact Gives.at HWI.out _ _ _) | (with_reducible exact Gives.at HWK.out _ _ _)))) | quiet_step ((go_at_call 13; (first | (with_reducible exact Gives.at HWI.out _ _ _) | (with_reducible exact Gives.at HWK.out _ _ _))))))
                    refine wpQuiet_nil ?_
                    clear kg
                    intro w2 hb2
                    obtain ⟨hc2, hf2⟩ := bcell hb2
                    have hw2 : Below w.heap.size w w2 := by
                      refine Below.trans ?_ (hb2.mono ?_)
                      · go_grown
                      · first | omega | go_size
                    have h2 := h.below hb2
                    have hb3 := hb.trans (hb2.mono hz)
                    clear h hb hb2 hw2 a0 b0 c0 d0
                    go_wp2
                    go_roundw
                    case rel => exact ⟨j + 1, by omega, by go_num, h2, hb3⟩
                    case measure => simp [intOf]; omega
                  · have hvu2 : ¬ (v : Int) < (u : Int) := by omega
                    clear hmo
                    by_cases hu0 : u = 0
                    · have hze2 := hze hu0
                      have hu1 : ((u : Int) == 0) = true := by simp; omega
                      have hy1 : ((y : Int) != (l : Int)) = false := by simp; omega
                      clear hze hu0
                      go_wp2_with fail
                      have kg := cell_grow
                      refine region_whole (by kernel_rfl) (by kernel_rfl) ?_
                      repeat (any_goals (first | go_big_quiet_step ((go_at_call 13; (first | (with_reducible exact Gives.at HWI.out _ _ _) | (with_reducible exact Gives.at HWK.out _ _ _)))) | quiet_step ((go_at_call 13; (first | (with_reducible exact Gives.at HWI.out _ _ _) | (with_reducible exact Gives.at HWK.out _ _ _))))))
                      refine wpQuiet_nil ?_
                      clear kg
                      intro w2 hb2
                      obtain ⟨hc2, hf2⟩ := bcell hb2
                      have hw2 : Below w.heap.size w w2 := by
                        refine Below.trans ?_ (hb2.mono ?_)
                        · go_grown
                        · first | omega | go_size
                      have h2 := h.below hb2
                      have hb3 := hb.trans (hb2.mono hz)
                      clear h hb hb2 hw2 a0 b0 c0 d0
                      go_wp2
                      go_roundw
                      case rel => exact ⟨j + 1, by omega, by go_num, h2, hb3⟩
                      case measure => simp [intOf]; omega
                    · have hu1 : ((u : Int) == 0) = false := by simp; omega
                      clear hze
                      go_wp2_with fail
                      have kg := cell_grow
                      refine region_whole (by kernel_rfl) (by kernel_rfl) ?_
                      repeat (any_goals (first | go_big_quiet_step ((go_at_call 13; (first | (with_reducible exact Gives.at HWI.out _ _ _) | (with_reducible exact Gives.at HWK.out _ _ _)))) | quiet_step ((go_at_call 13; (first | (with_reducible exact Gives.at HWI.out _ _ _) | (with_reducible exact Gives.at HWK.out _ _ _))))))
                      refine wpQuiet_nil ?_
                      clear kg
                      intro w2 hb2
                      obtain ⟨hc2, hf2⟩ := bcell hb2
                      have hw2 : Below w.heap.size w w2 := by
                        refine Below.trans ?_ (hb2.mono ?_)
                        · go_grown
                        · first | omega | go_size
                      have h2 := h.below hb2
                      have hb3 := hb.trans (hb2.mono hz)
                      clear h hb hb2 hw2 a0 b0 c0 d0
                      go_wp2
                      go_roundw
                      case rel => exact ⟨j + 1, by omega, by go_num, h2, hb3⟩
                      case measure => simp [intOf]; omega
                · go_wp2_with fail
                  go_roundw
                  case rel => exact ⟨i + 1, by omega, by go_num, h, hb⟩
                  case measure => simp [intOf]; omega
            · go_wp2_with fail
              go_ret
              exact ⟨ret_bool (by simp [HU.out]), hb⟩
          · go_wp2_with fail
            go_ret
            exact ⟨ret_bool (by simp [HU.out]), hb⟩
  · generalize X.length = n at *
    clear hX
    unfold shOk at hok
    by_cases n0 : n < 1
    · clear hok
      go_enter Try.func5, Try.ntmps5
      go_wp2_with fail
      refine (HA.out _).mono ?_
      rintro e0 w0 ⟨rfl, hb0⟩
      have hw0 : Below w.heap.size w w0 := by
        refine Below.trans ?_ (hb0.mono ?_)
        · go_grown
        · go_size
      go_wp2
      all_goals
        go_ret
        exact ⟨rfl, by go_grown⟩
    · by_cases n1 : 100 < n
      · clear hok
        go_enter Try.func5, Try.ntmps5
        go_wp2_with fail
        refine (HA.out _).mono ?_
        rintro e0 w0 ⟨rfl, hb0⟩
        have hw0 : Below w.heap.size w w0 := by
          refine Below.trans ?_ (hb0.mono ?_)
          · go_grown
          · go_size
        go_wp2
        all_goals
          go_ret
          exact ⟨rfl, by go_grown⟩
      · by_cases l0 : least < 1
        · clear hok
          go_enter Try.func5, Try.ntmps5
          go_wp2_with fail
          refine (HA.out _).mono ?_
          rintro e0 w0 ⟨rfl, hb0⟩
          have hw0 : Below w.heap.size w w0 := by
            refine Below.trans ?_ (hb0.mono ?_)
            · go_grown
            · go_size
          go_wp2
          all_goals
            go_ret
            exact ⟨rfl, by go_grown⟩
        · by_cases l1 : 1000 < least
          · clear hok
            go_enter Try.func5, Try.ntmps5
            go_wp2_with fail
            refine (HA.out _).mono ?_
            rintro e0 w0 ⟨rfl, hb0⟩
            have hw0 : Below w.heap.size w w0 := by
              refine Below.trans ?_ (hb0.mono ?_)
              · go_grown
              · go_size
            go_wp2
            all_goals
              go_ret
              exact ⟨rfl, by go_grown⟩
          · obtain ⟨l, rfl⟩ := Int.eq_ofNat_of_zero_le (show 0 ≤ least by omega)
            have hm : l * n ≤ 1000 * 100 := Nat.mul_le_mul (by omega) (by omega)
            have e : (l : Int) * (n : Int) = ((l * n : Nat) : Int) := by rw [Int.natCast_mul]
            rw [e] at hok
            have q0 : wrap64 ((l : Int) * (n : Int)) = ((l * n : Nat) : Int) := by
              rw [e]
              exact IntWalk.wrap64_in _ (by omega)
            generalize l * n = m at *
            clear e
            have Q0 := Lib.hid q0
            clear q0
            by_cases t0 : total < (m : Int)
            · clear hok
              go_enter Try.func5, Try.ntmps5
              go_wp2_with fail
              refine (HA.out _).mono ?_
              rintro e0 w0 ⟨rfl, hb0⟩
              have hw0 : Below w.heap.size w w0 := by
                refine Below.trans ?_ (hb0.mono ?_)
                · go_grown
                · go_size
              go_wp2_with (first | rw [Q0.out] | fail)
              all_goals
                go_ret
                exact ⟨rfl, by go_grown⟩
            · have t1 : 1073741824 < total := by omega
              clear hok
              go_enter Try.func5, Try.ntmps5
              go_wp2_with fail
              refine (HA.out _).mono ?_
              rintro e0 w0 ⟨rfl, hb0⟩
              have hw0 : Below w.heap.size w w0 := by
                refine Below.trans ?_ (hb0.mono ?_)
                · go_grown
                · go_size
              go_wp2_with (first | rw [Q0.out] | fail)
              all_goals
                go_ret
                exact ⟨rfl, by go_grown⟩
end Go.Proofs.Ytdfmebfkhcdphaa

/-
  What the reference's At and Cost hand back. No condition but that the rows lie in memory and are short of a million.
-/
import Derived.Test.YtnmcgboafdglbaaW16b
import Derived.Test.YtnmcgboafdglbaaW1c
set_option linter.unusedSimpArgs false
set_option linter.unusedVariables false
namespace Go.Proofs.Ytnmcgboafdglbaa
open Go Go.RowKit Go.Sort M

theorem rat_any (p : Option Addr) (c : Nat) (C : List Int) (n : Nat) (w : World) (hC : IRow w p C) (hl : C.length ≤ 1000000) (hn : n ≤ 128) :
    Calls Try.prog 22 #[.slice p C.length c, .int .i64 (n : Int)] w fun e w' => e = .returned (.int .i64 (atC C n : Nat)) ∧ Below w.heap.size w w' := by
  by_cases hi : n < C.length
  · obtain ⟨g, o, rfl, hg, x0⟩ := hC.at hi
    have he := atC_at C n hi
    obtain ⟨a, ha⟩ : ∃ a, a = C[n] := ⟨_, rfl⟩
    rw [← ha] at x0 he
    have i1 : (0 : Int) ≤ (n : Int) := by omega
    have i2 : (n : Int) < (C.length : Int) := by omega
    have hc : ∀ w, Calls Try.prog 21 #[.int .i64 a, .int .i64 0, .int .i64 1048576] w fun e w' => e = .returned (.int .i64 (atC C n : Nat)) ∧ w = w' := fun w =>
      (cap_any a 0 1048576 w).mono fun e w' ⟨h1, h2⟩ => ⟨h1.trans (ret_num (by rw [he]; split <;> (try split) <;> omega)), h2⟩
    have HC := Lib.hid hc
    clear ha he hc hC
    go_enter Try.func22, Try.ntmps22
    go_wp2_with fail
    refine (HC.out _).mono ?_
    rintro e w1 ⟨rfl, rfl⟩
    go_wp2
    go_ret
    exact ⟨rfl, by go_grown⟩
  · have HE := Lib.hid (atC_past C n (by omega))
    clear hC
    go_enter Try.func22, Try.ntmps22
    go_wp2
    go_ret
    exact ⟨ret_num (by rw [HE.out]; rfl), by go_grown⟩
theorem cap_low (low : Int) (m : Nat) (h : 0 ≤ low) (hm : m = min low.toNat 128) (w : World) : Calls Try.prog 21 #[.int .i64 low, .int .i64 0, .int .i64 128] w fun e w' => e = .returned (.int .i64 (m : Nat)) ∧ w = w' :=
  (cap_any low 0 128 w).mono fun e w' ⟨h1, h2⟩ => ⟨h1.trans (ret_num (by split <;> (try split) <;> omega)), h2⟩
set_option maxHeartbeats 2000000 in
set_option maxRecDepth 100000 in
theorem rcost_any (p q : Option Addr) (c d : Nat) (C L : List Int) (low : Int) (w : World) (hC : IRow w p C) (hL : IRow w q L) (h1 : C.length ≤ 1000000) (h2 : L.length ≤ 1000000) :
    Calls Try.prog 14 #[.slice p C.length c, .slice q L.length d, .int .i64 low] w fun e w' => e = .returned (ansV (costK C L low)) ∧ Below w.heap.size w w' := by
  by_cases h0 : low < 0
  · have hc : costK C L low = none := by unfold costK; rw [if_neg (by omega)]
    rw [hc]
    clear hc hC hL
    go_enter Try.func14, Try.ntmps14
    go_wp2
    go_ret2
    exact ⟨rfl, by go_grown⟩
  · have hT := fun n hn w' (hb : Below w.heap.size w w') => rat_any p c C n w' (hC.below hb) h1 hn
    have HT := Lib.hid hT
    have HL := Lib.hid hL
    have HLE := Lib.hid fun n => atC_le C n
    obtain ⟨m, hm⟩ : ∃ m, m = min low.toNat 128 := ⟨_, rfl⟩
    have HCAP := Lib.hid (cap_low low m (by omega) hm)
    have hm1 : m ≤ 128 := by omega
    have hm2 : m + 1 ≤ 128 → low < ((m + 1 : Nat) : Int) := by omega
    have hm3 : ((m + 1 : Nat) : Int) ≤ low + 1 := by omega
    have HM3 := Lib.hid hm3
    have HM2 := Lib.hid hm2
    have HM := Lib.hid (rise_mem L low)
    have hnf : riseB low L = false → costK C L low = none := fun h => by unfold costK; rw [if_neg (fun e => by rw [h] at e; cases e.2)]
    have hnt : riseB low L = true → costK C L low = sumK C L low 129 0 0 := fun h => by unfold costK; rw [if_pos ⟨by omega, h⟩]
    have HNF := Lib.hid hnf
    have HNT := Lib.hid hnt
    obtain ⟨R, hR⟩ : ∃ R, R = costK C L low := ⟨_, rfl⟩
    rw [← hR] at HNF HNT ⊢
    clear hT hm hm2 hm3 hC hL h1 hnf hnt hR
    go_enter Try.func14, Try.ntmps14
    go_wp2
    go_loopg [8] L.length (fun kx s8 wr => ∃ (i : Nat) (lo : Int), s8 = .int .i64 (i : Int) ∧ L.length - i ≤ kx ∧ i ≤ L.length ∧ Hid (riseB lo (L.drop i) = riseB low L) ∧ low ≤ lo ∧ (i = 0 → lo = low) ∧ Hid (∀ j, j + 1 = i → (h : j < L.length) → L[j] = lo) ∧ Below w.heap.size w wr)
    case atStart => exact ⟨0, low, rfl, by omega, by omega, Lib.hid rfl, by omega, fun _ => rfl, Lib.hid (fun j hj _ => by omega), by go_grown⟩
    case round =>
      obtain ⟨i, lo, rfl, h3, h4, HI, h5, h6, HP, hb⟩ := hrel
      by_cases hi : i < L.length
      · obtain ⟨g, o, rfl, hg, x0⟩ := (HL.out.below hb).at hi
        have hs := riseB_drop lo L i hi
        rw [HI.out] at hs
        have hp2 : ∀ j, j + 1 = i + 1 → (h : j < L.length) → L[j] = L[i] := fun j hj _ => by obtain rfl : j = i := (by omega); rfl
        obtain ⟨a, ha⟩ : ∃ a, a = L[i] := ⟨_, rfl⟩
        rw [← ha] at x0 hs hp2
        have i1 : (0 : Int) ≤ (i : Int) := by omega
        have i2 : (i : Int) < (L.length : Int) := by omega
        have hz0 := hb.size
        have HPO := HP
        clear ha HP
        have HP := Lib.hid hp2
        clear hp2
        by_cases c1 : a ≤ low
        · have HF : Hid (R = none) := Lib.hid (HNF.out (by rw [hs, decide_eq_false (by omega : ¬ lo < a)]; rfl))
          clear hs
          skip
          go_wp2_with fail
          have kg := cell_grow
          refine region_whole (by kernel_rfl) (by kernel_rfl) ?_
          repeat (any_goals (first | go_big_quiet_step (fail) | quiet_step (fail)))
          refine wpQuiet_nil ?_
          clear kg
          intro w5 hb5
          obtain ⟨hc5, hf5⟩ := bcell hb5
          have hw5 : Below w.heap.size w w5 := by
            refine Below.trans ?_ (hb5.mono ?_)
            · go_grown
            · first | omega | go_size
          go_wp2
          go_ret2
          exact ⟨by rw [HF.out]; rfl, hw5⟩
        · by_cases c2 : (128 : Int) < a
          · have HF : Hid (R = none) := Lib.hid (HNF.out (by rw [hs, decide_eq_false (by omega : ¬ a ≤ 128)]; simp))
            clear hs
            go_wp2_with fail
            have kg := cell_grow
            refine region_whole (by kernel_rfl) (by kernel_rfl) ?_
            repeat (any_goals (first | go_big_quiet_step (fail) | quiet_step (fail)))
            refine wpQuiet_nil ?_
            clear kg
            intro w5 hb5
            obtain ⟨hc5, hf5⟩ := bcell hb5
            have hw5 : Below w.heap.size w w5 := by
              refine Below.trans ?_ (hb5.mono ?_)
              · go_grown
              · first | omega | go_size
            go_wp2
            go_ret2
            exact ⟨by rw [HF.out]; rfl, hw5⟩
          · by_cases c3 : i = 0
            · obtain rfl := h6 c3
              have HN : Hid (riseB a (L.drop (i + 1)) = riseB lo L) := by rw [hs, decide_eq_true (by omega : lo < a), decide_eq_true (by omega : a ≤ 128)]; exact Lib.hid rfl
              have i6 : ¬ (0 : Int) < (i : Int) := by omega
              have i7 : decide ((0 : Int) < (i : Int)) = false := decide_eq_false i6
              have i8 : ¬ 0 < i := by omega
              have i9 : decide (0 < i) = false := decide_eq_false i8
              have C3 := Lib.hid c3
              clear hs c3 h6
              go_wp2_with fail
              have kg := cell_grow
              refine region_whole (by kernel_rfl) (by kernel_rfl) ?_
              repeat (any_goals (first | go_big_quiet_step (fail) | quiet_step (fail)))
              refine wpQuiet_nil ?_
              clear kg
              intro w5 hb5
              obtain ⟨hc5, hf5⟩ := bcell hb5
              have hw5 : Below w.heap.size w w5 := by
                refine Below.trans ?_ (hb5.mono ?_)
                · go_grown
                · first | omega | go_size
              go_wp2
              go_roundg (L.length - (i + 1))
              case measure => omega
              case rel => exact ⟨i + 1, a, by go_num, by omega, by omega, HN, by omega, by omega, HP, hw5⟩
            · obtain ⟨j, hj⟩ : ∃ j, j + 1 = i := ⟨i - 1, by omega⟩
              have y0 := (HL.out.below hb).at (k := j) (by omega)
              obtain ⟨g', o', hgo, -, y0⟩ := y0
              injection hgo with hgo
              injection hgo with e1 e2
              subst e1
              subst e2
              rw [HPO.out j hj (by omega), show j = i - 1 by omega] at y0
              have i3 : (0 : Int) ≤ (i : Int) - 1 := by omega
              have i4 : (i : Int) - 1 < (L.length : Int) := by omega
              have i5 : (0 : Int) < (i : Int) := by omega
              have i6 : 0 < i := by omega
              have i7 : decide (0 < i) = true := decide_eq_true i6
              clear hj
              by_cases c4 : a ≤ lo
              · have HF : Hid (R = none) := Lib.hid (HNF.out (by rw [hs, decide_eq_false (by omega : ¬ lo < a)]; rfl))
                clear hs
                go_wp2_with fail
                have kg := cell_grow
                refine region_whole (by kernel_rfl) (by kernel_rfl) ?_
                repeat (any_goals (first | go_big_quiet_step (fail) | quiet_step (fail)))
                refine wpQuiet_nil ?_
                clear kg
                intro w5 hb5
                obtain ⟨hc5, hf5⟩ := bcell hb5
                have hw5 : Below w.heap.size w w5 := by
                  refine Below.trans ?_ (hb5.mono ?_)
                  · go_grown
                  · first | omega | go_size
                go_wp2
                go_ret2
                exact ⟨by rw [HF.out]; rfl, hw5⟩
              · have HN : Hid (riseB a (L.drop (i + 1)) = riseB low L) := by rw [hs, decide_eq_true (by omega : lo < a), decide_eq_true (by omega : a ≤ 128)]; exact Lib.hid rfl
                clear hs
                go_wp2_with fail
                have kg := cell_grow
                refine region_whole (by kernel_rfl) (by kernel_rfl) ?_
                repeat (any_goals (first | go_big_quiet_step (fail) | quiet_step (fail)))
                refine wpQuiet_nil ?_
                clear kg
                intro w5 hb5
                obtain ⟨hc5, hf5⟩ := bcell hb5
                have hw5 : Below w.heap.size w w5 := by
                  refine Below.trans ?_ (hb5.mono ?_)
                  · go_grown
                  · first | omega | go_size
                go_wp2
                go_roundg (L.length - (i + 1))
                case measure => omega
                case rel => exact ⟨i + 1, a, by go_num, by omega, by omega, HN, by omega, by omega, HP, hw5⟩
      · have hri : riseB low L = true := by
          have := HI.out
          rw [List.drop_eq_nil_of_le (by omega)] at this
          exact this.symm
        have HS0 : Hid (sumK C L low (129 - (m + 1)) (m + 1) 0 = R) := by
          rw [HNT.out hri, sumK_from C L low (m + 1) (by omega) HM3.out]
          exact Lib.hid rfl
        have HMR := Lib.hid (HM.out hri)
        clear HP h6 HI hri
        go_wp2_with fail
        refine (HCAP.out _).mono ?_
        rintro e w1 ⟨rfl, rfl⟩
        go_wp2
        go_loopg [9, 10] 129 (fun kx s9 s10 wr => ∃ (n s : Nat), s10 = .int .i64 (n : Int) ∧ 129 - n ≤ kx ∧ n ≤ 129 ∧ s9 = .int .i64 (s : Int) ∧ Hid (s ≤ capS n) ∧ (n ≤ 128 → low < (n : Int)) ∧ Hid (sumK C L low (129 - n) n s = R) ∧ Below w.heap.size w wr)
        case atStart => exact ⟨m + 1, 0, by go_num, by omega, by omega, rfl, Lib.hid (Nat.zero_le _), HM2.out, HS0, hb⟩
        case round =>
          clear hb HS0 h3 h4 h5
          obtain ⟨n, s, rfl, h3, h4, rfl, h5, h6, HS, hb⟩ := hrel
          by_cases hn : n < 129
          · have hTT := HT.out n (by omega) wr hb
            have hx := HLE.out n
            have hln := h6 (by omega)
            have hsk := fun h => sumK_skip C L low n s hn (.inr h)
            have hno := sumK_none C L low n s hn
            have hso := sumK_some C L low n s
            have htl : ∀ t, termH (near L n) n (atC C n) = some t → t ≤ 1099511627776 := fun t h => termH_le h hx
            obtain ⟨x, hxx⟩ : ∃ x, x = atC C n := ⟨_, rfl⟩
            rw [← hxx] at hTT hx hsk hno hso htl
            rw [HS.out] at hsk hno hso
            have HTT := Lib.hid hTT
            have HSK := Lib.hid hsk
            have HNO := Lib.hid hno
            have HSO := Lib.hid hso
            have HTL := Lib.hid htl
            have H6 := Lib.hid h6
            clear hTT hsk hno hso htl hxx HS h6
            go_wp2_with fail
            refine HTT.out.mono ?_
            rintro e w2 ⟨rfl, hb2⟩
            have hb2 := hb.trans (hb2.mono hb.size)
            clear HTT hb
            go_wp2
            rename World => wo
            go_loopg [12] L.length (fun kx s12 wr => ∃ (k : Nat), s12 = .int .i64 (k : Int) ∧ L.length - k ≤ kx ∧ k ≤ L.length ∧ Hid (near (L.drop k) n = near L n) ∧ Below w.heap.size w wr)
            case atStart => exact ⟨0, rfl, by omega, by omega, Lib.hid rfl, hb2⟩
            case round =>
              clear hb2
              obtain ⟨k, rfl, h7, h8, HK, hb⟩ := hrel
              by_cases hk : k < L.length
              · obtain ⟨g, o, rfl, hg, x0⟩ := (HL.out.below hb).at hk
                have hst := near_step L k n hk
                have hsp := near_stop L k n hk
                rw [HK.out] at hst hsp
                obtain ⟨a, ha⟩ : ∃ a, a = L[k] := ⟨_, rfl⟩
                rw [← ha] at x0 hst hsp
                have i1 : (0 : Int) ≤ (k : Int) := by omega
                have i2 : (k : Int) < (L.length : Int) := by omega
                have i3 : ((k : Int) == (L.length : Int)) = false := by rw [beq_eq_false_iff_ne]; omega
                clear ha
                by_cases hl : a < (n : Int)
                · have HN := Lib.hid (hst hl).symm
                  clear hst hsp
                  go_wp2
                  go_roundg (L.length - (k + 1))
                  case measure => omega
                  case rel => exact ⟨k + 1, by go_num, by omega, by omega, HN, hb⟩
                · have hnr := hsp hl
                  have hnd := near_head L n a _ hnr
                  have hm2 := HMR.out a hnd.2
                  by_cases hx0 : x = 0
                  · have HS2 := Lib.hid (HSK.out hx0).symm
                    have hx1 : ((x : Int) == 0) = true := by simp [hx0]
                    clear hst hsp hnr hnd
                    go_wp2
                    go_roundg (129 - (n + 1))
                    case measure => omega
                    case rel => exact ⟨n + 1, s, by go_num, by omega, by omega, rfl, Lib.hid (capS_same h5.out), by omega, HS2, hb⟩
                  · have hx1 : ((x : Int) == 0) = false := by simp [hx0]
                    by_cases h20 : 20 < a - (n : Int)
                    · have HNN := Lib.hid (HNO.out (by omega) (by rw [hnr]; simp only [termH]; rw [if_pos h20]))
                      clear hst hsp hnr hnd
                      go_wp2
                      go_ret2
                      exact ⟨by rw [HNN.out]; rfl, hb⟩
                    · obtain ⟨t, ht⟩ : ∃ t, termH (near L n) n x = some t := ⟨_, by rw [hnr]; simp only [termH]; rw [if_neg h20]⟩
                      have HSN := Lib.hid (HSO.out t hn (by omega) ht)
                      have htt := HTL.out t ht
                      have HQ : Hid ((n : Int) ≤ a ∧ x * 2 ^ (a - (n : Int)).toNat = t) := by
                        rw [hnr] at ht
                        simp only [termH] at ht
                        rw [if_neg h20] at ht
                        injection ht with ht
                        exact Lib.hid ⟨hnd.1, ht⟩
                      clear hst hsp hnr hnd ht
                      go_wp2
                      go_roundg (129 - (n + 1))
                      case measure => omega
                      case rel => exact ⟨n + 1, s + t, by go_num, by omega, by omega, by rw [sum_shift s x t n a HQ.out.1 (by omega) HQ.out.2 (capS_top h5.out (by omega)) htt], Lib.hid (capS_next h5.out htt), by omega, Lib.hid HSN.out.symm, hb⟩
              · have hne := near_end L k n (by omega)
                rw [HK.out] at hne
                by_cases hx0 : x = 0
                · have HS2 := Lib.hid (HSK.out hx0).symm
                  have hx1 : ((x : Int) == 0) = true := by simp [hx0]
                  clear hne
                  go_wp2
                  go_roundg (129 - (n + 1))
                  case measure => omega
                  case rel => exact ⟨n + 1, s, by go_num, by omega, by omega, rfl, Lib.hid (capS_same h5.out), by omega, HS2, hb⟩
                · have hx1 : ((x : Int) == 0) = false := by simp [hx0]
                  have HNN := Lib.hid (HNO.out (by omega) (by rw [hne]; rfl))
                  have i3 : ((k : Int) == (L.length : Int)) = true := by rw [beq_iff_eq]; omega
                  clear hne
                  go_wp2
                  go_ret2
                  exact ⟨by rw [HNN.out]; rfl, hb⟩
          · go_wp2
            go_ret2
            have := HS.out
            rw [show 129 - n = 0 by omega] at this
            exact ⟨by rw [← this]; rfl, hb⟩
end Go.Proofs.Ytnmcgboafdglbaa

/-
  CoverAll as a walk: it hands back true, for every input, if the program's Set hands back what it should. No condition but that the row's length is at most its capacity, and that a nil row has none.
-/
import Derived.Test.YtmdjbdhnenpjeaaM18b
import Derived.Test.YtmdjbdhnenpjeaaAppR
import Derived.Test.YtmdjbdhnenpjeaaRef12
set_option linter.unusedSimpArgs false
set_option linter.unusedVariables false
namespace Go.Proofs.Ytmdjbdhnenpjeaa
open Go Go.RowKit Go.Sort M

set_option maxHeartbeats 2000000 in
set_option maxRecDepth 100000 in
theorem call_walk (HSC : SetC) (q : Option Addr) (c : Nat) (L : List Rt) (ah al : Nat) (low high : Int) (w : World) (hR : Row w q (rcs L)) (hg : ∀ x ∈ L, x.k.good) (ha : W64 ah) (hb : W64 al) (hcap : L.length ≤ c) (hnil : q = none → c = 0) (hL : L.length ≤ maxLen) :
    Calls Try.prog 4 #[.slice q L.length c, .agg #[.int .u64 (ah : Int), .int .u64 (al : Int)], .int .i64 low, .int .i64 high] w fun e w' => e = .returned (.bool true) ∧ Below w.heap.size w w' := by
  have HA := Lib.hid (fun w => alive18_any HSC w)
  unfold maxLen at hL
  by_cases g1 : L.length ≤ 40
  · by_cases g2 : low < -1
    · clear hR hg
      go_enter Try.func4, Try.ntmps4
      go_wp2_with fail
      refine (HA.out _).mono ?_
      rintro e w0 ⟨rfl, hb0⟩
      have hw0 : Below w.heap.size w w0 := Below.trans (by go_grown) (hb0.mono (by simp))
      go_wp2
      go_ret
      exact ⟨rfl, hw0⟩
    by_cases g3 : 128 < high
    · clear hR hg
      go_enter Try.func4, Try.ntmps4
      go_wp2_with fail
      refine (HA.out _).mono ?_
      rintro e w0 ⟨rfl, hb0⟩
      have hw0 : Below w.heap.size w w0 := Below.trans (by go_grown) (hb0.mono (by simp))
      go_wp2
      go_ret
      exact ⟨rfl, hw0⟩
    by_cases g4 : high ≤ low
    · clear hR hg
      go_enter Try.func4, Try.ntmps4
      go_wp2_with fail
      refine (HA.out _).mono ?_
      rintro e w0 ⟨rfl, hb0⟩
      have hw0 : Below w.heap.size w w0 := Below.trans (by go_grown) (hb0.mono (by simp))
      go_wp2
      go_ret
      exact ⟨rfl, hw0⟩
    by_cases g5 : 8 < high - low
    · clear hR hg
      go_enter Try.func4, Try.ntmps4
      go_wp2_with fail
      refine (HA.out _).mono ?_
      rintro e w0 ⟨rfl, hb0⟩
      have hw0 : Below w.heap.size w w0 := Below.trans (by go_grown) (hb0.mono (by simp))
      go_wp2
      go_ret
      exact ⟨rfl, hw0⟩
    obtain ⟨hn, rfl⟩ := Int.eq_ofNat_of_zero_le (show 0 ≤ high by omega)
    have hR0 : Hid (∀ W, Below w.heap.size w W → Row W q (rcs L)) := Lib.hid fun W h => hR.below h
    have hri := fun x (hx : x ∈ L) => rright_any x.k.h x.k.l x.k.n (hg x hx).1 (hg x hx).2
    have hgN : ∀ x ∈ sortR L, x.k.good := fun x hx => hg x (sortR_sub hx)
    have h3 := fun W (h : Below w.heap.size w W) => HSC q c L low (hn : Int) W (hR.below h) hg hnil hcap (by omega)
    have h4 := fun W (h : Below w.heap.size w W) => rsorted_any q c L W (hR.below h) (by omega)
    have hls := sortR_len L
    have hsl : (setS (sortR L) low (hn : Int)).length < 1048576 := by
      unfold setS
      split
      · have e1 := fS_len (sortR L) low (keysS (sortR L) low (hn : Int))
        have e2 := keysS_len (sortR L) low (hn : Int) hgN (sortR L).length (Nat.le_refl _)
        rw [List.take_length] at e2
        unfold fS at e1
        omega
      · simp
    have his := cover_is (N := sortR L) hgN ha hb (by omega : hn ≤ 128) (by omega : low < (hn : Int)) (by omega)
    have hho := fun i b => cover_hop (N := sortR L) (ah := ah) (al := al) (hn := hn) (low := low) (i := i) (b := b)
    obtain ⟨N, hN⟩ : ∃ N, N = sortR L := ⟨_, rfl⟩
    rw [← hN] at h3 h4 hsl his hho hls hgN
    obtain ⟨S, hS⟩ : ∃ S, S = setS N low (hn : Int) := ⟨_, rfl⟩
    rw [← hS] at h3 hsl his hho
    have h5 := fun W p d (h : Row W p (rcs S)) => find12_any p d S (cutK ah al hn) W h hsl
    have hlg := fun W p d (h : Row W p (rcs N)) => rlongest_any p d N ah al low (hn : Int) ha hb W h hgN (by omega)
    have hcut := rcut_any ah al (hn : Int) ha hb
    rw [Int.toNat_natCast] at hcut
    have H3 := Lib.hid h3
    have H4 := Lib.hid h4
    have HCUT := Lib.hid hcut
    have HRI := Lib.hid hri
    have hlow : ¬ (hn : Int) ≤ low := g4
    cases hf : findS S (cutK ah al hn) with
    | none =>
      cases hl : lngI N (candB ah al low (hn : Int)) N.length with
      | some b => rw [hf, hl] at his; cases his
      | none =>
        have hst : stI S (cutK ah al hn) = -1 := by unfold stI; rw [hf]
        rw [hst] at h5
        rw [hl] at hlg
        have HF : Hid (∀ W (p : Option Addr) d, Row W p (rcs S) → Calls Try.prog 12 #[.slice p S.length d, .agg #[.int .u64 (cutW ah hn : Nat), .int .u64 (cutW al (hn - 64) : Nat), .int .i64 (hn : Int)]] W fun e w' => e = .returned (.int .i64 (-1)) ∧ Below W.heap.size W w') := Lib.hid h5
        have HLG : Hid (∀ W (p : Option Addr) d, Row W p (rcs N) → Calls Try.prog 15 #[.slice p N.length d, .agg #[.int .u64 (ah : Int), .int .u64 (al : Int)], .int .i64 low, .int .i64 (hn : Int)] W fun e w' => e = .returned (.int .i64 (-1)) ∧ Below W.heap.size W w') := Lib.hid hlg
        clear h3 h4 h5 hcut hri hlg hst hf hl his hho hN hS hR hg hgN hls hsl ha hb
        go_enter Try.func4, Try.ntmps4
        go_wp2_with fail
        refine (HA.out _).mono ?_
        rintro e w0 ⟨rfl, hb0⟩
        have hw0 : Below w.heap.size w w0 := Below.trans (by go_grown) (hb0.mono (by simp))
        have b0 : w0.cell? ⟨w.heap.size, 0, none⟩ = some (.int .u64 (ah : Int)) := by
          rw [hb0.cell (by simp <;> omega)]
          first | assumption | (simp [go_sem]; done) | (simp [go_sem, *]; done)
        have b1 : w0.cell? ⟨w.heap.size, 1, none⟩ = some (.int .u64 (al : Int)) := by
          rw [hb0.cell (by simp <;> omega)]
          first | assumption | (simp [go_sem]; done) | (simp [go_sem, *]; done)
        have hz0 : w.heap.size < w0.heap.size := by have := hb0.size; simp at this; omega
        clear hb0
        go_wp2
        go_loopg [10] L.length (fun kx s10 wr => ∃ j : Nat, s10 = .int .i64 (j : Int) ∧ L.length - j ≤ kx ∧ j ≤ L.length ∧ wr.cell? ⟨w.heap.size, 0, none⟩ = some (.int .u64 (ah : Int)) ∧ wr.cell? ⟨w.heap.size, 1, none⟩ = some (.int .u64 (al : Int)) ∧ w.heap.size < wr.heap.size ∧ Below w.heap.size w wr)
        case atStart => exact ⟨0, rfl, by omega, by omega, b0, b1, hz0, hw0⟩
        case round =>
          clear b0 b1 hz0 hw0
          obtain ⟨j, rfl, k1, k2, b0, b1, hz, hb⟩ := hrel
          by_cases hj : j < L.length
          · obtain ⟨g, o, rfl, hgz, x0, x1, x2, -⟩ := (hR0.out _ hb).rt hj
            have hr := HRI.out L[j] (List.getElem_mem hj)
            generalize L[j] = r at x0 x1 x2 hr
            obtain ⟨⟨rh, rl, rn⟩, rv⟩ := r
            simp only at x0 x1 x2 hr
            have HRJ := Lib.hid hr
            have j1 : (0 : Int) ≤ (j : Int) := by omega
            have j2 : (j : Int) < (L.length : Int) := by omega
            clear hr
            cases hrb : rightB rh rl rn with
            | true =>
              rw [hrb] at HRJ
              clear hrb
              go_wp2_with fail
              refine (HRJ.out _).mono ?_
              rintro e w2 ⟨rfl, hb2⟩
              have b0 := (hb2.cell (p := ⟨w.heap.size, 0, none⟩) hz).trans b0
              have b1 := (hb2.cell (p := ⟨w.heap.size, 1, none⟩) hz).trans b1
              have hz2 := Nat.lt_of_lt_of_le hz hb2.size
              have hb := hb.trans (hb2.mono hb.size)
              go_wp2
              go_roundg (L.length - (j + 1))
              case measure => omega
              case rel => exact ⟨j + 1, by go_num, by omega, by omega, b0, b1, hz2, hb⟩
            | false =>
              rw [hrb] at HRJ
              clear hrb
              go_wp2_with fail
              refine (HRJ.out _).mono ?_
              rintro e w2 ⟨rfl, hb2⟩
              have hb := hb.trans (hb2.mono hb.size)
              go_wp2
              go_ret
              exact ⟨rfl, hb⟩
          · skip
            go_wp2_with fail
            refine (H3.out _ hb).mono ?_
            rintro e w3 ⟨p3, c3, rfl, ho3, hb3⟩
            have hr3 := Row.of_own ho3
            have hw3 := hb.trans (hb3.mono hb.size)
            have b0 := (hb3.cell (p := ⟨w.heap.size, 0, none⟩) hz).trans b0
            have b1 := (hb3.cell (p := ⟨w.heap.size, 1, none⟩) hz).trans b1
            have hz3 := Nat.lt_of_lt_of_le hz hb3.size
            clear ho3 hb3
            go_wp2_with fail
            refine (HCUT.out _).mono ?_
            rintro e w4 ⟨rfl, hb4⟩
            have hr4 := hr3.below hb4
            have hw4 := hw3.trans (hb4.mono hw3.size)
            have b0 := (hb4.cell (p := ⟨w.heap.size, 0, none⟩) hz3).trans b0
            have b1 := (hb4.cell (p := ⟨w.heap.size, 1, none⟩) hz3).trans b1
            have hz4 := Nat.lt_of_lt_of_le hz3 hb4.size
            clear hr3 hb4
            go_wp2_with fail
            refine (HF.out _ _ _ hr4).mono ?_
            rintro e w5 ⟨rfl, hb5⟩
            have hr5 := hr4.below hb5
            have hw5 := hw4.trans (hb5.mono hw4.size)
            have b0 := (hb5.cell (p := ⟨w.heap.size, 0, none⟩) hz4).trans b0
            have b1 := (hb5.cell (p := ⟨w.heap.size, 1, none⟩) hz4).trans b1
            have hz5 := Nat.lt_of_lt_of_le hz4 hb5.size
            clear hr4 hb5
            go_wp2_with fail
            refine (H4.out _ hw5).mono ?_
            rintro e w6 ⟨p6, c6, rfl, ho6, hb6⟩
            have hs6 := Row.of_own ho6
            have hr6 := hr5.below hb6
            have hw6 := hw5.trans (hb6.mono hw5.size)
            have b0 := (hb6.cell (p := ⟨w.heap.size, 0, none⟩) hz5).trans b0
            have b1 := (hb6.cell (p := ⟨w.heap.size, 1, none⟩) hz5).trans b1
            clear ho6 hr5 hb6
            go_wp2_with fail
            refine (HLG.out _ _ _ hs6).mono ?_
            rintro e w7 ⟨rfl, hb7⟩
            have hs7 := hs6.below hb7
            have hr7 := hr6.below hb7
            have hw7 := hw6.trans (hb7.mono hw6.size)
            clear hs6 hr6 hb7 b0 b1
            go_wp2_with fail
            have kg := cell_grow
            refine region_whole (by kernel_rfl) (by kernel_rfl) ?_
            repeat (any_goals (first | go_big_quiet_step (fail) | quiet_step (fail)))
            refine wpQuiet_nil ?_
            clear kg
            intro w13 hb13
            obtain ⟨hc13, hf13⟩ := bcell hb13
            have hw13 := hw7.trans (hb13.mono hw7.size)
            go_wp2
            go_ret
            exact ⟨rfl, hw13⟩
    | some i =>
      cases hl : lngI N (candB ah al low (hn : Int)) N.length with
      | none => rw [hf, hl] at his; cases his
      | some b =>
        have hst : stI S (cutK ah al hn) = (i : Int) := by unfold stI; rw [hf]
        rw [hst] at h5
        rw [hl] at hlg
        have hil := (find_some18 hf).1
        have hbl := lng_lt hl
        have hv := hho i b hf hl
        rw [getD_at hil, getD_at hbl] at hv
        obtain ⟨v, hv2⟩ : ∃ v, v = S[i].v := ⟨_, rfl⟩
        rw [← hv2] at hv
        have HF : Hid (∀ W (p : Option Addr) d, Row W p (rcs S) → Calls Try.prog 12 #[.slice p S.length d, .agg #[.int .u64 (cutW ah hn : Nat), .int .u64 (cutW al (hn - 64) : Nat), .int .i64 (hn : Int)]] W fun e w' => e = .returned (.int .i64 (i : Int)) ∧ Below W.heap.size W w') := Lib.hid h5
        have HLG : Hid (∀ W (p : Option Addr) d, Row W p (rcs N) → Calls Try.prog 15 #[.slice p N.length d, .agg #[.int .u64 (ah : Int), .int .u64 (al : Int)], .int .i64 low, .int .i64 (hn : Int)] W fun e w' => e = .returned (.int .i64 (b : Int)) ∧ Below W.heap.size W w') := Lib.hid hlg
        have i1 : (0 : Int) ≤ (i : Int) := by omega
        have i2 : (i : Int) < (S.length : Int) := by omega
        have i3 : (0 : Int) ≤ (b : Int) := by omega
        have i4 : (b : Int) < (N.length : Int) := by omega
        have HV1 := Lib.hid hv
        have HV2 := Lib.hid hv2
        have HIL := Lib.hid hil
        have HBL := Lib.hid hbl
        clear h3 h4 h5 hcut hri hlg hst hf hl his hho hN hS hR hg hgN hls hsl ha hb hv hv2
        go_enter Try.func4, Try.ntmps4
        go_wp2_with fail
        refine (HA.out _).mono ?_
        rintro e w0 ⟨rfl, hb0⟩
        have hw0 : Below w.heap.size w w0 := Below.trans (by go_grown) (hb0.mono (by simp))
        have b0 : w0.cell? ⟨w.heap.size, 0, none⟩ = some (.int .u64 (ah : Int)) := by
          rw [hb0.cell (by simp <;> omega)]
          first | assumption | (simp [go_sem]; done) | (simp [go_sem, *]; done)
        have b1 : w0.cell? ⟨w.heap.size, 1, none⟩ = some (.int .u64 (al : Int)) := by
          rw [hb0.cell (by simp <;> omega)]
          first | assumption | (simp [go_sem]; done) | (simp [go_sem, *]; done)
        have hz0 : w.heap.size < w0.heap.size := by have := hb0.size; simp at this; omega
        clear hb0
        go_wp2
        go_loopg [10] L.length (fun kx s10 wr => ∃ j : Nat, s10 = .int .i64 (j : Int) ∧ L.length - j ≤ kx ∧ j ≤ L.length ∧ wr.cell? ⟨w.heap.size, 0, none⟩ = some (.int .u64 (ah : Int)) ∧ wr.cell? ⟨w.heap.size, 1, none⟩ = some (.int .u64 (al : Int)) ∧ w.heap.size < wr.heap.size ∧ Below w.heap.size w wr)
        case atStart => exact ⟨0, rfl, by omega, by omega, b0, b1, hz0, hw0⟩
        case round =>
          clear b0 b1 hz0 hw0
          obtain ⟨j, rfl, k1, k2, b0, b1, hz, hb⟩ := hrel
          by_cases hj : j < L.length
          · obtain ⟨g, o, rfl, hgz, x0, x1, x2, -⟩ := (hR0.out _ hb).rt hj
            have hr := HRI.out L[j] (List.getElem_mem hj)
            generalize L[j] = r at x0 x1 x2 hr
            obtain ⟨⟨rh, rl, rn⟩, rv⟩ := r
            simp only at x0 x1 x2 hr
            have HRJ := Lib.hid hr
            have j1 : (0 : Int) ≤ (j : Int) := by omega
            have j2 : (j : Int) < (L.length : Int) := by omega
            clear hr
            cases hrb : rightB rh rl rn with
            | true =>
              rw [hrb] at HRJ
              clear hrb
              go_wp2_with fail
              refine (HRJ.out _).mono ?_
              rintro e w2 ⟨rfl, hb2⟩
              have b0 := (hb2.cell (p := ⟨w.heap.size, 0, none⟩) hz).trans b0
              have b1 := (hb2.cell (p := ⟨w.heap.size, 1, none⟩) hz).trans b1
              have hz2 := Nat.lt_of_lt_of_le hz hb2.size
              have hb := hb.trans (hb2.mono hb.size)
              go_wp2
              go_roundg (L.length - (j + 1))
              case measure => omega
              case rel => exact ⟨j + 1, by go_num, by omega, by omega, b0, b1, hz2, hb⟩
            | false =>
              rw [hrb] at HRJ
              clear hrb
              go_wp2_with fail
              refine (HRJ.out _).mono ?_
              rintro e w2 ⟨rfl, hb2⟩
              have hb := hb.trans (hb2.mono hb.size)
              go_wp2
              go_ret
              exact ⟨rfl, hb⟩
          · skip
            go_wp2_with fail
            refine (H3.out _ hb).mono ?_
            rintro e w3 ⟨p3, c3, rfl, ho3, hb3⟩
            have hr3 := Row.of_own ho3
            have hw3 := hb.trans (hb3.mono hb.size)
            have b0 := (hb3.cell (p := ⟨w.heap.size, 0, none⟩) hz).trans b0
            have b1 := (hb3.cell (p := ⟨w.heap.size, 1, none⟩) hz).trans b1
            have hz3 := Nat.lt_of_lt_of_le hz hb3.size
            clear ho3 hb3
            go_wp2_with fail
            refine (HCUT.out _).mono ?_
            rintro e w4 ⟨rfl, hb4⟩
            have hr4 := hr3.below hb4
            have hw4 := hw3.trans (hb4.mono hw3.size)
            have b0 := (hb4.cell (p := ⟨w.heap.size, 0, none⟩) hz3).trans b0
            have b1 := (hb4.cell (p := ⟨w.heap.size, 1, none⟩) hz3).trans b1
            have hz4 := Nat.lt_of_lt_of_le hz3 hb4.size
            clear hr3 hb4
            go_wp2_with fail
            refine (HF.out _ _ _ hr4).mono ?_
            rintro e w5 ⟨rfl, hb5⟩
            have hr5 := hr4.below hb5
            have hw5 := hw4.trans (hb5.mono hw4.size)
            have b0 := (hb5.cell (p := ⟨w.heap.size, 0, none⟩) hz4).trans b0
            have b1 := (hb5.cell (p := ⟨w.heap.size, 1, none⟩) hz4).trans b1
            have hz5 := Nat.lt_of_lt_of_le hz4 hb5.size
            clear hr4 hb5
            go_wp2_with fail
            refine (H4.out _ hw5).mono ?_
            rintro e w6 ⟨p6, c6, rfl, ho6, hb6⟩
            have hs6 := Row.of_own ho6
            have hr6 := hr5.below hb6
            have hw6 := hw5.trans (hb6.mono hw5.size)
            have b0 := (hb6.cell (p := ⟨w.heap.size, 0, none⟩) hz5).trans b0
            have b1 := (hb6.cell (p := ⟨w.heap.size, 1, none⟩) hz5).trans b1
            clear ho6 hr5 hb6
            go_wp2_with fail
            refine (HLG.out _ _ _ hs6).mono ?_
            rintro e w7 ⟨rfl, hb7⟩
            have hs7 := hs6.below hb7
            have hr7 := hr6.below hb7
            have hw7 := hw6.trans (hb7.mono hw6.size)
            clear hs6 hr6 hb7 b0 b1
            obtain ⟨g8, o8, rfl, hg8, -, -, -, y3⟩ := hr7.rt HIL.out
            obtain ⟨g9, o9, rfl, hg9, -, -, -, z3⟩ := hs7.rt HBL.out
            rw [← HV2.out] at y3
            rw [← HV1.out] at z3
            clear hr7 hs7
            have hw7s := hw7.size
            go_wp2_with fail
            have kg := cell_grow
            refine region_whole (by kernel_rfl) (by kernel_rfl) ?_
            repeat (any_goals (first | go_big_quiet_step (fail) | quiet_step (fail)))
            refine wpQuiet_nil ?_
            clear kg
            intro w13 hb13
            obtain ⟨hc13, hf13⟩ := bcell hb13
            have hw13 := hw7.trans (hb13.mono hw7.size)
            go_wp2
            go_ret
            exact ⟨rfl, hw13⟩
  · clear hR hg
    go_enter Try.func4, Try.ntmps4
    go_wp2_with fail
    refine (HA.out _).mono ?_
    rintro e w0 ⟨rfl, hb0⟩
    have hw0 : Below w.heap.size w w0 := Below.trans (by go_grown) (hb0.mono (by simp))
    go_wp2
    go_ret
    exact ⟨rfl, hw0⟩
end Go.Proofs.Ytmdjbdhnenpjeaa

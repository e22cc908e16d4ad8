/-
  What the reference's Shares hands back. No condition but that the numbers are whole numbers of 64 bits, and that the row's length is one.
-/
import Derived.Test.YtdfmebfkhcdphaaW10d
set_option linter.unusedSimpArgs false
set_option linter.unusedVariables false
namespace Go.Proofs.Ytdfmebfkhcdphaa
open Go.RowKit Go.Sort M

set_option maxHeartbeats 2000000 in
theorem rshares_bad (total least : Int) (p : Option Addr) (c : Nat) (n : Nat) (w : World) (hn : n ≤ 1000000000) (h : ¬ shOk total least n) :
    Calls Try.prog 9 #[.int .i64 total, .int .i64 least, .slice p n c] w fun e w' => e = .returned (.tuple #[.slice none 0 0, .int .i64 1]) ∧ Below w.heap.size w w' := by
  unfold shOk at h
  by_cases n0 : n < 1
  · clear h
    go_enter Try.func9, Try.ntmps9
    go_wp2_with fail
    go_ret2
    exact ⟨rfl, by go_grown⟩
  · by_cases n1 : 200 < n
    · clear h
      go_enter Try.func9, Try.ntmps9
      go_wp2_with fail
      go_ret2
      exact ⟨rfl, by go_grown⟩
    · by_cases l0 : least < 1
      · clear h
        go_enter Try.func9, Try.ntmps9
        go_wp2_with fail
        go_ret2
        exact ⟨rfl, by go_grown⟩
      · by_cases l1 : 65536 < least
        · clear h
          go_enter Try.func9, Try.ntmps9
          go_wp2_with fail
          go_ret2
          exact ⟨rfl, by go_grown⟩
        · by_cases t2 : total < 1
          · clear h
            go_enter Try.func9, Try.ntmps9
            go_wp2_with fail
            go_ret2
            exact ⟨rfl, by go_grown⟩
          · by_cases t1 : 1073741824 < total
            · clear h
              go_enter Try.func9, Try.ntmps9
              go_wp2_with fail
              go_ret2
              exact ⟨rfl, by go_grown⟩
            · obtain ⟨l, rfl⟩ := Int.eq_ofNat_of_zero_le (show 0 ≤ least by omega)
              have hm : l * n ≤ 65536 * 200 := Nat.mul_le_mul (by omega) (by omega)
              have e : (l : Int) * (n : Int) = ((l * n : Nat) : Int) := by rw [Int.natCast_mul]
              rw [e] at h
              have q0 : wrap64 ((l : Int) * (n : Int)) = ((l * n : Nat) : Int) := by
                rw [e]
                exact IntWalk.wrap64_in _ (by omega)
              generalize l * n = m at *
              clear e
              have Q0 := Lib.hid q0
              clear q0
              have t0 : total < (m : Int) := by omega
              clear h
              go_enter Try.func9, Try.ntmps9
              go_wp2_with (first | rw [Q0.out] | fail)
              go_ret2
              exact ⟨rfl, by go_grown⟩
set_option maxHeartbeats 4000000 in
theorem rshares_any (total least : Int) (p : Option Addr) (c : Nat) (X : List Nat) (w : World) (hX : Row w p (fcs X)) (h : shOk total least X.length) :
    Calls Try.prog 9 #[.int .i64 total, .int .i64 least, .slice p X.length c] w fun e w' => ∃ q d, e = .returned (.tuple #[.slice q X.length d, .int .i64 0]) ∧
      w'.ownsRow w.heap.size 3 1 (.slice q X.length d) X.length (ics (shL total least X)) ∧ Below w.heap.size w w' := by
  unfold shL
  have n1 := h.1
  have n2 := h.2.1
  obtain ⟨l, r, rfl, rfl, l1, l2, r1, t1, m1, e⟩ := shOk_parts h
  rw [e, Int.toNat_natCast]
  clear h e
  have hat : ∀ k, k < X.length → ∃ g o x, p = some ⟨g, o, none⟩ ∧ g < w.heap.size ∧ wtF X k = wtN x ∧ ∀ wx, Below w.heap.size w wx → wx.cell? ⟨g, o + k, none⟩ = some (.float .f64 x) := fun k hk => by
    obtain ⟨g, o, e, hg, hc⟩ := hX.atF hk
    exact ⟨g, o, _, e, hg, wtF_at X k hk, fun wx hb => (hb.cell (p := ⟨g, o + k, none⟩) hg).trans hc⟩
  have hwt := wtF_le X
  have hal := shares_all0 (wtF X) l r X.length
  have hsb : ∀ k, sumF (wtF X) k ≤ k * 1073741824 := sumF_bound (wtF_le X)
  generalize wtF X = wt at *
  generalize hn : X.length = n at *
  clear hX
  have hmk := make_row (P := Try.prog) (t := 25) Try.underlying25 infoI n (by omega) (by unfold maxLen; omega)
  obtain ⟨m, hm⟩ : ∃ m, m = n * l := ⟨_, rfl⟩
  rw [← hm] at t1 m1 ⊢
  obtain ⟨T, hT⟩ : ∃ T : Int, T = ((m + r : Nat) : Int) := ⟨_, rfl⟩
  rw [← hT]
  have hT1 : T ≤ 1073741824 := by omega
  have hT2 : (m : Int) ≤ T := by omega
  have hr : (r : Int) = T - m := by omega
  have hT3 : 1 ≤ T := by
    have : 1 * 1 ≤ n * l := Nat.mul_le_mul n1 l1
    omega
  have hr2 : T - (m : Int) ≤ 1073741824 := by omega
  have HR := Lib.hid hr
  have q0 : wrap64 ((l : Int) * (n : Int)) = (m : Int) := by
    rw [hm, show (l : Int) * (n : Int) = ((n * l : Nat) : Int) by rw [Int.natCast_mul, Int.mul_comm]]
    exact IntWalk.wrap64_in _ (by omega)
  have Q0 := Lib.hid q0
  have HAT := Lib.hid hat
  have HAL := Lib.hid hal
  have HWT := Lib.hid hwt
  have HSB := Lib.hid hsb
  clear q0 hat hal hwt hsb hm hn hT hr
  go_enter Try.func9, Try.ntmps9
  go_wp2_with (first | rw [Q0.out] | fail)
  go_loopw [8, 9] (fun s8 s9 wr => ∃ k : Nat, k ≤ n ∧ s9 = .int .i64 k ∧ s8 = .int .i64 (sumF wt k : Nat) ∧ Below w.heap.size w wr) (fun _ s9 _ => n - (intOf s9).toNat)
  case atStart => exact ⟨0, Nat.zero_le _, rfl, rfl, by go_grown⟩
  case round =>
    obtain ⟨k, hk, rfl, rfl, hw1⟩ := hrel
    have hz1 := hw1.size
    by_cases hlt : k < n
    · obtain ⟨g, o, x, rfl, hg0, ex, hcx⟩ := HAT.out k hlt
      have a0 := hcx wr hw1
      have hg : g < wr.heap.size := by omega
      have HCX := Lib.hid hcx
      clear hcx
      have hW := rweight_any x
      rw [← ex] at hW
      have hu := HWT.out k
      have hsum : sumF wt (k + 1) = sumF wt k + wt k := rfl
      have hsb := HSB.out (k + 1)
      have hS := Lib.hid hsum
      rw [hsum] at hsb
      generalize sumF wt k = S at hS hsb ⊢
      generalize wt k = u at hW hu hS hsb
      have HW := Lib.hid hW
      have hSb : S + u ≤ 214748364800 := by omega
      clear hW ex hsb hsum
      go_wp2_with fail
      refine (HW.out _).mono ?_
      rintro e w2 ⟨rfl, hb2⟩
      have hw2 := hw1.trans (hb2.mono hz1)
      clear hb2
      go_wp2
      go_roundw
      case rel => exact ⟨k + 1, by omega, by go_num, by rw [hS.out]; go_num, hw2⟩
      case measure => simp [intOf]; omega
    · have HK : Hid (k = n) := Lib.hid (by omega)
      obtain ⟨a, ha⟩ : ∃ a, a = sumF wt k := ⟨_, rfl⟩
      rw [← ha]
      have HA : Hid (a = sumF wt n) := Lib.hid (by rw [ha, HK.out])
      have hab : a ≤ 214748364800 := by
        have := HSB.out n
        rw [← HA.out] at this
        omega
      clear ha
      have hown0 : (wr.alloc (.cells (madeCells #[.int .i64 0] n) 3)).ownsRow w.heap.size 3 1 (.slice (some ⟨wr.heap.size, 0, none⟩) n n) n (ics ((List.range n).map fun _ => (0 : Int))) := by
        rw [← made_ints]
        exact World.ownsRow_lit _ _ n (by omega) (by unfold maxLen; omega) (by simp [madeCells])
      rename World => wo
      by_cases ha0 : a = 0
      · have HAL2 := Lib.hid (HAL.out (by rw [← HA.out]; exact ha0) n1)
        subst ha0
        clear HAL HWT HSB HAT HA
        rw [← mixL_none (fun _ => (l : Int))] at hown0
        go_wp2_with (first | rw [Q0.out] | fail)
        go_loopw [11, 13] (fun s11 s13 wr2 => ∃ k : Nat, k ≤ n ∧ s13 = .int .i64 k ∧ s11 = .int .i64 (T - m) ∧
          wr2.ownsRow w.heap.size 3 1 (.slice (some ⟨wo.heap.size, 0, none⟩) n n) n (ics (mixL (fun _ => (l : Int)) (fun _ => 0) k n)) ∧ Below w.heap.size w wr2) (fun _ s13 _ => n - (intOf s13).toNat)
        case atStart => exact ⟨0, Nat.zero_le _, rfl, rfl, hown0, by go_grown⟩
        case round =>
          clear hown0 hmk
          obtain ⟨i, hi, rfl, rfl, ho, hb⟩ := hrel
          have hz := hb.size
          have hgz := (ho.lt _ rfl).2
          by_cases hlt2 : i < n
          · have hset := mixL_set (fun _ => (l : Int)) (fun _ => 0) i n
            obtain ⟨v0, d0⟩ : ∃ v, wr.cell? ⟨wo.heap.size, i, none⟩ = some v := ⟨_, (ho.cellAt i (by omega)).trans (List.getElem?_eq_getElem (by rw [ics_len, mixL_len]; exact hlt2))⟩
            have f0 := ho.frozenAt i
            have HSET := Lib.hid hset
            clear hset
            go_wp2_with fail
            go_roundw
            case rel =>
              have hst := ho.stored i (.int .i64 (l : Nat))
              refine ⟨i + 1, by omega, by go_num, rfl, ?_, by go_grown⟩
              have := hst.1
              rw [ics_set, HSET.out] at this
              exact this
            case measure => simp [intOf]; omega
          · have hin : i = n := by omega
            have e1 : mixL (fun _ => (l : Int)) (fun _ => 0) i n = (List.range n).map fun _ => (l : Int) := by rw [hin, mixL_full]
            rw [e1] at ho
            have hoc := range_map_at (fun _ => (l : Int)) n 0 (by omega)
            have d0 : wr.cell? ⟨wo.heap.size, 0, none⟩ = some (.int .i64 (l : Nat)) := (ho.cellAt 0 (by omega)).trans hoc
            have f0 := ho.frozenAt 0
            clear e1 hin hoc
            go_wp2_with fail
            go_ret2
            have hst := ho.stored 0 (.int .i64 ((l : Int) + (T - m)))
            refine ⟨_, n, rfl, ?_, by go_grown⟩
            have := hst.1
            rw [ics_set, ← HR.out, show (l : Int) + (r : Int) = ((l + r : Nat) : Int) from rfl, HAL2.out] at this
            rw [← HR.out]
            exact this
      · have hps := part_sum wt r n (by rw [← HA.out]; omega)
        have hple := fun j hj => part_le wt r n j hj (by rw [← HA.out]; omega)
        have hsh : ∀ j, shF wt l r n j = ((l + cutP wt r (sumF wt n) j + deal wt (r - sumF (cutP wt r (sumF wt n)) n) j : Nat) : Int) := fun j => by
          unfold shF share over0
          rw [if_neg (by rw [← HA.out]; omega)]
        have hpd : ∀ j, cutP wt r (sumF wt n) j = wt j * r / sumF wt n := fun _ => rfl
        obtain ⟨F, hF⟩ : ∃ F, F = shF wt l r n := ⟨_, rfl⟩
        rw [← hF] at hsh
        have HFF := Lib.hid hF
        clear hF
        rw [← HA.out] at hps hple hsh hpd
        generalize cutP wt r a = P at hps hple hsh hpd
        have ha2 : ((a : Int) == 0) = false := by simp; omega
        have HPS := Lib.hid hps
        have HPL := Lib.hid hple
        have HSH := Lib.hid hsh
        have HPD := Lib.hid hpd
        clear hps hple hsh hpd HAL HSB HA
        rw [← mixL_none (fun j => ((l + P j : Nat) : Int))] at hown0
        go_wp2_with (first | rw [Q0.out] | fail)
        go_loopw [11, 13] (fun s11 s13 wr2 => ∃ k : Nat, k ≤ n ∧ s13 = .int .i64 k ∧ s11 = .int .i64 (r - sumF P k : Nat) ∧
          wr2.ownsRow w.heap.size 3 1 (.slice (some ⟨wo.heap.size, 0, none⟩) n n) n (ics (mixL (fun j => ((l + P j : Nat) : Int)) (fun _ => 0) k n)) ∧ Below w.heap.size w wr2) (fun _ s13 _ => n - (intOf s13).toNat)
        case atStart =>
          refine ⟨0, Nat.zero_le _, rfl, ?_, hown0, by go_grown⟩
          rw [← HR.out]
          rfl
        case round =>
          clear hown0 hmk
          obtain ⟨i, hi, rfl, rfl, ho, hb⟩ := hrel
          have hz := hb.size
          have hgz := (ho.lt _ rfl).2
          have hgl := (ho.lt _ rfl).1
          by_cases hlt2 : i < n
          · obtain ⟨g, o, x, rfl, hg0, ex, hcx⟩ := HAT.out i hlt2
            have a0 := hcx wr hb
            have hg : g < wr.heap.size := by omega
            have hne : g ≠ wo.heap.size := by omega
            have HCX := Lib.hid hcx
            have hW := rweight_any x
            rw [← ex] at hW
            have hu := HWT.out i
            have hsum : sumF P (i + 1) = sumF P i + P i := rfl
            have hps1 := HPS.out (i + 1) (by omega)
            have hpl := HPL.out i hlt2
            have hpd := HPD.out i
            have hset := mixL_set (fun j => ((l + P j : Nat) : Int)) (fun _ => 0) i n
            rw [hsum] at hps1
            generalize sumF P i = S at hsum hps1 ⊢
            generalize P i = q at hsum hps1 hpl hpd hset
            generalize wt i = u at hu hpd hW
            have hq1 := q_div u r a q hu r1 hpd
            have hq2 := q_mul u r hu r1
            rw [HR.out] at hq1 hq2
            have Q1 := Lib.hid hq1
            have Q2 := Lib.hid hq2
            clear hpd ex hq1 hq2
            have hsub : S + q ≤ r := by omega
            have HSET := Lib.hid hset
            have HS := Lib.hid hsum
            have HW := Lib.hid hW
            obtain ⟨c1, e1⟩ : ∃ v, v = ((r - S : Nat) : Int) := ⟨_, rfl⟩
            have c1b : (q : Int) ≤ c1 := by omega
            have c1c : c1 ≤ 1073741824 := by omega
            have HE1 := Lib.hid e1
            rw [← e1]
            obtain ⟨v0, d0⟩ : ∃ v, wr.cell? ⟨wo.heap.size, i, none⟩ = some v := ⟨_, (ho.cellAt i (by omega)).trans (List.getElem?_eq_getElem (by rw [ics_len, mixL_len]; exact hlt2))⟩
            have f0 := ho.frozenAt i
            clear hset hps1 e1 hsum hW hcx
            go_wp2_with fail
            refine (HW.out _).mono ?_
            rintro e w2 ⟨rfl, hb2⟩
            have hst := ho.stored i (.int .i64 (l : Nat))
            have ho2 := own_below hst.1 hb2
            have hb3 : Below w.heap.size w (wr.setCell ⟨wo.heap.size, i, none⟩ (.int .i64 (l : Nat))) := by go_grown
            have hw2 := hb3.trans (hb2.mono (by simpa using hz))
            have hz2 := hw2.size
            have hgz2 := (ho2.lt _ rfl).2
            have d1 : w2.cell? ⟨wo.heap.size, i, none⟩ = some (.int .i64 (l : Nat)) := (ho2.cellAt i (by omega)).trans (by rw [List.getElem?_set_self]; rw [ics_len, mixL_len]; exact hlt2)
            have f1 := ho2.frozenAt i
            clear hst hb2 hb3 ho hb d0 f0 a0
            go_wp2_with (first | rw [Q2.out] | rw [Q1.out] | fail)
            go_roundw
            case rel =>
              have hst := ho2.stored i (.int .i64 (l + q : Nat))
              refine ⟨i + 1, by omega, by go_num, ?_, ?_, by go_grown⟩
              · rw [HS.out]
                have := HE1.out
                refine congrArg _ ?_
                omega
              · have := hst.1
                rw [List.set_set, ics_set, HSET.out] at this
                exact this
            case measure => simp [intOf]; omega
          · have HI : Hid (i = n) := Lib.hid (by omega)
            have hov0 : r - sumF P i = ov wt (r - sumF P n) 0 := by rw [HI.out]; rfl
            have e1 : mixL (fun j => ((l + P j : Nat) : Int)) (fun _ => 0) i n = mixL F (fun j => ((l + P j : Nat) : Int)) 0 n := by rw [HI.out, mixL_full, mixL_none]
            rw [e1] at ho
            have HO0 := Lib.hid hov0
            have hovle : ∀ j, ov wt (r - sumF P n) j ≤ r := fun j => Nat.le_trans (ov_le _ _ _) (Nat.sub_le _ _)
            have hF2 := HSH.out
            clear e1 hov0
            generalize r - sumF P n = o0 at HO0 hovle hF2
            have HF2 := Lib.hid hF2
            have HOV := Lib.hid hovle
            clear hF2 hovle
            rename World => wi
            go_wp2_with fail
            go_loopw [11, 15] (fun s11 s15 wr => ∃ j : Nat, j ≤ n ∧ s15 = .int .i64 j ∧ s11 = .int .i64 (ov wt o0 j : Nat) ∧
              wr.ownsRow w.heap.size 3 1 (.slice (some ⟨wo.heap.size, 0, none⟩) n n) n (ics (mixL F (fun j => ((l + P j : Nat) : Int)) j n)) ∧ Below w.heap.size w wr) (fun _ s15 _ => n - (intOf s15).toNat)
            case atStart => exact ⟨0, Nat.zero_le _, rfl, by rw [← HO0.out], ho, hb⟩
            case round =>
              clear ho hb hz hgz
              obtain ⟨j, hj, rfl, rfl, ho, hb⟩ := hrel
              have hz := hb.size
              have hgz := (ho.lt _ rfl).2
              by_cases hlt3 : j < n
              · obtain ⟨g, o, x, rfl, hg0, ex, hcx⟩ := HAT.out j hlt3
                have a0 := hcx wr hb
                have hg : g < wr.heap.size := by omega
                have hne : g ≠ wo.heap.size := by omega
                have hW := rweight_any x
                rw [← ex] at hW
                have hu := HWT.out j
                have hpl := HPL.out j hlt3
                have hoc := mix_cell F (fun j => ((l + P j : Nat) : Int)) j n j hlt3
                have hset := mixL_set F (fun j => ((l + P j : Nat) : Int)) j n
                have hfi := HF2.out j
                have hvl := HOV.out j
                have hdl : deal wt o0 j = if 0 < ov wt o0 j ∧ 0 < wt j then 1 else 0 := rfl
                have hvs : ov wt o0 (j + 1) = if 0 < ov wt o0 j ∧ 0 < wt j then ov wt o0 j - 1 else ov wt o0 j := rfl
                have hstay : deal wt o0 j = 0 → mixL F (fun j => ((l + P j : Nat) : Int)) j n = mixL F (fun j => ((l + P j : Nat) : Int)) (j + 1) n := fun h => mixL_stay (by rw [hfi, h]; rfl)
                have hend : ov wt o0 j = 0 → mixL F (fun j => ((l + P j : Nat) : Int)) j n = (List.range n).map F := fun h => by
                  rw [← mixL_full F F n]
                  refine mixL_congr fun y hy => ?_
                  rw [if_pos hy]
                  by_cases e : y < j
                  · rw [if_pos e]
                  · rw [if_neg e, HF2.out y, deal_none wt o0 j y h (by omega)]; rfl
                rw [if_neg (by omega)] at hoc
                rw [hfi] at hset
                generalize ov wt o0 j = v at hvs hdl hvl hend ⊢
                generalize deal wt o0 j = dd at hdl hset hstay
                generalize P j = q at hpl hset hoc
                generalize wt j = u at hu hdl hvs hW
                have d0 : wr.cell? ⟨wo.heap.size, j, none⟩ = some (.int .i64 (l + q : Nat)) := (ho.cellAt j (by omega)).trans hoc
                obtain ⟨y, hy⟩ : ∃ y, y = l + q := ⟨_, rfl⟩
                rw [← hy] at hset d0
                have hyb : y ≤ 1073807360 := by omega
                have HW := Lib.hid hW
                clear hoc hfi hy hpl hW ex hcx
                by_cases hv : 0 < v
                · by_cases hu0 : 0 < u
                  · rw [if_pos ⟨hv, hu0⟩] at hdl hvs
                    have HV := Lib.hid hvs
                    rw [hdl] at hset
                    have HSET := Lib.hid hset
                    clear hset hdl hvs hstay hend
                    go_wp2_with fail
                    refine (HW.out _).mono ?_
                    rintro e w2 ⟨rfl, hb2⟩
                    have ho2 := own_below ho hb2
                    have hw2 := hb.trans (hb2.mono hz)
                    have hz2 := hw2.size
                    have hgz2 := (ho2.lt _ rfl).2
                    have d1 := (hb2.cell (p := ⟨wo.heap.size, j, none⟩) hgz).trans d0
                    have f1 := ho2.frozenAt j
                    clear hb2 ho hb d0 a0
                    go_wp2_with fail
                    go_roundw
                    case rel =>
                      have hst := ho2.stored j (.int .i64 (y + 1 : Nat))
                      refine ⟨j + 1, by omega, by go_num, ?_, ?_, by go_grown⟩
                      · rw [HV.out]
                        refine congrArg _ ?_
                        omega
                      · have := hst.1
                        rw [ics_set, HSET.out] at this
                        exact this
                    case measure => simp [intOf]; omega
                  · rw [if_neg (fun x => hu0 x.2)] at hdl hvs
                    have HV := Lib.hid hvs
                    have HST := Lib.hid (hstay hdl)
                    clear hset hstay hdl hvs hend
                    go_wp2_with fail
                    refine (HW.out _).mono ?_
                    rintro e w2 ⟨rfl, hb2⟩
                    have ho2 := own_below ho hb2
                    have hw2 := hb.trans (hb2.mono hz)
                    clear hb2 ho hb d0 a0
                    go_wp2_with fail
                    go_roundw
                    case rel => exact ⟨j + 1, by omega, by go_num, by rw [HV.out], by rw [← HST.out]; exact ho2, hw2⟩
                    case measure => simp [intOf]; omega
                · have HE := Lib.hid (hend (by omega))
                  clear hset hstay hdl hvs hend
                  go_wp2_with fail
                  go_ret2
                  rw [HE.out, HFF.out] at ho
                  exact ⟨_, n, rfl, ho, hb⟩
              · have hjn : j = n := by omega
                go_wp2_with fail
                go_ret2
                rw [hjn, mixL_full, HFF.out] at ho
                exact ⟨_, n, rfl, ho, hb⟩
end Go.Proofs.Ytdfmebfkhcdphaa

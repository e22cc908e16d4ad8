/-
  WeighTwice as a walk: it hands back true, for every input. No condition but that the row's length is one.
-/
import Derived.Test.YtdfmebfkhcdphaaL10d
set_option linter.unusedSimpArgs false
set_option linter.unusedVariables false
namespace Go.Proofs.Ytdfmebfkhcdphaa
open Go.RowKit Go.Sort M

theorem mask24 (x : Int) : bits BinOp.and IntKind.i64 x 16777215 = ((x % 16777216).toNat : Int) := by
  have h : (BitVec.ofInt 64 x &&& BitVec.ofInt 64 16777215).toNat = (x % 16777216).toNat := by
    rw [BitVec.toNat_and, BitVec.toNat_ofInt, show (BitVec.ofInt 64 16777215).toNat = 2 ^ 24 - 1 by decide, Nat.and_two_pow_sub_one_eq_mod]
    omega
  show IntKind.i64.wrap (((BitVec.ofInt 64 x &&& BitVec.ofInt 64 16777215).toNat : Nat) : Int) = _
  rw [h, IntKind.wrap_i64]
  omega
/-- The whole weights of a row of numbers. -/
def wholeN (Y : List Int) : List Nat := Y.map fun x => (x % 16777216).toNat
theorem wholeN_len (Y : List Int) : (wholeN Y).length = Y.length := by simp [wholeN]
theorem wholeN_at (Y : List Int) (k : Nat) (h : k < Y.length) : (wholeN Y).getD k 0 = (Y[k] % 16777216).toNat := by simp [wholeN, h]
theorem wholeN_lt (Y : List Int) (k : Nat) : (wholeN Y).getD k 0 ≤ 16777215 := by
  by_cases h : k < Y.length
  · rw [wholeN_at Y k h]; omega
  · rw [List.getD_eq_getElem?_getD, List.getElem?_eq_none (by rw [wholeN_len]; omega)]
    simp
/-- They, c times, as floats. -/
def wholeF (c : Nat) (Y : List Int) : List Nat := (wholeN Y).map fun n => fl (c * n)
theorem wholeF_len (c : Nat) (Y : List Int) : (wholeF c Y).length = Y.length := by simp [wholeF, wholeN_len]
theorem wholeF_at (c : Nat) (Y : List Int) (k : Nat) (h : k < Y.length) : (wholeF c Y)[k]? = some (fl (c * (wholeN Y).getD k 0)) := by simp [wholeF, wholeN, h]
theorem wholeF_take (c : Nat) (Y : List Int) (k : Nat) (h : k < Y.length) : fcs ((wholeF c Y).take k) ++ [.float .f64 (fl (c * (wholeN Y).getD k 0))] = fcs ((wholeF c Y).take (k + 1)) := by
  rw [List.take_add_one, wholeF_at c Y k h, fcs_append]
  rfl
theorem wtF_whole (c : Nat) (Y : List Int) (hc : c ≤ 2) : wtF (wholeF c Y) = fun j => c * (wholeN Y).getD j 0 := by
  funext j
  unfold wtF
  have hb := wholeN_lt Y j
  by_cases h : j < Y.length
  · rw [List.getD_eq_getElem?_getD, wholeF_at c Y j h, Option.getD_some]
    have : c * (wholeN Y).getD j 0 ≤ 2 * 16777215 := Nat.mul_le_mul hc hb
    rw [wtN_fl _ (by omega)]
    omega
  · rw [List.getD_eq_getElem?_getD, List.getElem?_eq_none (by rw [wholeF_len]; omega), List.getD_eq_getElem?_getD, List.getElem?_eq_none (by rw [wholeN_len]; omega)]
    simp
    decide +kernel
theorem shares_whole (c : Nat) (hc0 : 0 < c) (hc : c ≤ 2) (total : Int) (l r : Nat) (Y : List Int) (p : Option Addr) (k : Nat) (w : World) (hX : Row w p (fcs (wholeF c Y))) (h : shOk total l Y.length) (e : (total - (l : Int) * Y.length).toNat = r) :
    Calls Try.prog 8 #[.int .i64 total, .int .i64 l, .slice p Y.length k] w fun e w' => ∃ q d, e = .returned (.tuple #[.slice q Y.length d, .int .i64 0]) ∧
      IRow w' q ((List.range Y.length).map (shF (fun j => (wholeN Y).getD j 0) l r Y.length)) ∧ Below w.heap.size w w' := by
  have hs := shares_any total l p k (wholeF c Y) w hX (by rw [wholeF_len]; exact h)
  have hsl : shL total (l : Int) (wholeF c Y) = (List.range Y.length).map (shF (fun j => (wholeN Y).getD j 0) l r Y.length) := by
    unfold shL
    rw [wholeF_len, e, Int.toNat_natCast, wtF_whole c Y hc]
    refine List.map_congr_left fun j _ => ?_
    unfold shF
    rw [share_scale (fun j => (wholeN Y).getD j 0) c l r Y.length hc0 j]
  rw [hsl, wholeF_len] at hs
  refine hs.mono ?_
  rintro e w' ⟨q, d, rfl, ho, hb⟩
  exact ⟨q, d, rfl, IRow.of_own ho, hb⟩

theorem ln_wrap (l n m : Nat) (hm : m = n * l) (h : m ≤ 1073741824) : wrap64 ((l : Int) * (n : Int)) = (m : Int) := by
  rw [show (l : Int) * (n : Int) = ((n * l : Nat) : Int) by rw [Int.natCast_mul, Int.mul_comm], ← hm]
  exact IntWalk.wrap64_in _ (by omega)
set_option maxRecDepth 100000 in
set_option maxHeartbeats 4000000 in
theorem wtwice_walk (total least : Int) (p : Option Addr) (c : Nat) (Y : List Int) (w : World) (hY : IRow w p Y) (hl : Y.length ≤ maxLen) :
    Calls Try.prog 6 #[.int .i64 total, .int .i64 least, .slice p Y.length c] w fun e w' => e = .returned (.bool true) ∧ Below w.heap.size w w' := by
  have HA := Lib.hid alive10_any
  unfold maxLen at hl
  by_cases hok : shOk total least Y.length ∧ Y.length ≤ 60 ∧ least ≤ 1000
  · obtain ⟨hok, n60, l1000⟩ := hok
    have n1 := hok.1
    obtain ⟨l, r, rfl, hT, l1, l2, r1, t1, m1, e⟩ := shOk_parts hok
    obtain ⟨m, hm⟩ : ∃ m, m = Y.length * l := ⟨_, rfl⟩
    rw [← hm] at hT t1 m1
    have q0 := ln_wrap l Y.length m hm m1
    have hT2 : total ≤ 1073741824 := by rw [hT]; omega
    have hT3 : (m : Int) ≤ total := by rw [hT]; omega
    have hsa := fun q d wx h => shares_whole 1 (by omega) (by omega) total l r Y q d wx h hok e
    have hsb := fun q d wx h => shares_whole 2 (by omega) (by omega) total l r Y q d wx h hok e
    have hat : ∀ k, k < Y.length → ∃ g o x, p = some ⟨g, o, none⟩ ∧ g < w.heap.size ∧ (wholeN Y).getD k 0 = (x % 16777216).toNat ∧ ∀ wx, Below w.heap.size w wx → wx.cell? ⟨g, o + k, none⟩ = some (.int .i64 x) := fun k hk => by
      obtain ⟨g, o, e, hg, hc⟩ := hY.at hk
      exact ⟨g, o, _, e, hg, wholeN_at Y k hk, fun wx hb => (hb.cell (p := ⟨g, o + k, none⟩) hg).trans hc⟩
    have hta := fun k hk => wholeF_take 1 Y k hk
    have htb := fun k hk => wholeF_take 2 Y k hk
    have haa := fun k hk => wholeF_at 1 Y k hk
    have hla := wholeF_len 1 Y
    have hlb := wholeF_len 2 Y
    have hwl := wholeN_lt Y
    have hnext := fun i h h0 => share_next (fun j => (wholeN Y).getD j 0) l r Y.length i h h0
    have hle := fun j hj => share_le (fun j => (wholeN Y).getD j 0) l r Y.length j hj
    have hleast := fun j => share_least (fun j => (wholeN Y).getD j 0) l r Y.length j
    have hF : shF (fun j => (wholeN Y).getD j 0) l r Y.length = fun j => ((share (fun j => (wholeN Y).getD j 0) l r Y.length j : Nat) : Int) := rfl
    rw [hF] at hsa hsb
    generalize share (fun j => (wholeN Y).getD j 0) l r Y.length = sh at *
    obtain ⟨ww, hww⟩ : ∃ ww : Nat → Nat, ww = fun j => (wholeN Y).getD j 0 := ⟨_, rfl⟩
    have hw1 : ∀ j, (wholeN Y).getD j 0 = ww j := fun j => by rw [hww]
    rw [← hww] at hnext
    simp only [hw1] at hnext
    simp only [hw1, Nat.one_mul] at hat hta htb haa hwl
    generalize wholeF 1 Y = A at *
    generalize wholeF 2 Y = B at *
    have hi := fun q q' d d' wx h h' => samei_any q q' d d' ((List.range Y.length).map fun j => ((sh j : Nat) : Int)) ((List.range Y.length).map fun j => ((sh j : Nat) : Int)) wx (by simp; omega) (by simp; omega) h h'
    rw [range_map_len] at hi
    simp only [decide_true] at hi
    have hac : ∀ q k wx, k < Y.length → Row wx q (fcs A) → ∃ g o, q = some ⟨g, o, none⟩ ∧ g < wx.heap.size ∧ wx.cell? ⟨g, o + k, none⟩ = some (.float .f64 (fl (ww k))) := fun q k wx hk hr => by
      obtain ⟨g, o, e, hg, hc⟩ := hr.atF (k := k) (by rw [hla]; exact hk)
      have := haa k hk
      rw [List.getElem?_eq_getElem (by rw [hla]; exact hk)] at this
      injection this with this
      rw [this] at hc
      exact ⟨g, o, e, hg, hc⟩
    generalize hn : Y.length = n at *
    rw [← hm] at hle
    have hsum : ∀ k, sumF ww k ≤ k * 16777215 := sumF_bound hwl
    have hN := num10_any 0
    obtain ⟨i0, hi0, iz0, iz1, iz2⟩ := info_parts infoF
    have Q0 := Lib.hid q0
    have HSA := Lib.hid hsa
    have HSB := Lib.hid hsb
    have HAT := Lib.hid hat
    have HTA := Lib.hid hta
    have HTB := Lib.hid htb
    have HAC := Lib.hid hac
    have HLA := Lib.hid hla
    have HLB := Lib.hid hlb
    have HWL := Lib.hid hwl
    have HNEXT := Lib.hid hnext
    have HLE := Lib.hid hle
    have HLEAST := Lib.hid hleast
    have HSUM := Lib.hid hsum
    have HI := Lib.hid hi
    have HN := Lib.hid hN
    clear q0 hsa hsb hat hta htb haa hac hla hlb hwl hnext hle hleast hsum hi hN hT hm hn hY hok e hF hww hw1
    go_enter Try.func6, Try.ntmps6
    go_wp2_with fail
    refine (HA.out _).mono ?_
    rintro e0 w0 ⟨rfl, hb0⟩
    have hw0 : Below w.heap.size w w0 := by
      refine Below.trans ?_ (hb0.mono ?_)
      · go_grown
      · go_size
    have hz0 := hw0.size
    go_wp2_with (first | rw [Q0.out] | fail)
    go_loopw [8, 9, 10] (fun s8 s9 s10 wr => ∃ (k : Nat) (pa pb : Option Addr) (ca cb : Nat), k ≤ n ∧ s10 = .int .i64 k ∧ s8 = .slice pa k ca ∧ s9 = .slice pb k cb ∧
      wr.ownsRow w.heap.size 23 1 (.slice pa k ca) k (fcs (A.take k)) ∧ wr.ownsRow w.heap.size 23 1 (.slice pb k cb) k (fcs (B.take k)) ∧
      Hid (∀ g, (Value.slice pa k ca).ownBlock = some g → (Value.slice pb k cb).ownBlock = some g → False) ∧ Below w.heap.size w wr) (fun _ _ s10 _ => n - (intOf s10).toNat)
    case atStart => exact ⟨0, none, none, 0, 0, Nat.zero_le _, rfl, rfl, rfl, World.ownsRow_nil _ _ _ _, World.ownsRow_nil _ _ _ _, Lib.hid (fun g h => by cases h), by go_grown⟩
    case round =>
      clear hw0 hb0
      obtain ⟨k, pa, pb, ca, cb, hk, rfl, rfl, rfl, ha, hb, HD, hw1⟩ := hrel
      have hz1 := hw1.size
      by_cases hlt : k < n
      · obtain ⟨g, o, x, rfl, hg0, ex, hcx⟩ := HAT.out k hlt
        have a0 := hcx wr hw1
        have hg : g < wr.heap.size := by omega
        have hM := mask24 x
        rw [← ex] at hM
        have hu := HWL.out k
        have hta := HTA.out k hlt
        have htb := HTB.out k hlt
        generalize ww k = u at hM hu hta htb
        have HM := Lib.hid hM
        have HTA1 := Lib.hid hta
        have HTB1 := Lib.hid htb
        have HCX := Lib.hid hcx
        clear hM ex hta htb hcx
        go_wp2_with (first | rw [HM.out] | (at_builtin; go_loud (refine wpList_append_own_at _ rfl (.tmp 64) (.tmp 67) 22 rfl w.heap.size 23 i0 _ 1 8 Try.underlying22 hi0 iz0 iz1 iz2 rfl (by decide) _ _ _ rfl (ha.alloc _) ⟨wr.heap.size, 0, none⟩ 1 1 [.float .f64 (floatOfInt .f64 (u : Int))] rfl rfl (one_new (by simp [go_sem])) (by simp [Value.oneCell']) (by unfold maxLen; omega) (by omega) (by simp; omega) ?_)))
        intro v3 w3 hown3 hg3 _ hat3
        rw [floatOfInt_nat, HTA1.out] at hown3
        have hb3 := (hb.alloc (.cells #[.float .f64 (floatOfInt .f64 (u : Int))] 23)).kept hg3 (by
          cases h : (Value.slice pb k cb).ownBlock with
          | none => exact .inl rfl
          | some q => exact .inr fun e => HD.out q e.symm h)
        have hw3 : Below w.heap.size w w3 := (hw1.alloc hz1 _).grown hg3 (by simp; omega) (fun j hj => (ha.lt j hj).1)
        have HD3 : Hid (∀ g, v3.ownBlock = some g → (Value.slice pb k cb).ownBlock = some g → False) := Lib.hid fun g h1 h2 => by
          rcases hat3 with h | h
          · rw [h] at h1; exact HD.out g h1 h2
          · rw [h] at h1
            have := (hb.lt g h2).2
            simp at h1
            omega
        obtain ⟨pa3, ca3, rfl⟩ := own_slice hown3
        have hz3 := hw3.size
        clear hat3 hg3 ha hb HD hw1 a0 hz1 hg
        go_wp2_with (first | (at_builtin; go_loud (refine wpList_append_own_at _ rfl (.tmp 69) (.tmp 73) 22 rfl w.heap.size 23 i0 _ 1 8 Try.underlying22 hi0 iz0 iz1 iz2 rfl (by decide) _ _ _ rfl (hb3.alloc _) ⟨w3.heap.size, 0, none⟩ 1 1 [.float .f64 (floatOfInt .f64 (2 * (u : Int)))] rfl rfl (one_new (by simp [go_sem])) (by simp [Value.oneCell']) (by unfold maxLen; omega) (by omega) (by simp; omega) ?_)))
        intro v4 w4 hown4 hg4 _ hat4
        rw [show (2 * (u : Int)) = ((2 * u : Nat) : Int) from rfl, floatOfInt_nat, HTB1.out] at hown4
        have ha4 := (hown3.alloc (.cells #[.float .f64 (floatOfInt .f64 (2 * (u : Int)))] 23)).kept hg4 (by
          cases h : (Value.slice pa3 (k + 1) ca3).ownBlock with
          | none => exact .inl rfl
          | some q => exact .inr fun e => HD3.out q h e.symm)
        have hw4 : Below w.heap.size w w4 := (hw3.alloc hz3 _).grown hg4 (by simp; omega) (fun j hj => (hb3.lt j hj).1)
        have HD4 : Hid (∀ g, (Value.slice pa3 (k + 1) ca3).ownBlock = some g → v4.ownBlock = some g → False) := Lib.hid fun g h1 h2 => by
          rcases hat4 with h | h
          · rw [h] at h2; exact HD3.out g h1 h2
          · rw [h] at h2
            have := (hown3.lt g h1).2
            simp at h2
            omega
        obtain ⟨pb4, cb4, rfl⟩ := own_slice hown4
        clear hat4 hg4 hown3 hb3 HD3 hw3
        go_wp2
        go_roundw
        case rel => exact ⟨k + 1, pa3, pb4, ca3, cb4, by omega, by go_num, rfl, rfl, ha4, hown4, HD4, hw4⟩
        case measure => simp [intOf]; omega
      · have hkn : k = n := by omega
        rw [List.take_of_length_le (by rw [HLA.out]; omega)] at ha
        rw [List.take_of_length_le (by rw [HLB.out]; omega)] at hb
        have hra := Row.of_own ha
        have hrb := Row.of_own hb
        have hsa2 := HSA.out pa ca
        have hsb2 := HSB.out pb cb
        have hknb : ((k : Int) != (n : Int)) = false := by simp; omega
        have hi2 := HI.out
        rw [← hkn] at hsa2 hsb2 hi2
        have HI2 := Lib.hid hi2
        have HK := Lib.hid hkn
        have HSA2 := Lib.hid hsa2
        have HSB2 := Lib.hid hsb2
        clear hsa2 hsb2 hi2 HI HSA HSB HD ha hb hkn
        go_wp2_with fail
        refine (HSA2.out _ hra).mono ?_
        rintro e w2 ⟨qx, dx, rfl, hx, hb2⟩
        have hw2 := hw1.trans (hb2.mono hz1)
        have hrb2 := hrb.below hb2
        have hra2 := hra.below hb2
        clear hb2 hw1 hra hrb
        go_wp2_with fail
        refine (HSB2.out _ hrb2).mono ?_
        rintro e w3 ⟨qy, dy, rfl, hy, hb3⟩
        have hx3 := hx.below hb3
        have hra3 := hra2.below hb3
        have hw3 := hw2.trans (hb3.mono hw2.size)
        clear hb3 hw2 hra2 hrb2 hx
        go_wp2_with fail
        refine (HN.out _).mono ?_
        rintro e w4 ⟨rfl, hb4⟩
        have hx4 := hx3.below hb4
        have hy4 := hy.below hb4
        have hra4 := hra3.below hb4
        have hw4 := hw3.trans (hb4.mono hw3.size)
        clear hb4 hw3 hra3 hy hx3
        go_wp2_with fail
        refine (HN.out _).mono ?_
        rintro e w5 ⟨rfl, hb5⟩
        have hx5 := hx4.below hb5
        have hy5 := hy4.below hb5
        have hra5 := hra4.below hb5
        have hw5 := hw4.trans (hb5.mono hw4.size)
        clear hb5 hw4 hra4 hy4 hx4
        go_wp2_with fail
        refine (HI2.out qx qy dx dy _ hx5 hy5).mono ?_
        rintro e w6 ⟨rfl, hb6⟩
        have hx6 := hx5.below hb6
        have hra6 := hra5.below hb6
        have hw6 := hw5.trans (hb6.mono hw5.size)
        clear hb6 hw5 hra5 hy5 hx5 HSA2 HSB2 HAT HTA HTB HLA HLB HN HI2
        go_wp2_with fail
        go_loopw [16, 17] (fun s16 s17 wr => ∃ j : Nat, j ≤ k ∧ s17 = .int .i64 j ∧ s16 = .float .f64 (fl (sumF ww j)) ∧ Row wr pa (fcs A) ∧ IRow wr qx ((List.range k).map fun j => ((sh j : Nat) : Int)) ∧ Below w.heap.size w wr) (fun _ s17 _ => k - (intOf s17).toNat)
        case atStart => exact ⟨0, Nat.zero_le _, rfl, by rw [show sumF ww 0 = 0 from rfl, fl_zero], hra6, hx6, hw6⟩
        case round =>
          clear hra6 hx6 hw6
          obtain ⟨j, hj, rfl, rfl, hra, hx, hw⟩ := hrel
          have hz := hw.size
          by_cases hltj : j < k
          · obtain ⟨g, o, rfl, hg, a0⟩ := HAC.out pa j wr (by have := HK.out; omega) hra
            have hu := HWL.out j
            have hs1 : sumF ww (j + 1) = sumF ww j + ww j := rfl
            have hsb := HSUM.out (j + 1)
            rw [hs1] at hsb
            have HS1 := Lib.hid hs1
            generalize sumF ww j = S at hsb HS1 ⊢
            generalize ww j = u at hu hsb HS1 a0
            have hadd : ∀ t w, (binOp .add t (.float .f64 (fl S)) (.float .f64 (fl u))).run Try.prog w = .ok (.float .f64 (fl (S + u))) w := fun t w => run_float_arith w .add t .f64 _ _ _ (add_fl S u (by omega))
            have HADD := Lib.hid hadd
            clear hsb hs1 hadd hu
            go_wp2_with (first | rw [HADD.out] | fail)
            go_roundw
            case rel => exact ⟨j + 1, by omega, by go_num, by rw [HS1.out], hra, hx, hw⟩
            case measure => simp [intOf]; omega
          · have HJ : Hid (j = k) := Lib.hid (by omega)
            obtain ⟨S, hS⟩ : ∃ S, S = sumF ww j := ⟨_, rfl⟩
            have hsb := HSUM.out j
            rw [← hS] at hsb ⊢
            have HSS : Hid (S = sumF ww n) := Lib.hid (by rw [hS, HJ.out, HK.out])
            have hgt : (FloatKind.f64.format.order (fl S) 0 == some .gt) = decide (0 < S) := by
              have := gtr_fl S 0 (by omega) (by omega)
              rw [fl_zero] at this
              exact this
            clear hsb hS
            go_wp2_with fail
            go_loopw [18] (fun s18 wr => ∃ i : Nat, i + 1 ≤ k ∧ s18 = .int .i64 ((i : Int) + 1) ∧ Row wr pa (fcs A) ∧ IRow wr qx ((List.range k).map fun j => ((sh j : Nat) : Int)) ∧ Below w.heap.size w wr) (fun s18 _ => k - (intOf s18).toNat)
            case atStart => exact ⟨0, by omega, rfl, hra, hx, hw⟩
            case round =>
              clear hra hx hw hz
              obtain ⟨i, hi, rfl, hra, hx, hw⟩ := hrel
              have hz := hw.size
              by_cases hlti : i + 1 < k
              · have hlti2 : (i : Int) + 1 < (k : Int) := by omega
                by_cases hS0 : 0 < S
                · have hgt2 : (FloatKind.f64.format.order (fl S) 0 == some .gt) = true := by rw [hgt]; simpa using hS0
                  obtain ⟨g, o, rfl, hg, a0⟩ := HAC.out pa (i + 1) wr (by have := HK.out; omega) hra
                  obtain ⟨g', o', e', -, a1⟩ := HAC.out _ i wr (by have := HK.out; omega) hra
                  injection e' with e'
                  injection e' with e1 e2
                  subst e1 e2
                  obtain ⟨g2, o2, rfl, hg2, c0⟩ := hx.atF hlti
                  obtain ⟨g3, o3, e3, -, c1⟩ := hx.atF (k := i) (by omega)
                  injection e3 with e3
                  injection e3 with e1 e2
                  subst e1 e2
                  have hu := HWL.out (i + 1)
                  have hv := HWL.out i
                  have hne := HNEXT.out i (by rw [← HSS.out]; exact hS0)
                  have hyi := HLE.out (i + 1) (by have := HK.out; omega)
                  have hyj := HLE.out i (by have := HK.out; omega)
                  have hl1 := HLEAST.out i
                  generalize ww (i + 1) = u at hu a0 hne
                  generalize ww i = v at hv a1 hne
                  generalize sh (i + 1) = y at c0 hne hyi
                  generalize sh i = z at c1 hne hyj hl1
                  have heq := eql_fl u v (by omega) (by omega)
                  have i1 : (0 : Int) ≤ (i : Int) := by omega
                  have i2 : (i : Int) < (k : Int) := by omega
                  clear hgt
                  by_cases huv : u = v
                  · have hq : (FloatKind.f64.format.order (fl u) (fl v) == some .eq) = true := heq.trans (by simpa using huv)
                    have hn2 := hne huv
                    clear hne heq
                    subst huv
                    by_cases hyz : y = z
                    · clear hn2
                      subst hyz
                      go_wp2_with fail
                      have kg := cell_grow
                      refine region_whole (by kernel_rfl) (by kernel_rfl) ?_
                      repeat (any_goals (first | go_big_quiet_step (fail) | quiet_step (fail)))
                      refine wpQuiet_nil ?_
                      clear kg
                      intro w7 hb7
                      obtain ⟨hc7, hf7⟩ := bcell hb7
                      have hw7 : Below w.heap.size w w7 := by
                        refine Below.trans ?_ (hb7.mono ?_)
                        · go_grown
                        · first | omega | go_size
                      have hx7 := hx.below hb7
                      have hra7 := hra.below hb7
                      have hw8 := hw.trans (hb7.mono hz)
                      go_wp2
                      go_roundw
                      case rel => exact ⟨i + 1, by omega, by go_num, hra7, hx7, hw8⟩
                      case measure => simp [intOf]; omega
                    · have b1 : ((y : Int) != (z : Int)) = true := by simp; omega
                      have b2 : ((y : Int) != (z : Int) - 1) = false := by simp; omega
                      clear hn2
                      go_wp2_with fail
                      have kg := cell_grow
                      refine region_whole (by kernel_rfl) (by kernel_rfl) ?_
                      repeat (any_goals (first | go_big_quiet_step (fail) | quiet_step (fail)))
                      refine wpQuiet_nil ?_
                      clear kg
                      intro w7 hb7
                      obtain ⟨hc7, hf7⟩ := bcell hb7
                      have hw7 : Below w.heap.size w w7 := by
                        refine Below.trans ?_ (hb7.mono ?_)
                        · go_grown
                        · first | omega | go_size
                      have hx7 := hx.below hb7
                      have hra7 := hra.below hb7
                      have hw8 := hw.trans (hb7.mono hz)
                      go_wp2
                      go_roundw
                      case rel => exact ⟨i + 1, by omega, by go_num, hra7, hx7, hw8⟩
                      case measure => simp [intOf]; omega
                  · have hq : (FloatKind.f64.format.order (fl u) (fl v) == some .eq) = false := heq.trans (by simpa using huv)
                    clear hne heq
                    go_wp2_with fail
                    have kg := cell_grow
                    refine region_whole (by kernel_rfl) (by kernel_rfl) ?_
                    repeat (any_goals (first | go_big_quiet_step (fail) | quiet_step (fail)))
                    refine wpQuiet_nil ?_
                    clear kg
                    intro w7 hb7
                    obtain ⟨hc7, hf7⟩ := bcell hb7
                    have hw7 : Below w.heap.size w w7 := by
                      refine Below.trans ?_ (hb7.mono ?_)
                      · go_grown
                      · first | omega | go_size
                    have hx7 := hx.below hb7
                    have hra7 := hra.below hb7
                    have hw8 := hw.trans (hb7.mono hz)
                    go_wp2
                    go_roundw
                    case rel => exact ⟨i + 1, by omega, by go_num, hra7, hx7, hw8⟩
                    case measure => simp [intOf]; omega
                · have hgt2 : (FloatKind.f64.format.order (fl S) 0 == some .gt) = false := by rw [hgt]; simpa using hS0
                  clear hgt
                  go_wp2_with fail
                  go_ret
                  exact ⟨rfl, hw⟩
              · have hlti2 : ¬ (i : Int) + 1 < (k : Int) := by omega
                go_wp2_with fail
                go_ret
                exact ⟨rfl, hw⟩
  · generalize Y.length = n at *
    clear hY
    unfold shOk at hok
    by_cases n0 : n < 1
    · clear hok
      go_enter Try.func6, Try.ntmps6
      go_wp2_with fail
      refine (HA.out _).mono ?_
      rintro e0 w0 ⟨rfl, hb0⟩
      have hw0 : Below w.heap.size w w0 := by
        refine Below.trans ?_ (hb0.mono ?_)
        · go_grown
        · go_size
      go_wp2
      all_goals
        go_ret
        exact ⟨rfl, by go_grown⟩
    · by_cases n1 : 60 < n
      · clear hok
        go_enter Try.func6, Try.ntmps6
        go_wp2_with fail
        refine (HA.out _).mono ?_
        rintro e0 w0 ⟨rfl, hb0⟩
        have hw0 : Below w.heap.size w w0 := by
          refine Below.trans ?_ (hb0.mono ?_)
          · go_grown
          · go_size
        go_wp2
        all_goals
          go_ret
          exact ⟨rfl, by go_grown⟩
      · by_cases l0 : least < 1
        · clear hok
          go_enter Try.func6, Try.ntmps6
          go_wp2_with fail
          refine (HA.out _).mono ?_
          rintro e0 w0 ⟨rfl, hb0⟩
          have hw0 : Below w.heap.size w w0 := by
            refine Below.trans ?_ (hb0.mono ?_)
            · go_grown
            · go_size
          go_wp2
          all_goals
            go_ret
            exact ⟨rfl, by go_grown⟩
        · by_cases l1 : 1000 < least
          · clear hok
            go_enter Try.func6, Try.ntmps6
            go_wp2_with fail
            refine (HA.out _).mono ?_
            rintro e0 w0 ⟨rfl, hb0⟩
            have hw0 : Below w.heap.size w w0 := by
              refine Below.trans ?_ (hb0.mono ?_)
              · go_grown
              · go_size
            go_wp2
            all_goals
              go_ret
              exact ⟨rfl, by go_grown⟩
          · by_cases t1 : 1073741824 < total
            · clear hok
              go_enter Try.func6, Try.ntmps6
              go_wp2_with fail
              refine (HA.out _).mono ?_
              rintro e0 w0 ⟨rfl, hb0⟩
              have hw0 : Below w.heap.size w w0 := by
                refine Below.trans ?_ (hb0.mono ?_)
                · go_grown
                · go_size
              go_wp2
              all_goals
                go_ret
                exact ⟨rfl, by go_grown⟩
            · obtain ⟨l, rfl⟩ := Int.eq_ofNat_of_zero_le (show 0 ≤ least by omega)
              have hm : l * n ≤ 1000 * 60 := Nat.mul_le_mul (by omega) (by omega)
              have e : (l : Int) * (n : Int) = ((l * n : Nat) : Int) := by rw [Int.natCast_mul]
              rw [e] at hok
              have q0 : wrap64 ((l : Int) * (n : Int)) = ((l * n : Nat) : Int) := by
                rw [e]
                exact IntWalk.wrap64_in _ (by omega)
              generalize l * n = m at *
              clear e
              have Q0 := Lib.hid q0
              clear q0
              have t0 : total < (m : Int) := by omega
              clear hok
              go_enter Try.func6, Try.ntmps6
              go_wp2_with fail
              refine (HA.out _).mono ?_
              rintro e0 w0 ⟨rfl, hb0⟩
              have hw0 : Below w.heap.size w w0 := by
                refine Below.trans ?_ (hb0.mono ?_)
                · go_grown
                · go_size
              go_wp2_with (first | rw [Q0.out] | fail)
              all_goals
                go_ret
                exact ⟨rfl, by go_grown⟩
end Go.Proofs.Ytdfmebfkhcdphaa

/-
  What the reference's part and better hand back. No condition but that the rows lie in memory, and bounds.
-/
import Derived.Test.YtnmcgboafdglbaaRef16b
import Derived.Test.YtnmcgboafdglbaaM17c
import Derived.Test.YtnmcgboafdglbaaW17
set_option linter.unusedSimpArgs false
set_option linter.unusedVariables false
namespace Go.Proofs.Ytnmcgboafdglbaa
open Go Go.RowKit Go.Sort M

theorem part_shift (s x t a i b : Nat) (hi : a + 1 + i ≤ b) (hb : b ≤ a + 20) (ht : x * 2 ^ (b - (a + 1 + i)) = t) (hs : s ≤ 141836999983104) (hx : x ≤ 1048576) :
    wrap64 ((s : Int) + wrap64 ((x : Int) * 2 ^ (b - (a + 1 + i)))) = ((s + t : Nat) : Int) := by
  have h : (x : Int) * 2 ^ (b - (a + 1 + i)) = ((t : Nat) : Int) := by
    rw [← ht, Int.natCast_mul, Int.natCast_pow]
    rfl
  have h2 : 2 ^ (b - (a + 1 + i)) ≤ 2 ^ 20 := Nat.pow_le_pow_right (by decide) (by omega)
  have htt : t ≤ 1099511627776 := by rw [← ht]; exact Nat.le_trans (Nat.mul_le_mul hx h2) (by decide)
  rw [h, IntWalk.wrap64_in (t : Int) (by omega), IntWalk.wrap64_in _ (by omega)]
  omega
set_option maxHeartbeats 2000000 in
set_option maxRecDepth 100000 in
theorem rpart_any (p : Option Addr) (c a b : Nat) (C : List Int) (w : World) (hC : IRow w p C) (h1 : C.length ≤ 1000000) (h2 : a ≤ b) (h3 : b ≤ a + 20) (h4 : b ≤ 128) :
    Calls Try.prog 19 #[.slice p C.length c, .int .i64 (a : Int), .int .i64 (b : Int)] w fun e w' => e = .returned (.int .i64 (ptC C a b : Nat)) ∧ Below w.heap.size w w' := by
  have hT := fun n hn w' (hb : Below w.heap.size w w') => rat_any p c C n w' (hC.below hb) h1 hn
  have HT := Lib.hid hT
  have HLE := Lib.hid fun n => atC_le C n
  obtain ⟨R, hR⟩ : ∃ R, R = ptC C a b := ⟨_, rfl⟩
  rw [← hR]
  have HR := Lib.hid hR
  clear hT hC hR
  go_enter Try.func19, Try.ntmps19
  go_wp2
  go_loopg [7, 8] (b - a) (fun kx s7 s8 wr => ∃ (i s : Nat), s8 = .int .i64 ((a : Int) + 1 + (i : Int)) ∧ b - a - i ≤ kx ∧ i ≤ b - a ∧ s7 = .int .i64 (s : Int) ∧ Hid (s = smF (fun j => atC C (a + 1 + j) * 2 ^ (b - (a + 1 + j))) i) ∧ Hid (s ≤ capS i) ∧ Below w.heap.size w wr)
  case atStart => exact ⟨0, 0, by go_num, by omega, by omega, rfl, Lib.hid rfl, Lib.hid (Nat.zero_le _), by go_grown⟩
  case round =>
    obtain ⟨i, s, rfl, k1, k2, rfl, HS, HB, hb⟩ := hrel
    by_cases hi : i < b - a
    · have hTT := HT.out (a + 1 + i) (by omega) wr hb
      simp only [show ((a + 1 + i : Nat) : Int) = (a : Int) + 1 + (i : Int) by omega] at hTT
      have hx := HLE.out (a + 1 + i)
      obtain ⟨x, hxx⟩ : ∃ x, x = atC C (a + 1 + i) := ⟨_, rfl⟩
      rw [← hxx] at hTT hx
      obtain ⟨t, ht⟩ : ∃ t, x * 2 ^ (b - (a + 1 + i)) = t := ⟨_, rfl⟩
      have hcs := capS_top HB.out (by omega : i ≤ 129)
      have hsh := part_shift s x t a i b (by omega) h3 ht hcs hx
      have h2p : 2 ^ (b - (a + 1 + i)) ≤ 2 ^ 20 := Nat.pow_le_pow_right (by decide) (by omega)
      have htt : t ≤ 1099511627776 := by rw [← ht]; exact Nat.le_trans (Nat.mul_le_mul hx h2p) (by decide)
      have HSH := Lib.hid hsh
      have HBN := Lib.hid (capS_next HB.out htt)
      have HSN : Hid (s + t = smF (fun j => atC C (a + 1 + j) * 2 ^ (b - (a + 1 + j))) (i + 1)) := by rw [smF, ← HS.out, ← hxx, ht]; exact Lib.hid rfl
      have HTT := Lib.hid hTT
      clear hTT hxx ht hcs hsh h2p htt HS HB
      go_wp2_with fail
      refine HTT.out.mono ?_
      rintro e w1 ⟨rfl, hb1⟩
      have hb := hb.trans (hb1.mono hb.size)
      go_wp2
      go_roundg (b - a - (i + 1))
      case measure => omega
      case rel => exact ⟨i + 1, s + t, by go_num, by omega, by omega, by rw [← HSH.out], HSN, HBN, hb⟩
    · obtain rfl : i = b - a := by omega
      go_wp2
      go_ret
      exact ⟨ret_num (by rw [HR.out]; unfold ptC; rw [← HS.out]), hb⟩
theorem lexL_drop (X Y : List Nat) (i : Nat) (h1 : i < X.length) (h2 : i < Y.length) : lexL (X.drop i) (Y.drop i) = if X[i] = Y[i] then lexL (X.drop (i + 1)) (Y.drop (i + 1)) else decide (X[i] < Y[i]) := by
  rw [List.drop_eq_getElem_cons h1, List.drop_eq_getElem_cons h2]
  rfl
theorem toI_at (L : List Nat) (i : Nat) (h : i < (toI L).length) : (toI L)[i] = ((L[i]'(by rw [toI_len] at h; exact h) : Nat) : Int) := by simp [toI]
theorem rbetter_none (xc : Nat) (px py : Option Addr) (nx dx ny dy : Nat) (yc : Int) : Gives Try.prog 20 #[.agg #[.bool true, .int .i64 (xc : Int), .slice px nx dx], .agg #[.bool false, .int .i64 yc, .slice py ny dy]] (.bool true) := by
  intro w
  go_enter Try.func20, Try.ntmps20
  go_wp2
  go_ret
  exact ⟨rfl, by go_grown⟩
set_option maxHeartbeats 2000000 in
set_option maxRecDepth 100000 in
theorem rbetter_some (xc yc : Nat) (X Y : List Nat) (px py : Option Addr) (dx dy : Nat) (w : World) (hX : IRow w px (toI X)) (hY : IRow w py (toI Y)) (h1 : X.length ≤ 1000000) (h2 : Y.length ≤ 1000000) :
    Calls Try.prog 20 #[.agg #[.bool true, .int .i64 (xc : Int), .slice px X.length dx], .agg #[.bool true, .int .i64 (yc : Int), .slice py Y.length dy]] w fun e w' => e = .returned (.bool (btW (xc, X) (yc, Y))) ∧ Below w.heap.size w w' := by
  by_cases e1 : xc = yc
  · subst e1
    by_cases e2 : X.length = Y.length
    · have hR : btW (xc, X) (xc, Y) = lexL X Y := by unfold btW; rw [if_pos rfl, if_pos e2]
      rw [hR]
      obtain ⟨R, hR2⟩ : ∃ R, R = lexL X Y := ⟨_, rfl⟩
      rw [← hR2]
      have HR := Lib.hid hR2.symm
      have HX := Lib.hid hX
      have HY := Lib.hid hY
      have hl : ((X.length : Int) != (Y.length : Int)) = false := by simp [e2]
      have HE := Lib.hid e2
      clear hR hR2 hX hY e2
      go_enter Try.func20, Try.ntmps20
      go_wp2
      go_loopg [5] X.length (fun kx s5 wr => ∃ i : Nat, s5 = .int .i64 (i : Int) ∧ X.length - i ≤ kx ∧ i ≤ X.length ∧ Hid (lexL (X.drop i) (Y.drop i) = R) ∧ wr.cell? ⟨w.heap.size, 2, none⟩ = some (.slice px X.length dx) ∧
        wr.cell? ⟨w.heap.size + 1, 2, none⟩ = some (.slice py Y.length dy) ∧ w.heap.size + 1 < wr.heap.size ∧ Below w.heap.size w wr)
      case atStart => exact ⟨0, rfl, by omega, by omega, HR, by simp [go_sem], by simp [go_sem], by simp, by go_grown⟩
      case round =>
        clear HR
        obtain ⟨i, rfl, k1, k2, HI, c0, c1, hz, hb⟩ := hrel
        have hz' : w.heap.size < wr.heap.size := by omega
        by_cases hi : i < X.length
        · have hiy : i < Y.length := by rw [← HE.out]; exact hi
          obtain ⟨g, o, rfl, hg, x0⟩ := (HX.out.below hb).at (k := i) (by rw [toI_len]; exact hi)
          obtain ⟨g2, o2, rfl, hg2, y0⟩ := (HY.out.below hb).at (k := i) (by rw [toI_len]; exact hiy)
          rw [toI_at] at x0 y0
          have hs := lexL_drop X Y i hi hiy
          rw [HI.out] at hs
          obtain ⟨a, ha⟩ : ∃ a, a = X[i] := ⟨_, rfl⟩
          obtain ⟨b, hbb⟩ : ∃ b, b = Y[i] := ⟨_, rfl⟩
          rw [← ha] at x0 hs
          rw [← hbb] at y0 hs
          have i1 : (0 : Int) ≤ (i : Int) := by omega
          have i2 : (i : Int) < (X.length : Int) := by omega
          have i3 : (i : Int) < (Y.length : Int) := by omega
          clear ha hbb
          by_cases e : a = b
          · rw [if_pos e] at hs
            have HN := Lib.hid hs.symm
            have nq : ((a : Int) != (b : Int)) = false := by simp [e]
            clear hs e
            go_wp2_with fail
            go_region
            go_wp2
            go_roundg (X.length - (i + 1))
            case measure => omega
            case rel => exact ⟨i + 1, by go_num, by omega, by omega, HN, c0, c1, hz, by go_grown⟩
          · rw [if_neg e] at hs
            have HN := Lib.hid hs
            have nq : ((a : Int) != (b : Int)) = true := by simp; omega
            clear hs
            go_wp2_with fail
            go_region
            go_wp2_with fail
            go_region
            go_wp2
            go_ret
            exact ⟨ret_bool (by rw [HN.out]), by go_grown⟩
        · have HN : Hid (R = false) := by
            rw [← HI.out, List.drop_eq_nil_of_le (by omega)]
            exact Lib.hid rfl
          go_wp2
          go_ret
          exact ⟨ret_bool (by rw [HN.out]), by go_grown⟩
    · have hl : ((X.length : Int) != (Y.length : Int)) = true := by simp; omega
      have hR : btW (xc, X) (xc, Y) = decide (X.length < Y.length) := by unfold btW; rw [if_pos rfl, if_neg e2]
      rw [hR]
      clear hX hY hR
      go_enter Try.func20, Try.ntmps20
      go_wp2
      go_ret
      exact ⟨ret_bool (by simp), by go_grown⟩
  · have hl : ((xc : Int) != (yc : Int)) = true := by simp; omega
    have hR : btW (xc, X) (yc, Y) = decide (xc < yc) := by unfold btW; rw [if_neg e1]
    rw [hR]
    clear hX hY hR
    go_enter Try.func20, Try.ntmps20
    go_wp2
    go_ret
    exact ⟨ret_bool (by simp), by go_grown⟩
end Go.Proofs.Ytnmcgboafdglbaa

/-
  What package spread's raise and Count hand back. No condition but that the words are words of 64 bits.
-/
import Derived.Test.YtjpgdcccnlnmfaaW1b
import Derived.Test.YtjpgdcccnlnmfaaM4
set_option linter.unusedSimpArgs false
set_option linter.unusedVariables false
namespace Go.Proofs.Ytjpgdcccnlnmfaa
open Go.RowKit Go.Sort M

theorem wrap_mod (x : Nat) : IntKind.u64.wrap (x : Int) = ((x % 2 ^ 64 : Nat) : Int) := by
  rw [IntKind.wrap_u64]; omega
theorem wrap_shl (x : Nat) (i : Int) (j : Nat) (h : i.toNat = j) : IntKind.u64.wrap ((x : Int) * 2 ^ i.toNat) = ((x * 2 ^ j % 2 ^ 64 : Nat) : Int) := by
  have e : ((x : Int) * 2 ^ i.toNat) = ((x * 2 ^ j : Nat) : Int) := by rw [h, Int.natCast_mul, Int.natCast_pow]; rfl
  rw [e, wrap_mod]
theorem shr_nat (x : Nat) (i : Int) (j : Nat) (h : i.toNat = j) : ((x : Int) / 2 ^ i.toNat) = ((x / 2 ^ j : Nat) : Int) := by
  rw [h, Int.natCast_ediv, Int.natCast_pow]; rfl
set_option maxHeartbeats 400000 in
theorem raise_any (x : Nat) (k : Nat) (hk : k ≤ 128) :
    Gives Try.prog 16 #[.int .u64 (x : Int), .int .i64 (k : Int)] (.agg #[.int .u64 (raiseH x k : Nat), .int .u64 (raiseL x k : Nat)]) := by
  intro w
  obtain ⟨i, hi⟩ : ∃ i : Int, i = k := ⟨_, rfl⟩
  have HI := Lib.hid hi
  rw [← hi]
  have h0 : 0 ≤ i := by omega
  have h1 : i ≤ 128 := by omega
  clear hi
  by_cases h2 : 64 ≤ i
  · go_enter Try.func16, Try.ntmps16
    go_wp2
    refine bodyPost_ret (by simp [results, Try.results16, go_sem]; try rfl) rfl ?_
    have hk2 := HI.out
    have e1 : raiseH x k = x * 2 ^ (k - 64) % 2 ^ 64 := if_pos (by omega)
    have e2 : raiseL x k = 0 := if_pos (by omega)
    exact ⟨by rw [wrap_shl x (i - 64) (k - 64) (by omega), e1, e2]; rfl, by go_grown⟩
  · go_enter Try.func16, Try.ntmps16
    go_wp2
    go_region
    all_goals go_wp2
    all_goals
      refine bodyPost_ret (by simp [results, Try.results16, go_sem]; try rfl) rfl ?_
      have hk2 := HI.out
      have e1 : raiseH x k = x / 2 ^ (64 - k) := if_neg (by omega)
      have e2 : raiseL x k = x * 2 ^ k % 2 ^ 64 := if_neg (by omega)
      exact ⟨by rw [wrap_shl x i k (by omega), shr_nat x (64 - i) (64 - k) (by omega), e1, e2], by go_grown⟩

def cntN (h l : Nat) (n m : Int) : Nat := if rightB h l n = true ∧ n ≤ m ∧ m ≤ 128 ∧ m - n ≤ 8 then 2 ^ (m - n).toNat else 0
theorem cnt_none {h l : Nat} {n m : Int} (hc : ¬ (rightB h l n = true ∧ n ≤ m ∧ m ≤ 128 ∧ m - n ≤ 8)) : cntN h l n m = 0 := if_neg hc
theorem cnt_some {h l : Nat} {n m : Int} (hc : rightB h l n = true ∧ n ≤ m ∧ m ≤ 128 ∧ m - n ≤ 8) : cntN h l n m = 2 ^ (m - n).toNat := if_pos hc
theorem cnt_le (h l : Nat) (n m : Int) : cntN h l n m ≤ 256 := by
  unfold cntN
  split
  · rename_i hc
    exact Nat.pow_le_pow_right (by decide) (by omega : (m - n).toNat ≤ 8)
  · omega
theorem shr256 (d : Nat) (h : 9 ≤ d) : ((256 : Int) / 2 ^ d) = 0 := by
  have : (256 : Nat) / 2 ^ d = 0 := Nat.div_eq_of_lt (Nat.lt_of_lt_of_le (by decide : 256 < 2 ^ 9) (Nat.pow_le_pow_right (by decide) h))
  have e : ((256 : Int) / 2 ^ d) = ((256 / 2 ^ d : Nat) : Int) := by rw [Int.natCast_ediv, Int.natCast_pow]; rfl
  rw [e, this]; rfl
theorem shr256_ne (d : Nat) (h : d ≤ 8) : ((256 : Int) / 2 ^ d == 0) = false := by
  rcases (show d = 0 ∨ d = 1 ∨ d = 2 ∨ d = 3 ∨ d = 4 ∨ d = 5 ∨ d = 6 ∨ d = 7 ∨ d = 8 by omega) with rfl | rfl | rfl | rfl | rfl | rfl | rfl | rfl | rfl <;> rfl
theorem shl_small (d : Nat) (h : d ≤ 8) : wrap64 (2 ^ d) = ((2 ^ d : Nat) : Int) := by
  rcases (show d = 0 ∨ d = 1 ∨ d = 2 ∨ d = 3 ∨ d = 4 ∨ d = 5 ∨ d = 6 ∨ d = 7 ∨ d = 8 by omega) with rfl | rfl | rfl | rfl | rfl | rfl | rfl | rfl | rfl <;> (unfold wrap64; decide +kernel)
set_option maxHeartbeats 1000000 in
theorem count_any (hi lo : Nat) (n m : Int) (ha : W64 hi) (hb : W64 lo) :
    Gives Try.prog 10 #[.agg #[.int .u64 hi, .int .u64 lo, .int .i64 n], .int .i64 m] (.int .i64 (cntN hi lo n m : Nat)) := by
  intro w
  have hr := right_any hi lo n ha hb
  have hrv := rightB_val hi lo n hb
  cases hR : rightB hi lo n
  · rw [hR] at hr
    rw [cnt_none (by simp [hR])]
    have HR := Lib.hid hr
    clear hr hrv hR
    go_enter Try.func10, Try.ntmps10
    go_wp2_with fail
    refine (HR.out _).mono ?_
    rintro e0 w0 ⟨rfl, hb0⟩
    have hw0 : Below w.heap.size w w0 := by
      refine Below.trans ?_ (hb0.mono ?_)
      · go_grown
      · go_size
    have c2 : w0.cell? ⟨w.heap.size, 2, none⟩ = some (.int .i64 n) := by
      rw [hb0.cell (by simp <;> omega)]
      first | assumption | (simp [go_sem]; done) | (simp [go_sem, *]; done)
    go_wp2
    all_goals
      go_ret
      exact ⟨rfl, by go_grown⟩
  · rw [hR] at hr hrv
    have HR := Lib.hid hr
    obtain ⟨n0, n1, -⟩ := hrv.1 rfl
    clear hr hrv
    by_cases h1 : n ≤ m
    · have d1 : decide (m < n) = false := by simp; omega
      by_cases h2 : m ≤ 128
      · have d2 : decide (128 < m) = false := by simp; omega
        by_cases h3 : m - n ≤ 8
        · rw [cnt_some ⟨hR, h1, h2, h3⟩]
          clear hR
          have s0 := shr256_ne (m - n).toNat (by omega)
          go_enter Try.func10, Try.ntmps10
          go_wp2_with fail
          refine (HR.out _).mono ?_
          rintro e0 w0 ⟨rfl, hb0⟩
          have hw0 : Below w.heap.size w w0 := by
            refine Below.trans ?_ (hb0.mono ?_)
            · go_grown
            · go_size
          have c2 : w0.cell? ⟨w.heap.size, 2, none⟩ = some (.int .i64 n) := by
            rw [hb0.cell (by simp <;> omega)]
            first | assumption | (simp [go_sem]; done) | (simp [go_sem, *]; done)
          go_wp2
          go_ret
          exact ⟨ret_num (shl_small _ (by omega)), by go_grown⟩
        · rw [cnt_none (by omega)]
          clear hR
          have s0 := shr256 (min (m - n).toNat 64) (by omega)
          go_enter Try.func10, Try.ntmps10
          go_wp2_with fail
          refine (HR.out _).mono ?_
          rintro e0 w0 ⟨rfl, hb0⟩
          have hw0 : Below w.heap.size w w0 := by
            refine Below.trans ?_ (hb0.mono ?_)
            · go_grown
            · go_size
          have c2 : w0.cell? ⟨w.heap.size, 2, none⟩ = some (.int .i64 n) := by
            rw [hb0.cell (by simp <;> omega)]
            first | assumption | (simp [go_sem]; done) | (simp [go_sem, *]; done)
          go_wp2
          all_goals
            go_ret
            exact ⟨rfl, by go_grown⟩
      · rw [cnt_none (by omega)]
        clear hR
        go_enter Try.func10, Try.ntmps10
        go_wp2_with fail
        refine (HR.out _).mono ?_
        rintro e0 w0 ⟨rfl, hb0⟩
        have hw0 : Below w.heap.size w w0 := by
          refine Below.trans ?_ (hb0.mono ?_)
          · go_grown
          · go_size
        have c2 : w0.cell? ⟨w.heap.size, 2, none⟩ = some (.int .i64 n) := by
          rw [hb0.cell (by simp <;> omega)]
          first | assumption | (simp [go_sem]; done) | (simp [go_sem, *]; done)
        go_wp2
        all_goals
          go_ret
          exact ⟨rfl, by go_grown⟩
    · rw [cnt_none (by omega)]
      clear hR
      go_enter Try.func10, Try.ntmps10
      go_wp2_with fail
      refine (HR.out _).mono ?_
      rintro e0 w0 ⟨rfl, hb0⟩
      have hw0 : Below w.heap.size w w0 := by
        refine Below.trans ?_ (hb0.mono ?_)
        · go_grown
        · go_size
      have c2 : w0.cell? ⟨w.heap.size, 2, none⟩ = some (.int .i64 n) := by
        rw [hb0.cell (by simp <;> omega)]
        first | assumption | (simp [go_sem]; done) | (simp [go_sem, *]; done)
      go_wp2
      all_goals
        go_ret
        exact ⟨rfl, by go_grown⟩
end Go.Proofs.Ytjpgdcccnlnmfaa

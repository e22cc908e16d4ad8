/-
  What the functions of package addr, and the reference's answers to them, hand back, for every address, prefix and number. No condition but that the words are words of 64 bits.
-/
import Derived.Test.YtjpgdcccnlnmfaaRows
import Derived.WalkKit
import Derived.WalkSpells
import Derived.WalkLawsBesides
import Derived.Handy
import Derived.Lib.Hide
import Derived.Test.YtjpgdcccnlnmfaaM1
import Derived.Test.YtjpgdcccnlnmfaaReg
set_option linter.unusedSimpArgs false
set_option linter.unusedVariables false
namespace Go.Proofs.Ytjpgdcccnlnmfaa
open Go.RowKit Go.Sort M

def firstN (n : Int) : Nat := (2 ^ 64 - 1) ^^^ ((2 ^ 64 - 1) / 2 ^ n.toNat)
theorem firstN_eq (n : Int) (h0 : 0 ≤ n) : bits BinOp.xor IntKind.u64 IntKind.u64.max (18446744073709551615 / 2 ^ n.toNat) = (firstN n : Int) := by
  obtain ⟨k, rfl⟩ := Int.eq_ofNat_of_zero_le h0
  unfold firstN
  have h2 : (2 ^ 64 - 1) / 2 ^ k < 2 ^ 64 := Nat.lt_of_le_of_lt (Nat.div_le_self _ _) (by decide)
  have e : (18446744073709551615 / 2 ^ (k : Int).toNat : Int) = (((2 ^ 64 - 1) / 2 ^ k : Nat) : Int) := by
    rw [Int.toNat_natCast, Int.natCast_ediv]; simp
  rw [e, show IntKind.u64.max = ((2 ^ 64 - 1 : Nat) : Int) from by decide, bits_xor_u64_nat _ _ (by decide) (by simpa using h2)]
  simp

set_option maxHeartbeats 400000 in
theorem first_any (n : Int) (w : World) (h0 : 0 ≤ n) (h1 : n ≤ 64) :
    Calls Try.prog 21 #[.int .i64 n] w fun e w' => e = .returned (.int .u64 (firstN n)) ∧ w = w' := by
  go_enter Try.func21, Try.ntmps21
  go_wp2
  go_ret
  exact ⟨by show Ending.returned (.int .u64 _) = _; rw [firstN_eq n h0], rfl⟩

theorem shr_and (x k : Nat) (hx : W64 x) : bits BinOp.and IntKind.u64 ((x : Int) / 2 ^ k) 1 = ((x / 2 ^ k &&& 1 : Nat) : Int) := by
  have h2 : x / 2 ^ k < 18446744073709551616 := Nat.lt_of_le_of_lt (Nat.div_le_self _ _) hx.lt
  have e : ((x : Int) / 2 ^ k) = ((x / 2 ^ k : Nat) : Int) := by simp
  rw [e, show (1 : Int) = ((1 : Nat) : Int) from rfl, bits_and_u64_nat _ _ h2 (by decide)]
theorem shr_and_wrap (x k : Nat) (hx : W64 x) : wrap64 (bits BinOp.and IntKind.u64 ((x : Int) / 2 ^ k) 1) = ((x / 2 ^ k &&& 1 : Nat) : Int) := by
  rw [shr_and x k hx, Nat.and_one_is_mod]
  unfold wrap64
  omega

theorem and_first (x : Nat) (m : Int) (hx : W64 x) (h0 : 0 ≤ m) (h1 : m ≤ 64) : bits BinOp.and IntKind.u64 (x : Int) (firstN m) = (cutW x m.toNat : Nat) := by
  have h2 : firstN m < 2 ^ 64 := by
    unfold firstN
    exact Nat.xor_lt_two_pow (by decide) (Nat.lt_of_le_of_lt (Nat.div_le_self _ _) (by decide))
  rw [bits_and_u64_nat _ _ hx.lt (by simpa using h2)]
  unfold firstN
  rw [mask_and x m.toNat hx (by omega)]
theorem cut_eq (hi lo : Nat) (n m k : Int) (ha : W64 hi) (hb : W64 lo) (h0 : 0 ≤ m) (h1 : m ≤ 64) (h2 : 0 ≤ k) (h3 : k ≤ 64) (e1 : m.toNat = min n.toNat 64) (e2 : k.toNat = min (n.toNat - 64) 64) :
    Ending.returned (.agg #[.int .u64 (bits BinOp.and IntKind.u64 (hi : Int) (firstN m)), .int .u64 (bits BinOp.and IntKind.u64 (lo : Int) (firstN k))]) =
      Ending.returned (.agg #[.int .u64 (cutW hi n.toNat : Nat), .int .u64 (cutW lo (n.toNat - 64) : Nat)]) := by
  rw [and_first hi m ha h0 h1, and_first lo k hb h2 h3, e1, e2]
  have g : ∀ x k, cutW x (min k 64) = cutW x k := fun x k => by unfold cutW; rw [show 64 - min k 64 = 64 - k by omega]
  rw [g, g]

set_option maxHeartbeats 400000 in
theorem cut_any (hi lo : Nat) (n : Int) (ha : W64 hi) (hb : W64 lo) :
    Gives Try.prog 20 #[.agg #[.int .u64 hi, .int .u64 lo], .int .i64 n] (.agg #[.int .u64 (cutW hi n.toNat), .int .u64 (cutW lo (n.toNat - 64))]) := by
  intro w
  have k0 := cell_regrown (w := (w.alloc (.cells #[.int .u64 hi, .int .u64 lo] 24)).alloc (.cells #[.int .u64 0, .int .u64 0] 24)) (a := ⟨w.heap.size, 0, none⟩) (v := .int .u64 hi) (by simp [go_sem])
  have k1 := cell_regrown (w := (w.alloc (.cells #[.int .u64 hi, .int .u64 lo] 24)).alloc (.cells #[.int .u64 0, .int .u64 0] 24)) (a := ⟨w.heap.size, 1, none⟩) (v := .int .u64 lo) (by simp [go_sem])
  by_cases h1 : n ≤ 0
  · go_enter Try.func20, Try.ntmps20
    go_wp2_with fail
    have kg := cell_grow
    refine region_tail 14 (by kernel_rfl) (by kernel_rfl) ?_
    simp only [List.take_succ_cons, List.take_zero, List.drop_succ_cons, List.drop_zero]
    repeat (any_goals (first | go_big_quiet_step (first | (go_at_call 21; exact Gives.at (Gives.still fun w => first_any _ w (by omega) (by omega)) _ _ _)) | quiet_step (first | (go_at_call 21; exact Gives.at (Gives.still fun w => first_any _ w (by omega) (by omega)) _ _ _))))
    refine wpQuiet_nil ?_
    clear kg
    intro w1 hb1
    obtain ⟨hc1, hf1⟩ := bcell hb1
    have hw1 : Below w.heap.size w w1 := by
      refine Below.trans ?_ (hb1.mono ?_)
      · go_grown
      · first | omega | go_size
    go_wp2
    refine bodyPost_ret (by simp [results, Try.results20, go_sem, hc1, hf1]; try rfl) rfl ?_
    exact ⟨cut_eq hi lo n _ _ ha hb (by omega) (by omega) (by omega) (by omega) (by omega) (by omega), by go_grown⟩
  by_cases h2 : n ≤ 64
  · go_enter Try.func20, Try.ntmps20
    go_wp2_with fail
    have kg := cell_grow
    refine region_tail 14 (by kernel_rfl) (by kernel_rfl) ?_
    simp only [List.take_succ_cons, List.take_zero, List.drop_succ_cons, List.drop_zero]
    repeat (any_goals (first | go_big_quiet_step (first | (go_at_call 21; exact Gives.at (Gives.still fun w => first_any _ w (by omega) (by omega)) _ _ _)) | quiet_step (first | (go_at_call 21; exact Gives.at (Gives.still fun w => first_any _ w (by omega) (by omega)) _ _ _))))
    refine wpQuiet_nil ?_
    clear kg
    intro w1 hb1
    obtain ⟨hc1, hf1⟩ := bcell hb1
    have hw1 : Below w.heap.size w w1 := by
      refine Below.trans ?_ (hb1.mono ?_)
      · go_grown
      · first | omega | go_size
    go_wp2
    refine bodyPost_ret (by simp [results, Try.results20, go_sem, hc1, hf1]; try rfl) rfl ?_
    exact ⟨cut_eq hi lo n _ _ ha hb (by omega) (by omega) (by omega) (by omega) (by omega) (by omega), by go_grown⟩
  by_cases h3 : n ≤ 128
  · go_enter Try.func20, Try.ntmps20
    go_wp2_with fail
    have kg := cell_grow
    refine region_tail 14 (by kernel_rfl) (by kernel_rfl) ?_
    simp only [List.take_succ_cons, List.take_zero, List.drop_succ_cons, List.drop_zero]
    repeat (any_goals (first | go_big_quiet_step (first | (go_at_call 21; exact Gives.at (Gives.still fun w => first_any _ w (by omega) (by omega)) _ _ _)) | quiet_step (first | (go_at_call 21; exact Gives.at (Gives.still fun w => first_any _ w (by omega) (by omega)) _ _ _))))
    refine wpQuiet_nil ?_
    clear kg
    intro w1 hb1
    obtain ⟨hc1, hf1⟩ := bcell hb1
    have hw1 : Below w.heap.size w w1 := by
      refine Below.trans ?_ (hb1.mono ?_)
      · go_grown
      · first | omega | go_size
    go_wp2
    refine bodyPost_ret (by simp [results, Try.results20, go_sem, hc1, hf1]; try rfl) rfl ?_
    exact ⟨cut_eq hi lo n _ _ ha hb (by omega) (by omega) (by omega) (by omega) (by omega) (by omega), by go_grown⟩
  by_cases h4 : 128 < n
  · go_enter Try.func20, Try.ntmps20
    go_wp2_with fail
    have kg := cell_grow
    refine region_tail 14 (by kernel_rfl) (by kernel_rfl) ?_
    simp only [List.take_succ_cons, List.take_zero, List.drop_succ_cons, List.drop_zero]
    repeat (any_goals (first | go_big_quiet_step (first | (go_at_call 21; exact Gives.at (Gives.still fun w => first_any _ w (by omega) (by omega)) _ _ _)) | quiet_step (first | (go_at_call 21; exact Gives.at (Gives.still fun w => first_any _ w (by omega) (by omega)) _ _ _))))
    refine wpQuiet_nil ?_
    clear kg
    intro w1 hb1
    obtain ⟨hc1, hf1⟩ := bcell hb1
    have hw1 : Below w.heap.size w w1 := by
      refine Below.trans ?_ (hb1.mono ?_)
      · go_grown
      · first | omega | go_size
    go_wp2
    refine bodyPost_ret (by simp [results, Try.results20, go_sem, hc1, hf1]; try rfl) rfl ?_
    exact ⟨cut_eq hi lo n _ _ ha hb (by omega) (by omega) (by omega) (by omega) (by omega) (by omega), by go_grown⟩
  omega
end Go.Proofs.Ytjpgdcccnlnmfaa

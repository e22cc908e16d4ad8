/-
  What package pick hands back: the place of a number, the two buckets of a prefix. No condition but that the words are words of 64 bits, and that the count of places is a whole number of 64 bits.
-/
import Derived.Test.YtlglppfkpieabaaShelf
import Derived.Test.YtlglppfkpieabaaW6
set_option linter.unusedSimpArgs false
set_option linter.unusedVariables false
namespace Go.Proofs.Ytlglppfkpieabaa
open Go.RowKit Go.Sort M

theorem mul64_any (x y : Nat) (hx : W64 x) (hy : W64 y) : Gives Try.prog 95 #[.int .u64 x, .int .u64 y] (.tuple #[.int .u64 (redN x y : Nat), .int .u64 (x * y % 18446744073709551616 : Nat)]) :=
  Gives.still fun w => (Try.bits_Mul64 x y hx.lt hy.lt w).mono fun e w' ⟨he, hw⟩ => ⟨he, hw.symm⟩

set_option maxHeartbeats 1000000 in
theorem red_any (x : Nat) (m : Int) (hx : W64 x) (hm : m ≤ 9223372036854775807) :
    Gives Try.prog 74 #[.int .u64 x, .int .i64 m] (.int .i64 (redI x m)) := by
  intro w
  by_cases h : m < 1
  · rw [redI_none h]
    go_enter Try.func74, Try.ntmps74
    go_wp2
    go_ret
    exact ⟨rfl, by go_grown⟩
  · obtain ⟨k, rfl⟩ := Int.eq_ofNat_of_zero_le (show 0 ≤ m by omega)
    rw [redI_nat x k (by omega)]
    have hlt := redN_lt x k hx (by omega)
    have HM := Lib.hid (mul64_any x k hx (W64.mk (by omega)))
    have HL := Lib.hid (IntWalk.wrap64_in (redN x k : Nat) (by omega))
    clear hlt
    go_enter Try.func74, Try.ntmps74
    go_wp2_with fail
    refine (HM.out _).mono ?_
    rintro e0 w0 ⟨rfl, hb0⟩
    have hw0 : Below w.heap.size w w0 := by
      refine Below.trans ?_ (hb0.mono ?_)
      · go_grown
      · go_size
    go_wp2
    go_ret
    exact ⟨ret_num HL.out, hw0⟩
theorem mixx_any (h i : Nat) (hh : W64 h) (hi : W64 i) : Gives Try.prog 65 #[.int .u64 (bits BinOp.xor IntKind.u64 (h : Int) (i : Int))] (.int .u64 (mixN (h ^^^ i) : Nat)) := by
  have := mix_any (bits BinOp.xor IntKind.u64 (h : Int) (i : Int))
  rw [xor_word h i hh hi, mixZ_nat _ (Nat.xor_lt_two_pow hh hi)] at this
  rwa [xor_word h i hh hi]
set_option maxHeartbeats 1000000 in
theorem buck_any (s h l : Nat) (n m : Int) (hs : W64 s) (hh : W64 h) (hl : W64 l) (hm : m ≤ 9223372036854775807) :
    Gives Try.prog 52 #[.int .u64 s, .agg #[.int .u64 h, .int .u64 l, .int .i64 n], .int .i64 m] (.tuple #[.int .i64 (buckI (hashN s h l (wordZ n)) 1 m), .int .i64 (buckI (hashN s h l (wordZ n)) 2 m)]) := by
  intro w
  have HH := Lib.hid (hash_any s h l n hs hh hl)
  have hw : W64 (hashN s h l (wordZ n)) := mixN_w _
  generalize hashN s h l (wordZ n) = v at HH hw ⊢
  have HM1 := Lib.hid (mixx_any v 1 hw (W64.mk (by omega)))
  have HM2 := Lib.hid (mixx_any v 2 hw (W64.mk (by omega)))
  have HR1 := Lib.hid (red_any (mixN (v ^^^ 1)) m (mixN_w _) hm)
  have HR2 := Lib.hid (red_any (mixN (v ^^^ 2)) m (mixN_w _) hm)
  go_enter Try.func52, Try.ntmps52
  go_wp2_with fail
  refine (HH.out _).mono ?_
  rintro e0 w0 ⟨rfl, hb0⟩
  have hw0 : Below w.heap.size w w0 := by
    refine Below.trans ?_ (hb0.mono ?_)
    · go_grown
    · go_size
  go_wp2_with fail
  refine (HM1.out _).mono ?_
  rintro e w1 ⟨rfl, hb1⟩
  have hw1 := hw0.trans (hb1.mono hw0.size)
  go_wp2_with fail
  refine (HR1.out _).mono ?_
  rintro e w2 ⟨rfl, hb2⟩
  have hw2 := hw1.trans (hb2.mono hw1.size)
  go_wp2_with fail
  refine (HM2.out _).mono ?_
  rintro e w3 ⟨rfl, hb3⟩
  have hw3 := hw2.trans (hb3.mono hw2.size)
  go_wp2_with fail
  refine (HR2.out _).mono ?_
  rintro e w4 ⟨rfl, hb4⟩
  have hw4 := hw3.trans (hb4.mono hw3.size)
  go_wp2
  go_ret2
  exact ⟨rfl, hw4⟩
end Go.Proofs.Ytlglppfkpieabaa

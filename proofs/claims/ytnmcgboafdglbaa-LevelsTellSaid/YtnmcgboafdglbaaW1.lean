/-
  What the functions of package addr, and the reference's answers to them, hand back, for every address, prefix and number. No condition but that the words are words of 64 bits.
-/
import Derived.Test.YtnmcgboafdglbaaRows
import Derived.WalkKit
import Derived.WalkSpells
import Derived.WalkLawsBesides
import Derived.Handy
import Derived.Lib.Hide
import Derived.Test.YtnmcgboafdglbaaM1
import Derived.Test.YtnmcgboafdglbaaReg
set_option linter.unusedSimpArgs false
set_option linter.unusedVariables false
namespace Go.Proofs.Ytnmcgboafdglbaa
open Go.RowKit Go.Sort M

def firstN (n : Int) : Nat := (2 ^ 64 - 1) ^^^ ((2 ^ 64 - 1) / 2 ^ n.toNat)
theorem firstN_eq (n : Int) (h0 : 0 ≤ n) : bits BinOp.xor IntKind.u64 IntKind.u64.max (18446744073709551615 / 2 ^ n.toNat) = (firstN n : Int) := by
  obtain ⟨k, rfl⟩ := Int.eq_ofNat_of_zero_le h0
  unfold firstN
  have h2 : (2 ^ 64 - 1) / 2 ^ k < 2 ^ 64 := Nat.lt_of_le_of_lt (Nat.div_le_self _ _) (by decide)
  have e : (18446744073709551615 / 2 ^ (k : Int).toNat : Int) = (((2 ^ 64 - 1) / 2 ^ k : Nat) : Int) := by
    rw [Int.toNat_natCast, Int.natCast_ediv]; simp
  rw [e, show IntKind.u64.max = ((2 ^ 64 - 1 : Nat) : Int) from by decide, bits_xor_u64_nat _ _ (by decide) (by simpa using h2)]
  simp

theorem shr_and (x k : Nat) (hx : W64 x) : bits BinOp.and IntKind.u64 ((x : Int) / 2 ^ k) 1 = ((x / 2 ^ k &&& 1 : Nat) : Int) := by
  have h2 : x / 2 ^ k < 18446744073709551616 := Nat.lt_of_le_of_lt (Nat.div_le_self _ _) hx.lt
  have e : ((x : Int) / 2 ^ k) = ((x / 2 ^ k : Nat) : Int) := by simp
  rw [e, show (1 : Int) = ((1 : Nat) : Int) from rfl, bits_and_u64_nat _ _ h2 (by decide)]
theorem shr_and_wrap (x k : Nat) (hx : W64 x) : wrap64 (bits BinOp.and IntKind.u64 ((x : Int) / 2 ^ k) 1) = ((x / 2 ^ k &&& 1 : Nat) : Int) := by
  rw [shr_and x k hx, Nat.and_one_is_mod]
  unfold wrap64
  omega

theorem and_first (x : Nat) (m : Int) (hx : W64 x) (h0 : 0 ≤ m) (h1 : m ≤ 64) : bits BinOp.and IntKind.u64 (x : Int) (firstN m) = (cutW x m.toNat : Nat) := by
  have h2 : firstN m < 2 ^ 64 := by
    unfold firstN
    exact Nat.xor_lt_two_pow (by decide) (Nat.lt_of_le_of_lt (Nat.div_le_self _ _) (by decide))
  rw [bits_and_u64_nat _ _ hx.lt (by simpa using h2)]
  unfold firstN
  rw [mask_and x m.toNat hx (by omega)]
theorem cut_eq (hi lo : Nat) (n m k : Int) (ha : W64 hi) (hb : W64 lo) (h0 : 0 ≤ m) (h1 : m ≤ 64) (h2 : 0 ≤ k) (h3 : k ≤ 64) (e1 : m.toNat = min n.toNat 64) (e2 : k.toNat = min (n.toNat - 64) 64) :
    Ending.returned (.agg #[.int .u64 (bits BinOp.and IntKind.u64 (hi : Int) (firstN m)), .int .u64 (bits BinOp.and IntKind.u64 (lo : Int) (firstN k))]) =
      Ending.returned (.agg #[.int .u64 (cutW hi n.toNat : Nat), .int .u64 (cutW lo (n.toNat - 64) : Nat)]) := by
  rw [and_first hi m ha h0 h1, and_first lo k hb h2 h3, e1, e2]
  have g : ∀ x k, cutW x (min k 64) = cutW x k := fun x k => by unfold cutW; rw [show 64 - min k 64 = 64 - k by omega]
  rw [g, g]

end Go.Proofs.Ytnmcgboafdglbaa

/-
  What package mixer, and the reference's answers to it, hand back, for every number, seed and prefix. No condition on the number that is mixed; that the words of a prefix are words of 64 bits.
-/
import Derived.Test.YtlglppfkpieabaaW1
import Derived.Test.YtlglppfkpieabaaM5
set_option linter.unusedSimpArgs false
set_option linter.unusedVariables false
namespace Go.Proofs.Ytlglppfkpieabaa
open Go.RowKit Go.Sort M

/-- A whole number as a word of 64 bits. -/
def wordZ (n : Int) : Nat := (n % 18446744073709551616).toNat
theorem wordZ_w (n : Int) : W64 (wordZ n) := W64.mk (by unfold wordZ; omega)
theorem wordZ_nat (x : Nat) (h : W64 x) : wordZ (x : Int) = x := by
  have := h.lt
  unfold wordZ
  omega
theorem wrap_word (n : Int) : IntKind.u64.wrap n = (wordZ n : Int) := by
  rw [IntKind.wrap_u64]
  unfold wordZ
  omega
/-- What is mixed of a word, as the walks write it. -/
def mixZ (x : Int) : Int := (mixN (wordZ x) : Nat)
theorem mixZ_nat (x : Nat) (h : W64 x) : mixZ (x : Int) = (mixN x : Nat) := by unfold mixZ; rw [wordZ_nat x h]
theorem add_word (x : Int) : IntKind.u64.wrap (x + 11400714819323198485) = (addW 11400714819323198485 (wordZ x) : Nat) := by
  rw [IntKind.wrap_u64]
  unfold addW wordZ
  omega
theorem mul_word (c x : Nat) : IntKind.u64.wrap ((x : Int) * (c : Int)) = (mulW c x : Nat) := by
  rw [IntKind.wrap_u64, ← Int.natCast_mul]
  unfold mulW
  omega
theorem xsh_word (x s : Nat) (h : W64 x) : bits BinOp.xor IntKind.u64 (x : Int) ((x : Int) / (2 ^ s : Nat)) = (xsh s x : Nat) := by
  rw [← Int.natCast_ediv, bits_xor_u64_nat _ _ h.lt (Nat.lt_of_le_of_lt (Nat.div_le_self _ _) h.lt)]
  rfl
theorem mix_eq (x : Int) :
    bits BinOp.xor IntKind.u64 (IntKind.u64.wrap (bits BinOp.xor IntKind.u64 (IntKind.u64.wrap (bits BinOp.xor IntKind.u64 (IntKind.u64.wrap (x + 11400714819323198485)) (IntKind.u64.wrap (x + 11400714819323198485) / 1073741824) * 13787848793156543929)) (IntKind.u64.wrap (bits BinOp.xor IntKind.u64 (IntKind.u64.wrap (x + 11400714819323198485)) (IntKind.u64.wrap (x + 11400714819323198485) / 1073741824) * 13787848793156543929) / 134217728) * 10723151780598845931))
      (IntKind.u64.wrap (bits BinOp.xor IntKind.u64 (IntKind.u64.wrap (bits BinOp.xor IntKind.u64 (IntKind.u64.wrap (x + 11400714819323198485)) (IntKind.u64.wrap (x + 11400714819323198485) / 1073741824) * 13787848793156543929)) (IntKind.u64.wrap (bits BinOp.xor IntKind.u64 (IntKind.u64.wrap (x + 11400714819323198485)) (IntKind.u64.wrap (x + 11400714819323198485) / 1073741824) * 13787848793156543929) / 134217728) * 10723151780598845931) / 2147483648) = mixZ x := by
  have e1 := add_word x
  have w1 := addW_w 11400714819323198485 (wordZ x)
  have e2 := xsh_word _ 30 w1
  have w2 := xsh_w 30 _ w1
  have e3 := mul_word 13787848793156543929 (xsh 30 (addW 11400714819323198485 (wordZ x)))
  have w3 := mulW_w 13787848793156543929 (xsh 30 (addW 11400714819323198485 (wordZ x)))
  have e4 := xsh_word _ 27 w3
  have e5 := mul_word 10723151780598845931 (xsh 27 (mulW 13787848793156543929 (xsh 30 (addW 11400714819323198485 (wordZ x)))))
  have w5 := mulW_w 10723151780598845931 (xsh 27 (mulW 13787848793156543929 (xsh 30 (addW 11400714819323198485 (wordZ x)))))
  have e6 := xsh_word _ 31 w5
  simp only [Nat.reducePow, Int.cast_ofNat_Int] at e2 e3 e4 e5 e6
  rw [e1, e2, e3, e4, e5, e6]
  rfl

set_option maxHeartbeats 400000 in
theorem mix_any (x : Int) : Gives Try.prog 65 #[.int .u64 x] (.int .u64 (mixZ x)) := by
  intro w
  go_enter Try.func65, Try.ntmps65
  go_wp2
  go_ret
  exact ⟨ret_num (mix_eq x), by go_grown⟩
set_option maxHeartbeats 400000 in
theorem rmix_any (x : Int) : Gives Try.prog 57 #[.int .u64 x] (.int .u64 (mixZ x)) := by
  intro w
  go_enter Try.func57, Try.ntmps57
  go_wp2
  go_ret
  exact ⟨ret_num (mix_eq x), by go_grown⟩

theorem xor_word (x y : Nat) (h : W64 x) (h2 : W64 y) : bits BinOp.xor IntKind.u64 (x : Int) (y : Int) = (x ^^^ y : Nat) := bits_xor_u64_nat _ _ h.lt h2.lt
theorem hash_eq (s h l : Nat) (n : Int) (hs : W64 s) (hh : W64 h) (hl : W64 l) :
    mixZ (bits BinOp.xor IntKind.u64 (mixZ (bits BinOp.xor IntKind.u64 (mixZ (bits BinOp.xor IntKind.u64 (s : Int) (h : Int))) (l : Int))) (IntKind.u64.wrap n)) = (hashN s h l (wordZ n) : Nat) := by
  rw [xor_word s h hs hh, mixZ_nat _ (Nat.xor_lt_two_pow hs hh), xor_word _ l (mixN_w _) hl, mixZ_nat _ (Nat.xor_lt_two_pow (mixN_w _) hl), wrap_word, xor_word _ _ (mixN_w _) (wordZ_w n), mixZ_nat _ (Nat.xor_lt_two_pow (mixN_w _) (wordZ_w n))]
  rfl
set_option maxHeartbeats 400000 in
theorem hash_any (s h l : Nat) (n : Int) (hs : W64 s) (hh : W64 h) (hl : W64 l) :
    Gives Try.prog 73 #[.int .u64 s, .agg #[.int .u64 h, .int .u64 l, .int .i64 n]] (.int .u64 (hashN s h l (wordZ n))) := by
  intro w
  have he := Lib.hid (hash_eq s h l n hs hh hl)
  go_enter Try.func73, Try.ntmps73
  go_wp2_with fail
  have kg := cell_grow
  refine region_whole (by kernel_rfl) (by kernel_rfl) ?_
  repeat (any_goals (first | go_big_quiet_step (first | (go_at_call 65; exact Gives.at (mix_any _) _ _ _)) | quiet_step (first | (go_at_call 65; exact Gives.at (mix_any _) _ _ _))))
  refine wpQuiet_nil ?_
  clear kg
  intro w1 hb1
  obtain ⟨hc1, hf1⟩ := bcell hb1
  have hw1 : Below w.heap.size w w1 := by
    refine Below.trans ?_ (hb1.mono ?_)
    · go_grown
    · first | omega | go_size
  go_wp2
  go_ret
  exact ⟨ret_num he.out, by go_grown⟩
set_option maxHeartbeats 400000 in
theorem rhash_any (s h l : Nat) (n : Int) (hs : W64 s) (hh : W64 h) (hl : W64 l) :
    Gives Try.prog 55 #[.int .u64 s, .agg #[.int .u64 h, .int .u64 l, .int .i64 n]] (.int .u64 (hashN s h l (wordZ n))) := by
  intro w
  have he := Lib.hid (hash_eq s h l n hs hh hl)
  go_enter Try.func55, Try.ntmps55
  go_wp2_with fail
  have kg := cell_grow
  refine region_whole (by kernel_rfl) (by kernel_rfl) ?_
  repeat (any_goals (first | go_big_quiet_step (first | (go_at_call 57; exact Gives.at (rmix_any _) _ _ _)) | quiet_step (first | (go_at_call 57; exact Gives.at (rmix_any _) _ _ _))))
  refine wpQuiet_nil ?_
  clear kg
  intro w1 hb1
  obtain ⟨hc1, hf1⟩ := bcell hb1
  have hw1 : Below w.heap.size w w1 := by
    refine Below.trans ?_ (hb1.mono ?_)
    · go_grown
    · first | omega | go_size
  go_wp2
  go_ret
  exact ⟨ret_num he.out, by go_grown⟩
end Go.Proofs.Ytlglppfkpieabaa

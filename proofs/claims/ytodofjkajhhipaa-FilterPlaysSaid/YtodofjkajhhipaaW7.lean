/-
  What the counting of a word's bits, a counter's shift and the making of packed counters hand back. No condition but that the word is a word of 64 bits.
-/
import Derived.Test.YtodofjkajhhipaaW1
import Derived.Test.YtodofjkajhhipaaInts
import Derived.Test.YtodofjkajhhipaaRow
import Derived.Test.YtodofjkajhhipaaM7b
set_option linter.unusedSimpArgs false
set_option linter.unusedVariables false
namespace Go.Proofs.Ytodofjkajhhipaa
open Go.RowKit Go.Sort M

theorem andN (a b : Nat) (ha : a < 18446744073709551616) (hb : b < 18446744073709551616) : bits BinOp.and IntKind.u64 (a : Int) (b : Int) = ((a &&& b : Nat) : Int) := bits_and_u64_nat a b ha hb
theorem and_lt (a b : Nat) (hb : b < 18446744073709551616) : a &&& b < 18446744073709551616 := Nat.lt_of_le_of_lt Nat.and_le_right hb
theorem and127 (a : Nat) (ha : a < 9223372036854775808) : bits BinOp.and IntKind.i64 (wrap64 (a : Int)) 127 = ((a % 128 : Nat) : Int) := by
  have h1 : (BitVec.ofInt 64 (a : Int)).toNat = a := by
    rw [BitVec.ofInt_natCast, BitVec.toNat_ofNat]; exact Nat.mod_eq_of_lt (by omega)
  rw [IntWalk.wrap64_in _ (by omega)]
  show IntKind.i64.wrap ((BitVec.ofInt 64 (a : Int) &&& BitVec.ofInt 64 (127 : Int)).toNat : Int) = _
  rw [BitVec.toNat_and, h1, show (BitVec.ofInt 64 (127 : Int)).toNat = 2 ^ 7 - 1 from rfl, Nat.and_two_pow_sub_one_eq_mod, IntWalk.i64_in _ (by omega)]
theorem wrapN (n : Nat) (h : n < 18446744073709551616) : IntKind.u64.wrap (n : Int) = (n : Int) := by
  rw [IntKind.wrap_u64]
  omega
theorem ones_eq (x : Nat) (hx : W64 x) (a b c d e f : Nat)
    (ha : a = (x / 2 &&& 6148914691236517205) + (x &&& 6148914691236517205)) (hb : b = (a / 4 &&& 3689348814741910323) + (a &&& 3689348814741910323)) (hc : c = ((b / 16 + b) &&& 1085102592571150095))
    (hd : d = c + c / 256) (he : e = d + d / 65536) (hf : f = e + e / 4294967296) :
    IntKind.u64.wrap (bits BinOp.and IntKind.u64 ((x : Int) / 2) 6148914691236517205 + bits BinOp.and IntKind.u64 (x : Int) 6148914691236517205) = (a : Int) ∧
    IntKind.u64.wrap (bits BinOp.and IntKind.u64 ((a : Int) / 4) 3689348814741910323 + bits BinOp.and IntKind.u64 (a : Int) 3689348814741910323) = (b : Int) ∧
    bits BinOp.and IntKind.u64 (IntKind.u64.wrap ((b : Int) / 16 + (b : Int))) 1085102592571150095 = (c : Int) ∧
    IntKind.u64.wrap ((c : Int) + (c : Int) / 256) = (d : Int) ∧ IntKind.u64.wrap ((d : Int) + (d : Int) / 65536) = (e : Int) ∧ IntKind.u64.wrap ((e : Int) + (e : Int) / 4294967296) = (f : Int) ∧
    bits BinOp.and IntKind.i64 (wrap64 (f : Int)) 127 = (popN 64 x : Nat) := by
  obtain ⟨h0, h1, h2, h3, h4, h5, h6, bb⟩ := ones_steps x hx.lt a b c d e f ha hb hc hd he hf
  have hx' := hx.lt
  have m1 : (6148914691236517205 : Int) = ((6148914691236517205 : Nat) : Int) := rfl
  have m2 : (3689348814741910323 : Int) = ((3689348814741910323 : Nat) : Int) := rfl
  have m3 : (1085102592571150095 : Int) = ((1085102592571150095 : Nat) : Int) := rfl
  refine ⟨?_, ?_, ?_, ?_, ?_, ?_, ?_⟩
  · rw [show ((x : Int) / 2) = ((x / 2 : Nat) : Int) by simp, m1, andN _ _ (by omega) (by decide), andN _ _ hx' (by decide), ← Int.natCast_add, ← ha, wrapN a h1]
  · rw [show ((a : Int) / 4) = ((a / 4 : Nat) : Int) by simp, m2, andN _ _ (by omega) (by decide), andN _ _ h1 (by decide), ← Int.natCast_add, ← hb, wrapN b h2]
  · rw [show ((b : Int) / 16 + (b : Int)) = ((b / 16 + b : Nat) : Int) by simp, wrapN _ (by omega), m3, andN _ _ (by omega) (by decide), ← hc]
  · rw [show ((c : Int) + (c : Int) / 256) = ((c + c / 256 : Nat) : Int) by simp, ← hd, wrapN d (by omega)]
  · rw [show ((d : Int) + (d : Int) / 65536) = ((d + d / 65536 : Nat) : Int) by simp, ← he, wrapN e (by omega)]
  · rw [show ((e : Int) + (e : Int) / 4294967296) = ((e + e / 4294967296 : Nat) : Int) by simp, ← hf, wrapN f h6]
  · exact and127 f (by omega) |>.trans (by rw [h0])
set_option maxHeartbeats 1000000 in
/-- The library's count of bits. -/
theorem ones_any (x : Nat) (hx : W64 x) : Gives Try.prog 42 #[.int .u64 (x : Int)] (.int .i64 (popN 64 x : Nat)) := by
  intro w
  obtain ⟨h1, h2, h3, h4, h5, h6, h7⟩ := ones_eq x hx _ _ _ _ _ _ rfl rfl rfl rfl rfl rfl
  have H1 := Lib.hid h1
  have H2 := Lib.hid h2
  have H3 := Lib.hid h3
  have H4 := Lib.hid h4
  have H5 := Lib.hid h5
  have H6 := Lib.hid h6
  have H7 := Lib.hid h7
  clear h1 h2 h3 h4 h5 h6 h7
  go_enter Try.func42, Try.ntmps42
  go_wp2
  go_ret
  refine ⟨ret_num ?_, by go_grown⟩
  rw [H1.out, H2.out, H3.out, H4.out, H5.out, H6.out, H7.out]
theorem shift_any (i : Int) (h0 : 0 ≤ i) (h1 : i ≤ 65536) : Gives Try.prog 39 #[.int .i64 i] (.int .i64 (4 * (i.toNat % 16) : Nat)) := by
  intro w
  go_enter Try.func39, Try.ntmps39
  go_wp2
  go_ret
  refine ⟨ret_num ?_, by go_grown⟩
  omega
end Go.Proofs.Ytodofjkajhhipaa

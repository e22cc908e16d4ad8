/-
  What package mixer, and the reference's answers to it, hand back, for every number, seed and prefix. No condition on the number that is mixed; that the words of a prefix are words of 64 bits.
-/
import Derived.Test.YtlmampklgghngaaRows
import Derived.WalkKit
import Derived.WalkSpells
import Derived.WalkLawsBesides
import Derived.Handy
import Derived.Lib.Hide
import Derived.Test.YtlmampklgghngaaM1
import Derived.Test.YtlmampklgghngaaReg
/-
  What the functions of package addr, and the reference's answers to them, hand back, for every address, prefix and number. No condition but that the words are words of 64 bits.
-/
set_option linter.unusedSimpArgs false
set_option linter.unusedVariables false
namespace Go.Proofs.Ytlmampklgghngaa
open Go.RowKit Go.Sort M

def firstN (n : Int) : Nat := (2 ^ 64 - 1) ^^^ ((2 ^ 64 - 1) / 2 ^ n.toNat)
theorem firstN_eq (n : Int) (h0 : 0 ≤ n) : bits BinOp.xor IntKind.u64 IntKind.u64.max (18446744073709551615 / 2 ^ n.toNat) = (firstN n : Int) := by
  obtain ⟨k, rfl⟩ := Int.eq_ofNat_of_zero_le h0
  unfold firstN
  have h2 : (2 ^ 64 - 1) / 2 ^ k < 2 ^ 64 := Nat.lt_of_le_of_lt (Nat.div_le_self _ _) (by decide)
  have e : (18446744073709551615 / 2 ^ (k : Int).toNat : Int) = (((2 ^ 64 - 1) / 2 ^ k : Nat) : Int) := by
    rw [Int.toNat_natCast, Int.natCast_ediv]; simp
  rw [e, show IntKind.u64.max = ((2 ^ 64 - 1 : Nat) : Int) from by decide, bits_xor_u64_nat _ _ (by decide) (by simpa using h2)]
  simp

set_option maxHeartbeats 400000 in
theorem first_any (n : Int) (w : World) (h0 : 0 ≤ n) (h1 : n ≤ 64) :
    Calls Try.prog 74 #[.int .i64 n] w fun e w' => e = .returned (.int .u64 (firstN n)) ∧ w = w' := by
  go_enter Try.func74, Try.ntmps74
  go_wp2
  go_ret
  exact ⟨by show Ending.returned (.int .u64 _) = _; rw [firstN_eq n h0], rfl⟩

theorem shr_and (x k : Nat) (hx : W64 x) : bits BinOp.and IntKind.u64 ((x : Int) / 2 ^ k) 1 = ((x / 2 ^ k &&& 1 : Nat) : Int) := by
  have h2 : x / 2 ^ k < 18446744073709551616 := Nat.lt_of_le_of_lt (Nat.div_le_self _ _) hx.lt
  have e : ((x : Int) / 2 ^ k) = ((x / 2 ^ k : Nat) : Int) := by simp
  rw [e, show (1 : Int) = ((1 : Nat) : Int) from rfl, bits_and_u64_nat _ _ h2 (by decide)]
theorem shr_and_wrap (x k : Nat) (hx : W64 x) : wrap64 (bits BinOp.and IntKind.u64 ((x : Int) / 2 ^ k) 1) = ((x / 2 ^ k &&& 1 : Nat) : Int) := by
  rw [shr_and x k hx, Nat.and_one_is_mod]
  unfold wrap64
  omega

theorem and_first (x : Nat) (m : Int) (hx : W64 x) (h0 : 0 ≤ m) (h1 : m ≤ 64) : bits BinOp.and IntKind.u64 (x : Int) (firstN m) = (cutW x m.toNat : Nat) := by
  have h2 : firstN m < 2 ^ 64 := by
    unfold firstN
    exact Nat.xor_lt_two_pow (by decide) (Nat.lt_of_le_of_lt (Nat.div_le_self _ _) (by decide))
  rw [bits_and_u64_nat _ _ hx.lt (by simpa using h2)]
  unfold firstN
  rw [mask_and x m.toNat hx (by omega)]
theorem cut_eq (hi lo : Nat) (n m k : Int) (ha : W64 hi) (hb : W64 lo) (h0 : 0 ≤ m) (h1 : m ≤ 64) (h2 : 0 ≤ k) (h3 : k ≤ 64) (e1 : m.toNat = min n.toNat 64) (e2 : k.toNat = min (n.toNat - 64) 64) :
    Ending.returned (.agg #[.int .u64 (bits BinOp.and IntKind.u64 (hi : Int) (firstN m)), .int .u64 (bits BinOp.and IntKind.u64 (lo : Int) (firstN k))]) =
      Ending.returned (.agg #[.int .u64 (cutW hi n.toNat : Nat), .int .u64 (cutW lo (n.toNat - 64) : Nat)]) := by
  rw [and_first hi m ha h0 h1, and_first lo k hb h2 h3, e1, e2]
  have g : ∀ x k, cutW x (min k 64) = cutW x k := fun x k => by unfold cutW; rw [show 64 - min k 64 = 64 - k by omega]
  rw [g, g]

set_option maxHeartbeats 400000 in
theorem cut_any (hi lo : Nat) (n : Int) (ha : W64 hi) (hb : W64 lo) :
    Gives Try.prog 72 #[.agg #[.int .u64 hi, .int .u64 lo], .int .i64 n] (.agg #[.int .u64 (cutW hi n.toNat), .int .u64 (cutW lo (n.toNat - 64))]) := by
  intro w
  have k0 := cell_regrown (w := (w.alloc (.cells #[.int .u64 hi, .int .u64 lo] 24)).alloc (.cells #[.int .u64 0, .int .u64 0] 24)) (a := ⟨w.heap.size, 0, none⟩) (v := .int .u64 hi) (by simp [go_sem])
  have k1 := cell_regrown (w := (w.alloc (.cells #[.int .u64 hi, .int .u64 lo] 24)).alloc (.cells #[.int .u64 0, .int .u64 0] 24)) (a := ⟨w.heap.size, 1, none⟩) (v := .int .u64 lo) (by simp [go_sem])
  by_cases h1 : n ≤ 0
  · go_enter Try.func72, Try.ntmps72
    go_wp2_with fail
    have kg := cell_grow
    refine region_tail 14 (by kernel_rfl) (by kernel_rfl) ?_
    simp only [List.take_succ_cons, List.take_zero, List.drop_succ_cons, List.drop_zero]
    repeat (any_goals (first | go_big_quiet_step (first | (go_at_call 74; exact Gives.at (Gives.still fun w => first_any _ w (by omega) (by omega)) _ _ _)) | quiet_step (first | (go_at_call 74; exact Gives.at (Gives.still fun w => first_any _ w (by omega) (by omega)) _ _ _))))
    refine wpQuiet_nil ?_
    clear kg
    intro w1 hb1
    obtain ⟨hc1, hf1⟩ := bcell hb1
    have hw1 : Below w.heap.size w w1 := by
      refine Below.trans ?_ (hb1.mono ?_)
      · go_grown
      · first | omega | go_size
    go_wp2
    refine bodyPost_ret (by simp [results, Try.results72, go_sem, hc1, hf1]; try rfl) rfl ?_
    exact ⟨cut_eq hi lo n _ _ ha hb (by omega) (by omega) (by omega) (by omega) (by omega) (by omega), by go_grown⟩
  by_cases h2 : n ≤ 64
  · go_enter Try.func72, Try.ntmps72
    go_wp2_with fail
    have kg := cell_grow
    refine region_tail 14 (by kernel_rfl) (by kernel_rfl) ?_
    simp only [List.take_succ_cons, List.take_zero, List.drop_succ_cons, List.drop_zero]
    repeat (any_goals (first | go_big_quiet_step (first | (go_at_call 74; exact Gives.at (Gives.still fun w => first_any _ w (by omega) (by omega)) _ _ _)) | quiet_step (first | (go_at_call 74; exact Gives.at (Gives.still fun w => first_any _ w (by omega) (by omega)) _ _ _))))
    refine wpQuiet_nil ?_
    clear kg
    intro w1 hb1
    obtain ⟨hc1, hf1⟩ := bcell hb1
    have hw1 : Below w.heap.size w w1 := by
      refine Below.trans ?_ (hb1.mono ?_)
      · go_grown
      · first | omega | go_size
    go_wp2
    refine bodyPost_ret (by simp [results, Try.results72, go_sem, hc1, hf1]; try rfl) rfl ?_
    exact ⟨cut_eq hi lo n _ _ ha hb (by omega) (by omega) (by omega) (by omega) (by omega) (by omega), by go_grown⟩
  by_cases h3 : n ≤ 128
  · go_enter Try.func72, Try.ntmps72
    go_wp2_with fail
    have kg := cell_grow
    refine region_tail 14 (by kernel_rfl) (by kernel_rfl) ?_
    simp only [List.take_succ_cons, List.take_zero, List.drop_succ_cons, List.drop_zero]
    repeat (any_goals (first | go_big_quiet_step (first | (go_at_call 74; exact Gives.at (Gives.still fun w => first_any _ w (by omega) (by omega)) _ _ _)) | quiet_step (first | (go_at_call 74; exact Gives.at (Gives.still fun w => first_any _ w (by omega) (by omega)) _ _ _))))
    refine wpQuiet_nil ?_
    clear kg
    intro w1 hb1
    obtain ⟨hc1, hf1⟩ := bcell hb1
    have hw1 : Below w.heap.size w w1 := by
      refine Below.trans ?_ (hb1.mono ?_)
      · go_grown
      · first | omega | go_size
    go_wp2
    refine bodyPost_ret (by simp [results, Try.results72, go_sem, hc1, hf1]; try rfl) rfl ?_
    exact ⟨cut_eq hi lo n _ _ ha hb (by omega) (by omega) (by omega) (by omega) (by omega) (by omega), by go_grown⟩
  by_cases h4 : 128 < n
  · go_enter Try.func72, Try.ntmps72
    go_wp2_with fail
    have kg := cell_grow
    refine region_tail 14 (by kernel_rfl) (by kernel_rfl) ?_
    simp only [List.take_succ_cons, List.take_zero, List.drop_succ_cons, List.drop_zero]
    repeat (any_goals (first | go_big_quiet_step (first | (go_at_call 74; exact Gives.at (Gives.still fun w => first_any _ w (by omega) (by omega)) _ _ _)) | quiet_step (first | (go_at_call 74; exact Gives.at (Gives.still fun w => first_any _ w (by omega) (by omega)) _ _ _))))
    refine wpQuiet_nil ?_
    clear kg
    intro w1 hb1
    obtain ⟨hc1, hf1⟩ := bcell hb1
    have hw1 : Below w.heap.size w w1 := by
      refine Below.trans ?_ (hb1.mono ?_)
      · go_grown
      · first | omega | go_size
    go_wp2
    refine bodyPost_ret (by simp [results, Try.results72, go_sem, hc1, hf1]; try rfl) rfl ?_
    exact ⟨cut_eq hi lo n _ _ ha hb (by omega) (by omega) (by omega) (by omega) (by omega) (by omega), by go_grown⟩
  omega
end Go.Proofs.Ytlmampklgghngaa
/-
  Plain mathematics: the mixing of words of 64 bits, told step by step, and that no two words are mixed to one. No condition but that the words are words of 64 bits.
-/
set_option linter.unusedSimpArgs false
set_option linter.unusedVariables false
namespace Go.Proofs.Ytlmampklgghngaa.M

/-- A word and itself, shifted, against each other. -/
def xsh (s x : Nat) : Nat := x ^^^ (x / 2 ^ s)
def mulW (c x : Nat) : Nat := x * c % 2 ^ 64
def addW (c x : Nat) : Nat := (x + c) % 2 ^ 64
/-- What a word is mixed to. -/
def mixN (x : Nat) : Nat := xsh 31 (mulW 10723151780598845931 (xsh 27 (mulW 13787848793156543929 (xsh 30 (addW 11400714819323198485 x)))))
theorem xsh_w (s x : Nat) (h : W64 x) : W64 (xsh s x) := Nat.xor_lt_two_pow h (Nat.lt_of_le_of_lt (Nat.div_le_self _ _) h)
theorem mulW_w (c x : Nat) : W64 (mulW c x) := Nat.mod_lt _ (by decide)
theorem addW_w (c x : Nat) : W64 (addW c x) := Nat.mod_lt _ (by decide)
theorem mixN_w (x : Nat) : W64 (mixN x) := xsh_w _ _ (mulW_w _ _)
theorem xsh_inj (s x y : Nat) (hs : 0 < s) (hx : W64 x) (hy : W64 y) (h : xsh s x = xsh s y) : x = y := by
  have bit : ∀ i, x.testBit i = (y.testBit i ^^ (x.testBit (i + s) ^^ y.testBit (i + s))) := fun i => by
    have e := congrArg (fun z => z.testBit i) h
    simp only [xsh, Nat.testBit_xor, Nat.testBit_div_two_pow] at e
    cases h1 : x.testBit i <;> cases h2 : y.testBit i <;> cases h3 : x.testBit (i + s) <;> cases h4 : y.testBit (i + s) <;> simp_all
  have key : ∀ d i, 64 ≤ i + d → x.testBit i = y.testBit i := by
    intro d
    induction d with
    | zero =>
      intro i hi
      have h2 : (2 : Nat) ^ 64 ≤ 2 ^ i := Nat.pow_le_pow_right (by decide) (by omega)
      rw [Nat.testBit_lt_two_pow (Nat.lt_of_lt_of_le hx h2), Nat.testBit_lt_two_pow (Nat.lt_of_lt_of_le hy h2)]
    | succ d ih =>
      intro i hi
      rw [bit i, ih (i + s) (by omega)]
      cases y.testBit i <;> cases y.testBit (i + s) <;> rfl
  exact Nat.eq_of_testBit_eq fun i => key 64 i (by omega)
theorem mulW_inj (c d x y : Nat) (hcd : c * d % 2 ^ 64 = 1) (hx : W64 x) (hy : W64 y) (h : mulW c x = mulW c y) : x = y := by
  have e : ∀ z, W64 z → mulW c z * d % 2 ^ 64 = z := fun z hz => by
    unfold mulW
    rw [Nat.mod_mul_mod, Nat.mul_assoc, Nat.mul_mod, hcd, Nat.mul_one, Nat.mod_mod, Nat.mod_eq_of_lt hz]
  rw [← e x hx, ← e y hy, h]
theorem addW_inj (c x y : Nat) (hx : W64 x) (hy : W64 y) (h : addW c x = addW c y) : x = y := by
  unfold addW at h
  unfold W64 at hx hy
  omega
/-- No two words are mixed to one. -/
theorem mixN_inj (x y : Nat) (hx : W64 x) (hy : W64 y) (h : mixN x = mixN y) : x = y := by
  unfold mixN at h
  have h1 := xsh_inj 31 _ _ (by decide) (mulW_w _ _) (mulW_w _ _) h
  have h2 := mulW_inj _ 3573116690164977347 _ _ (by decide) (xsh_w _ _ (mulW_w _ _)) (xsh_w _ _ (mulW_w _ _)) h1
  have h3 := xsh_inj 27 _ _ (by decide) (mulW_w _ _) (mulW_w _ _) h2
  have h4 := mulW_inj _ 10871156337175269513 _ _ (by decide) (xsh_w _ _ (addW_w _ _)) (xsh_w _ _ (addW_w _ _)) h3
  have h5 := xsh_inj 30 _ _ (by decide) (addW_w _ _) (addW_w _ _) h4
  exact addW_inj _ _ _ hx hy h5
theorem mixN_zero : mixN 0 = 16294208416658607535 := by decide +kernel
/-- The hash of a prefix. -/
def hashN (seed h l : Nat) (n : Nat) : Nat := mixN (mixN (mixN (seed ^^^ h) ^^^ l) ^^^ n)
end Go.Proofs.Ytlmampklgghngaa.M
/-
  What package mixer, and the reference's answers to it, hand back, for every number, seed and prefix. No condition on the number that is mixed; that the words of a prefix are words of 64 bits.
-/
set_option linter.unusedSimpArgs false
set_option linter.unusedVariables false
namespace Go.Proofs.Ytlmampklgghngaa
open Go.RowKit Go.Sort M

/-- A whole number as a word of 64 bits. -/
def wordZ (n : Int) : Nat := (n % 18446744073709551616).toNat
theorem wordZ_w (n : Int) : W64 (wordZ n) := W64.mk (by unfold wordZ; omega)
theorem wordZ_nat (x : Nat) (h : W64 x) : wordZ (x : Int) = x := by
  have := h.lt
  unfold wordZ
  omega
theorem wrap_word (n : Int) : IntKind.u64.wrap n = (wordZ n : Int) := by
  rw [IntKind.wrap_u64]
  unfold wordZ
  omega
/-- What is mixed of a word, as the walks write it. -/
def mixZ (x : Int) : Int := (mixN (wordZ x) : Nat)
theorem mixZ_nat (x : Nat) (h : W64 x) : mixZ (x : Int) = (mixN x : Nat) := by unfold mixZ; rw [wordZ_nat x h]
theorem add_word (x : Int) : IntKind.u64.wrap (x + 11400714819323198485) = (addW 11400714819323198485 (wordZ x) : Nat) := by
  rw [IntKind.wrap_u64]
  unfold addW wordZ
  omega
theorem mul_word (c x : Nat) : IntKind.u64.wrap ((x : Int) * (c : Int)) = (mulW c x : Nat) := by
  rw [IntKind.wrap_u64, ← Int.natCast_mul]
  unfold mulW
  omega
theorem xsh_word (x s : Nat) (h : W64 x) : bits BinOp.xor IntKind.u64 (x : Int) ((x : Int) / (2 ^ s : Nat)) = (xsh s x : Nat) := by
  rw [← Int.natCast_ediv, bits_xor_u64_nat _ _ h.lt (Nat.lt_of_le_of_lt (Nat.div_le_self _ _) h.lt)]
  rfl
theorem mix_eq (x : Int) :
    bits BinOp.xor IntKind.u64 (IntKind.u64.wrap (bits BinOp.xor IntKind.u64 (IntKind.u64.wrap (bits BinOp.xor IntKind.u64 (IntKind.u64.wrap (x + 11400714819323198485)) (IntKind.u64.wrap (x + 11400714819323198485) / 1073741824) * 13787848793156543929)) (IntKind.u64.wrap (bits BinOp.xor IntKind.u64 (IntKind.u64.wrap (x + 11400714819323198485)) (IntKind.u64.wrap (x + 11400714819323198485) / 1073741824) * 13787848793156543929) / 134217728) * 10723151780598845931))
      (IntKind.u64.wrap (bits BinOp.xor IntKind.u64 (IntKind.u64.wrap (bits BinOp.xor IntKind.u64 (IntKind.u64.wrap (x + 11400714819323198485)) (IntKind.u64.wrap (x + 11400714819323198485) / 1073741824) * 13787848793156543929)) (IntKind.u64.wrap (bits BinOp.xor IntKind.u64 (IntKind.u64.wrap (x + 11400714819323198485)) (IntKind.u64.wrap (x + 11400714819323198485) / 1073741824) * 13787848793156543929) / 134217728) * 10723151780598845931) / 2147483648) = mixZ x := by
  have e1 := add_word x
  have w1 := addW_w 11400714819323198485 (wordZ x)
  have e2 := xsh_word _ 30 w1
  have w2 := xsh_w 30 _ w1
  have e3 := mul_word 13787848793156543929 (xsh 30 (addW 11400714819323198485 (wordZ x)))
  have w3 := mulW_w 13787848793156543929 (xsh 30 (addW 11400714819323198485 (wordZ x)))
  have e4 := xsh_word _ 27 w3
  have e5 := mul_word 10723151780598845931 (xsh 27 (mulW 13787848793156543929 (xsh 30 (addW 11400714819323198485 (wordZ x)))))
  have w5 := mulW_w 10723151780598845931 (xsh 27 (mulW 13787848793156543929 (xsh 30 (addW 11400714819323198485 (wordZ x)))))
  have e6 := xsh_word _ 31 w5
  simp only [Nat.reducePow, Int.cast_ofNat_Int] at e2 e3 e4 e5 e6
  rw [e1, e2, e3, e4, e5, e6]
  rfl

theorem xor_word (x y : Nat) (h : W64 x) (h2 : W64 y) : bits BinOp.xor IntKind.u64 (x : Int) (y : Int) = (x ^^^ y : Nat) := bits_xor_u64_nat _ _ h.lt h2.lt
theorem hash_eq (s h l : Nat) (n : Int) (hs : W64 s) (hh : W64 h) (hl : W64 l) :
    mixZ (bits BinOp.xor IntKind.u64 (mixZ (bits BinOp.xor IntKind.u64 (mixZ (bits BinOp.xor IntKind.u64 (s : Int) (h : Int))) (l : Int))) (IntKind.u64.wrap n)) = (hashN s h l (wordZ n) : Nat) := by
  rw [xor_word s h hs hh, mixZ_nat _ (Nat.xor_lt_two_pow hs hh), xor_word _ l (mixN_w _) hl, mixZ_nat _ (Nat.xor_lt_two_pow (mixN_w _) hl), wrap_word, xor_word _ _ (mixN_w _) (wordZ_w n), mixZ_nat _ (Nat.xor_lt_two_pow (mixN_w _) (wordZ_w n))]
  rfl
end Go.Proofs.Ytlmampklgghngaa

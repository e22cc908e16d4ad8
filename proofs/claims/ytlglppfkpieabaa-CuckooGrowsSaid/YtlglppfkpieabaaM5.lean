/-
  Plain mathematics: the mixing of words of 64 bits, told step by step, and that no two words are mixed to one. No condition but that the words are words of 64 bits.
-/
import Derived.Test.YtlglppfkpieabaaM1
set_option linter.unusedSimpArgs false
set_option linter.unusedVariables false
namespace Go.Proofs.Ytlglppfkpieabaa.M

/-- A word and itself, shifted, against each other. -/
def xsh (s x : Nat) : Nat := x ^^^ (x / 2 ^ s)
def mulW (c x : Nat) : Nat := x * c % 2 ^ 64
def addW (c x : Nat) : Nat := (x + c) % 2 ^ 64
/-- What a word is mixed to. -/
def mixN (x : Nat) : Nat := xsh 31 (mulW 10723151780598845931 (xsh 27 (mulW 13787848793156543929 (xsh 30 (addW 11400714819323198485 x)))))
theorem xsh_w (s x : Nat) (h : W64 x) : W64 (xsh s x) := Nat.xor_lt_two_pow h (Nat.lt_of_le_of_lt (Nat.div_le_self _ _) h)
theorem mulW_w (c x : Nat) : W64 (mulW c x) := Nat.mod_lt _ (by decide)
theorem addW_w (c x : Nat) : W64 (addW c x) := Nat.mod_lt _ (by decide)
theorem mixN_w (x : Nat) : W64 (mixN x) := xsh_w _ _ (mulW_w _ _)
theorem xsh_inj (s x y : Nat) (hs : 0 < s) (hx : W64 x) (hy : W64 y) (h : xsh s x = xsh s y) : x = y := by
  have bit : ∀ i, x.testBit i = (y.testBit i ^^ (x.testBit (i + s) ^^ y.testBit (i + s))) := fun i => by
    have e := congrArg (fun z => z.testBit i) h
    simp only [xsh, Nat.testBit_xor, Nat.testBit_div_two_pow] at e
    cases h1 : x.testBit i <;> cases h2 : y.testBit i <;> cases h3 : x.testBit (i + s) <;> cases h4 : y.testBit (i + s) <;> simp_all
  have key : ∀ d i, 64 ≤ i + d → x.testBit i = y.testBit i := by
    intro d
    induction d with
    | zero =>
      intro i hi
      have h2 : (2 : Nat) ^ 64 ≤ 2 ^ i := Nat.pow_le_pow_right (by decide) (by omega)
      rw [Nat.testBit_lt_two_pow (Nat.lt_of_lt_of_le hx h2), Nat.testBit_lt_two_pow (Nat.lt_of_lt_of_le hy h2)]
    | succ d ih =>
      intro i hi
      rw [bit i, ih (i + s) (by omega)]
      cases y.testBit i <;> cases y.testBit (i + s) <;> rfl
  exact Nat.eq_of_testBit_eq fun i => key 64 i (by omega)
theorem mulW_inj (c d x y : Nat) (hcd : c * d % 2 ^ 64 = 1) (hx : W64 x) (hy : W64 y) (h : mulW c x = mulW c y) : x = y := by
  have e : ∀ z, W64 z → mulW c z * d % 2 ^ 64 = z := fun z hz => by
    unfold mulW
    rw [Nat.mod_mul_mod, Nat.mul_assoc, Nat.mul_mod, hcd, Nat.mul_one, Nat.mod_mod, Nat.mod_eq_of_lt hz]
  rw [← e x hx, ← e y hy, h]
theorem addW_inj (c x y : Nat) (hx : W64 x) (hy : W64 y) (h : addW c x = addW c y) : x = y := by
  unfold addW at h
  unfold W64 at hx hy
  omega
/-- No two words are mixed to one. -/
theorem mixN_inj (x y : Nat) (hx : W64 x) (hy : W64 y) (h : mixN x = mixN y) : x = y := by
  unfold mixN at h
  have h1 := xsh_inj 31 _ _ (by decide) (mulW_w _ _) (mulW_w _ _) h
  have h2 := mulW_inj _ 3573116690164977347 _ _ (by decide) (xsh_w _ _ (mulW_w _ _)) (xsh_w _ _ (mulW_w _ _)) h1
  have h3 := xsh_inj 27 _ _ (by decide) (mulW_w _ _) (mulW_w _ _) h2
  have h4 := mulW_inj _ 10871156337175269513 _ _ (by decide) (xsh_w _ _ (addW_w _ _)) (xsh_w _ _ (addW_w _ _)) h3
  have h5 := xsh_inj 30 _ _ (by decide) (addW_w _ _) (addW_w _ _) h4
  exact addW_inj _ _ _ hx hy h5
theorem mixN_zero : mixN 0 = 16294208416658607535 := by decide +kernel
/-- The hash of a prefix. -/
def hashN (seed h l : Nat) (n : Nat) : Nat := mixN (mixN (mixN (seed ^^^ h) ^^^ l) ^^^ n)
end Go.Proofs.Ytlglppfkpieabaa.M

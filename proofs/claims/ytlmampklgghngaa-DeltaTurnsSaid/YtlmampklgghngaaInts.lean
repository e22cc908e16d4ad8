/-
  Rows of whole numbers in memory: a list of numbers as cells, one to each; rows of the call's own, and what is read of them. No condition but those that stand in each.
-/
import Derived.Test.YtlmampklgghngaaM11
import Derived.Test.YtlmampklgghngaaW1
import Derived.WalkKit
import Derived.Maps.AppendAt
/-
  Plain mathematics: the mixing of words of 64 bits, told step by step, and that no two words are mixed to one. No condition but that the words are words of 64 bits.
-/
set_option linter.unusedSimpArgs false
set_option linter.unusedVariables false
namespace Go.Proofs.Ytlmampklgghngaa.M

/-- A word and itself, shifted, against each other. -/
def xsh (s x : Nat) : Nat := x ^^^ (x / 2 ^ s)
def mulW (c x : Nat) : Nat := x * c % 2 ^ 64
def addW (c x : Nat) : Nat := (x + c) % 2 ^ 64
/-- What a word is mixed to. -/
def mixN (x : Nat) : Nat := xsh 31 (mulW 10723151780598845931 (xsh 27 (mulW 13787848793156543929 (xsh 30 (addW 11400714819323198485 x)))))
theorem xsh_w (s x : Nat) (h : W64 x) : W64 (xsh s x) := Nat.xor_lt_two_pow h (Nat.lt_of_le_of_lt (Nat.div_le_self _ _) h)
theorem mulW_w (c x : Nat) : W64 (mulW c x) := Nat.mod_lt _ (by decide)
theorem addW_w (c x : Nat) : W64 (addW c x) := Nat.mod_lt _ (by decide)
theorem mixN_w (x : Nat) : W64 (mixN x) := xsh_w _ _ (mulW_w _ _)
theorem xsh_inj (s x y : Nat) (hs : 0 < s) (hx : W64 x) (hy : W64 y) (h : xsh s x = xsh s y) : x = y := by
  have bit : ∀ i, x.testBit i = (y.testBit i ^^ (x.testBit (i + s) ^^ y.testBit (i + s))) := fun i => by
    have e := congrArg (fun z => z.testBit i) h
    simp only [xsh, Nat.testBit_xor, Nat.testBit_div_two_pow] at e
    cases h1 : x.testBit i <;> cases h2 : y.testBit i <;> cases h3 : x.testBit (i + s) <;> cases h4 : y.testBit (i + s) <;> simp_all
  have key : ∀ d i, 64 ≤ i + d → x.testBit i = y.testBit i := by
    intro d
    induction d with
    | zero =>
      intro i hi
      have h2 : (2 : Nat) ^ 64 ≤ 2 ^ i := Nat.pow_le_pow_right (by decide) (by omega)
      rw [Nat.testBit_lt_two_pow (Nat.lt_of_lt_of_le hx h2), Nat.testBit_lt_two_pow (Nat.lt_of_lt_of_le hy h2)]
    | succ d ih =>
      intro i hi
      rw [bit i, ih (i + s) (by omega)]
      cases y.testBit i <;> cases y.testBit (i + s) <;> rfl
  exact Nat.eq_of_testBit_eq fun i => key 64 i (by omega)
theorem mulW_inj (c d x y : Nat) (hcd : c * d % 2 ^ 64 = 1) (hx : W64 x) (hy : W64 y) (h : mulW c x = mulW c y) : x = y := by
  have e : ∀ z, W64 z → mulW c z * d % 2 ^ 64 = z := fun z hz => by
    unfold mulW
    rw [Nat.mod_mul_mod, Nat.mul_assoc, Nat.mul_mod, hcd, Nat.mul_one, Nat.mod_mod, Nat.mod_eq_of_lt hz]
  rw [← e x hx, ← e y hy, h]
theorem addW_inj (c x y : Nat) (hx : W64 x) (hy : W64 y) (h : addW c x = addW c y) : x = y := by
  unfold addW at h
  unfold W64 at hx hy
  omega
/-- No two words are mixed to one. -/
theorem mixN_inj (x y : Nat) (hx : W64 x) (hy : W64 y) (h : mixN x = mixN y) : x = y := by
  unfold mixN at h
  have h1 := xsh_inj 31 _ _ (by decide) (mulW_w _ _) (mulW_w _ _) h
  have h2 := mulW_inj _ 3573116690164977347 _ _ (by decide) (xsh_w _ _ (mulW_w _ _)) (xsh_w _ _ (mulW_w _ _)) h1
  have h3 := xsh_inj 27 _ _ (by decide) (mulW_w _ _) (mulW_w _ _) h2
  have h4 := mulW_inj _ 10871156337175269513 _ _ (by decide) (xsh_w _ _ (addW_w _ _)) (xsh_w _ _ (addW_w _ _)) h3
  have h5 := xsh_inj 30 _ _ (by decide) (addW_w _ _) (addW_w _ _) h4
  exact addW_inj _ _ _ hx hy h5
theorem mixN_zero : mixN 0 = 16294208416658607535 := by decide +kernel
/-- The hash of a prefix. -/
def hashN (seed h l : Nat) (n : Nat) : Nat := mixN (mixN (mixN (seed ^^^ h) ^^^ l) ^^^ n)
end Go.Proofs.Ytlmampklgghngaa.M
/-
  What package mixer, and the reference's answers to it, hand back, for every number, seed and prefix. No condition on the number that is mixed; that the words of a prefix are words of 64 bits.
-/
set_option linter.unusedSimpArgs false
set_option linter.unusedVariables false
namespace Go.Proofs.Ytlmampklgghngaa
open Go.RowKit Go.Sort M

/-- A whole number as a word of 64 bits. -/
def wordZ (n : Int) : Nat := (n % 18446744073709551616).toNat
theorem wordZ_w (n : Int) : W64 (wordZ n) := W64.mk (by unfold wordZ; omega)
theorem wordZ_nat (x : Nat) (h : W64 x) : wordZ (x : Int) = x := by
  have := h.lt
  unfold wordZ
  omega
theorem wrap_word (n : Int) : IntKind.u64.wrap n = (wordZ n : Int) := by
  rw [IntKind.wrap_u64]
  unfold wordZ
  omega
/-- What is mixed of a word, as the walks write it. -/
def mixZ (x : Int) : Int := (mixN (wordZ x) : Nat)
theorem mixZ_nat (x : Nat) (h : W64 x) : mixZ (x : Int) = (mixN x : Nat) := by unfold mixZ; rw [wordZ_nat x h]
theorem add_word (x : Int) : IntKind.u64.wrap (x + 11400714819323198485) = (addW 11400714819323198485 (wordZ x) : Nat) := by
  rw [IntKind.wrap_u64]
  unfold addW wordZ
  omega
theorem mul_word (c x : Nat) : IntKind.u64.wrap ((x : Int) * (c : Int)) = (mulW c x : Nat) := by
  rw [IntKind.wrap_u64, ← Int.natCast_mul]
  unfold mulW
  omega
theorem xsh_word (x s : Nat) (h : W64 x) : bits BinOp.xor IntKind.u64 (x : Int) ((x : Int) / (2 ^ s : Nat)) = (xsh s x : Nat) := by
  rw [← Int.natCast_ediv, bits_xor_u64_nat _ _ h.lt (Nat.lt_of_le_of_lt (Nat.div_le_self _ _) h.lt)]
  rfl
theorem mix_eq (x : Int) :
    bits BinOp.xor IntKind.u64 (IntKind.u64.wrap (bits BinOp.xor IntKind.u64 (IntKind.u64.wrap (bits BinOp.xor IntKind.u64 (IntKind.u64.wrap (x + 11400714819323198485)) (IntKind.u64.wrap (x + 11400714819323198485) / 1073741824) * 13787848793156543929)) (IntKind.u64.wrap (bits BinOp.xor IntKind.u64 (IntKind.u64.wrap (x + 11400714819323198485)) (IntKind.u64.wrap (x + 11400714819323198485) / 1073741824) * 13787848793156543929) / 134217728) * 10723151780598845931))
      (IntKind.u64.wrap (bits BinOp.xor IntKind.u64 (IntKind.u64.wrap (bits BinOp.xor IntKind.u64 (IntKind.u64.wrap (x + 11400714819323198485)) (IntKind.u64.wrap (x + 11400714819323198485) / 1073741824) * 13787848793156543929)) (IntKind.u64.wrap (bits BinOp.xor IntKind.u64 (IntKind.u64.wrap (x + 11400714819323198485)) (IntKind.u64.wrap (x + 11400714819323198485) / 1073741824) * 13787848793156543929) / 134217728) * 10723151780598845931) / 2147483648) = mixZ x := by
  have e1 := add_word x
  have w1 := addW_w 11400714819323198485 (wordZ x)
  have e2 := xsh_word _ 30 w1
  have w2 := xsh_w 30 _ w1
  have e3 := mul_word 13787848793156543929 (xsh 30 (addW 11400714819323198485 (wordZ x)))
  have w3 := mulW_w 13787848793156543929 (xsh 30 (addW 11400714819323198485 (wordZ x)))
  have e4 := xsh_word _ 27 w3
  have e5 := mul_word 10723151780598845931 (xsh 27 (mulW 13787848793156543929 (xsh 30 (addW 11400714819323198485 (wordZ x)))))
  have w5 := mulW_w 10723151780598845931 (xsh 27 (mulW 13787848793156543929 (xsh 30 (addW 11400714819323198485 (wordZ x)))))
  have e6 := xsh_word _ 31 w5
  simp only [Nat.reducePow, Int.cast_ofNat_Int] at e2 e3 e4 e5 e6
  rw [e1, e2, e3, e4, e5, e6]
  rfl

theorem xor_word (x y : Nat) (h : W64 x) (h2 : W64 y) : bits BinOp.xor IntKind.u64 (x : Int) (y : Int) = (x ^^^ y : Nat) := bits_xor_u64_nat _ _ h.lt h2.lt
theorem hash_eq (s h l : Nat) (n : Int) (hs : W64 s) (hh : W64 h) (hl : W64 l) :
    mixZ (bits BinOp.xor IntKind.u64 (mixZ (bits BinOp.xor IntKind.u64 (mixZ (bits BinOp.xor IntKind.u64 (s : Int) (h : Int))) (l : Int))) (IntKind.u64.wrap n)) = (hashN s h l (wordZ n) : Nat) := by
  rw [xor_word s h hs hh, mixZ_nat _ (Nat.xor_lt_two_pow hs hh), xor_word _ l (mixN_w _) hl, mixZ_nat _ (Nat.xor_lt_two_pow (mixN_w _) hl), wrap_word, xor_word _ _ (mixN_w _) (wordZ_w n), mixZ_nat _ (Nat.xor_lt_two_pow (mixN_w _) (wordZ_w n))]
  rfl
end Go.Proofs.Ytlmampklgghngaa
/-
  Plain mathematics: the high word of a product, by halves; that it is below the second factor, and grows with the first; where numbers as far apart as may be lie, and how many lie in one place. No condition but those that stand in each.
-/
set_option linter.unusedSimpArgs false
set_option linter.unusedVariables false
namespace Go.Proofs.Ytlmampklgghngaa.M

/-- The high word of the product of x and m. -/
def redN (x m : Nat) : Nat := x * m / 2 ^ 64
theorem redN_zero (m : Nat) : redN 0 m = 0 := by unfold redN; simp
theorem redN_lt (x m : Nat) (hx : W64 x) (hm : 0 < m) : redN x m < m := by
  unfold redN
  rw [Nat.div_lt_iff_lt_mul (by decide), Nat.mul_comm m]
  exact Nat.mul_lt_mul_of_pos_right hx hm
theorem redN_mono (x y m : Nat) (h : x ≤ y) : redN x m ≤ redN y m := Nat.div_le_div_right (Nat.mul_le_mul_right m h)
theorem redN_last (m : Nat) (h0 : 0 < m) (h1 : m ≤ 2 ^ 64) : redN (2 ^ 64 - 1) m = m - 1 := by
  unfold redN
  rw [Nat.sub_mul, Nat.one_mul]
  omega
/-- .. by halves. -/
theorem redN_halves (x m : Nat) :
    redN x m = x / 2 ^ 32 * (m / 2 ^ 32) + (x / 2 ^ 32 * (m % 2 ^ 32) + x % 2 ^ 32 * (m % 2 ^ 32) / 2 ^ 32) / 2 ^ 32 + (x % 2 ^ 32 * (m / 2 ^ 32) + (x / 2 ^ 32 * (m % 2 ^ 32) + x % 2 ^ 32 * (m % 2 ^ 32) / 2 ^ 32) % 2 ^ 32) / 2 ^ 32 := by
  unfold redN
  have e : x * m = x / 2 ^ 32 * (m / 2 ^ 32) * 2 ^ 64 + x / 2 ^ 32 * (m % 2 ^ 32) * 2 ^ 32 + x % 2 ^ 32 * (m / 2 ^ 32) * 2 ^ 32 + x % 2 ^ 32 * (m % 2 ^ 32) := by
    have h1 : x = x / 2 ^ 32 * 2 ^ 32 + x % 2 ^ 32 := by omega
    have h2 : m = m / 2 ^ 32 * 2 ^ 32 + m % 2 ^ 32 := by omega
    generalize x / 2 ^ 32 = a at h1 ⊢
    generalize x % 2 ^ 32 = b at h1 ⊢
    generalize m / 2 ^ 32 = c at h2 ⊢
    generalize m % 2 ^ 32 = d at h2 ⊢
    rw [h1, h2, Nat.add_mul, Nat.mul_add, Nat.mul_add, show (2 : Nat) ^ 64 = 2 ^ 32 * 2 ^ 32 from by decide]
    generalize (2 : Nat) ^ 32 = k
    rw [show a * k * (c * k) = a * c * (k * k) by rw [Nat.mul_mul_mul_comm], show a * k * d = a * d * k by rw [Nat.mul_right_comm], show b * (c * k) = b * c * k by rw [Nat.mul_assoc]]
    omega
  rw [e]
  generalize x / 2 ^ 32 * (m / 2 ^ 32) = p
  generalize x / 2 ^ 32 * (m % 2 ^ 32) = q
  generalize x % 2 ^ 32 * (m / 2 ^ 32) = r
  generalize x % 2 ^ 32 * (m % 2 ^ 32) = s
  omega
theorem half_mul (a b : Nat) (ha : a < 2 ^ 32) (hb : b < 2 ^ 32) : a * b ≤ 18446744065119617025 := Nat.mul_le_mul (Nat.le_sub_one_of_lt ha) (Nat.le_sub_one_of_lt hb)

/-- m * k numbers, as far apart as may be: in which place number i lies. -/
theorem place_eq (m k i : Nat) (hm0 : 1 ≤ m) (hm : m ≤ 60) (hk0 : 1 ≤ k) (hk : k ≤ 20) (hi0 : 1 ≤ i) (hi : i < m * k) :
    redN (i * ((2 ^ 64 - 1) / (m * k))) m = (i - 1) / k := by
  have hn1 : m * k ≤ 1200 := Nat.mul_le_mul hm hk
  have hn0 : 0 < m * k := Nat.mul_pos hm0 hk0
  have hq : (i - 1) / k < m := by rw [Nat.div_lt_iff_lt_mul hk0]; omega
  have hi2 : i = (i - 1) / k * k + (i - 1) % k + 1 := by have := Nat.div_add_mod' (i - 1) k; omega
  have hr : (i - 1) % k < k := Nat.mod_lt _ hk0
  have hs := Nat.div_add_mod (2 ^ 64 - 1) (m * k)
  have hs2 := Nat.mod_lt (2 ^ 64 - 1) hn0
  generalize (2 ^ 64 - 1) / (m * k) = s at hs ⊢
  generalize (2 ^ 64 - 1) % (m * k) = e at hs hs2
  generalize (i - 1) / k = q at hq hi2 ⊢
  generalize (i - 1) % k = r at hr hi2
  unfold redN
  rw [Nat.mul_assoc]
  have hT : k * (s * m) + e = 2 ^ 64 - 1 := by rw [← hs, Nat.mul_comm m k, Nat.mul_assoc, Nat.mul_comm m s]
  generalize s * m = T at hT ⊢
  have e1 : i * T = q * (k * T) + (r + 1) * T := by rw [hi2, Nat.add_assoc, Nat.add_mul, Nat.mul_assoc]
  have h1 : (r + 1) * T ≤ k * T := Nat.mul_le_mul_right T hr
  have h2 : T ≤ (r + 1) * T := by rw [Nat.add_mul]; omega
  have h3 : k * T ≤ 20 * T := Nat.mul_le_mul_right T hk
  have h4 : q * (k * T) + q * (e + 1) = q * 2 ^ 64 := by rw [← Nat.mul_add]; congr 1; omega
  have h5 : q * (e + 1) ≤ 60 * 1200 := Nat.mul_le_mul (by omega) (by omega)
  rw [e1]
  generalize (r + 1) * T = u at h1 h2 ⊢
  generalize q * (e + 1) = v at h4 h5
  generalize k * T = z at hT h1 h3 h4 ⊢
  generalize q * z = y at h4 ⊢
  omega

/-- How many of the first i numbers lie in place j. -/
def cntN6 (k j i : Nat) : Nat := (if j = 0 ∧ 0 < i then 1 else 0) + min k (i - 1 - j * k)
theorem cntN_start (k j : Nat) : cntN6 k j 0 = 0 := by unfold cntN6; simp
theorem cntN_zero (k j : Nat) : cntN6 k j 1 = if j = 0 then 1 else 0 := by unfold cntN6; simp
theorem cntN_step (k j i : Nat) (hk : 0 < k) (hi : 1 ≤ i) : cntN6 k j (i + 1) = cntN6 k j i + if j = (i - 1) / k then 1 else 0 := by
  unfold cntN6
  have h0 : (if j = 0 ∧ 0 < i + 1 then 1 else 0) = if j = 0 ∧ 0 < i then 1 else 0 := by simp [hi, show 0 < i from hi]
  rw [h0]
  have hd := Nat.div_add_mod' (i - 1) k
  have hr := Nat.mod_lt (i - 1) hk
  generalize (i - 1) / k = q at hd ⊢
  generalize (i - 1) % k = r at hd hr
  by_cases h : j = q
  · subst h
    rw [if_pos rfl]
    omega
  · rw [if_neg h]
    rcases Nat.lt_or_gt_of_ne h with h | h
    · have : (j + 1) * k ≤ q * k := Nat.mul_le_mul_right k h
      rw [Nat.add_mul, Nat.one_mul] at this
      omega
    · have : (q + 1) * k ≤ j * k := Nat.mul_le_mul_right k h
      rw [Nat.add_mul, Nat.one_mul] at this
      omega
theorem cntN_end (m k j : Nat) (hj : j < m) (hk : 0 < k) : k - 1 ≤ cntN6 k j (m * k) ∧ cntN6 k j (m * k) ≤ k + 1 := by
  unfold cntN6
  have : (j + 1) * k ≤ m * k := Nat.mul_le_mul_right k hj
  rw [Nat.add_mul, Nat.one_mul] at this
  split <;> omega
end Go.Proofs.Ytlmampklgghngaa.M
/-
  Rows of the call's own, behind calls that leave all old memory as it was. No condition but those that stand in each.
-/
set_option linter.unusedSimpArgs false
set_option linter.unusedVariables false
namespace Go.Proofs.Ytlmampklgghngaa
open Go.RowKit Go.Sort

theorem own_below {B n k : Nat} {e : TypeId} {v : Value} {xs : List Value} {w w' : World} (h : w.ownsRow B e k v n xs) (hb : Below w.heap.size w w') : w'.ownsRow B e k v n xs :=
  h.kept (row := none) ⟨hb.os, hb.tape, hb.output, hb.size, fun j hj _ => hb.block j hj⟩ (by cases hv : v.ownBlock <;> simp)
theorem own_slice {B n k : Nat} {e : TypeId} {v : Value} {xs : List Value} {w : World} (h : w.ownsRow B e k v n xs) : ∃ p cap, v = .slice p n cap := by
  rcases h.2 with ⟨rfl, h0⟩ | ⟨g, cap, _, rfl, _⟩
  · exact ⟨none, 0, by rw [h0]⟩
  · exact ⟨some ⟨g, 0, none⟩, cap, rfl⟩
theorem own_le {B B' n k : Nat} {e : TypeId} {v : Value} {xs : List Value} {w : World} (h : w.ownsRow B e k v n xs) (hb : B' ≤ B) : w.ownsRow B' e k v n xs :=
  ⟨h.1, h.2.elim Or.inl (fun ⟨g, cap, cur, hv, hg, r⟩ => Or.inr ⟨g, cap, cur, hv, Nat.le_trans hb hg, r⟩)⟩
end Go.Proofs.Ytlmampklgghngaa
/-
  Rows of whole numbers in memory: a list of numbers as cells, one to each; rows of the call's own, and what is read of them. No condition but those that stand in each.
-/
set_option linter.unusedSimpArgs false
set_option linter.unusedVariables false
namespace Go.Proofs.Ytlmampklgghngaa
open Go.RowKit Go.Sort

/-- The cells of a list of numbers. -/
def ics (L : List Int) : List Value := L.map fun x => .int .i64 x
theorem ics_len (L : List Int) : (ics L).length = L.length := by simp [ics]
theorem ics_append (L M : List Int) : ics (L ++ M) = ics L ++ ics M := by simp [ics]
theorem ics_one (x : Int) : ics [x] = [.int .i64 x] := rfl
theorem ics_cell (L : List Int) (k : Nat) (h : k < L.length) : (ics L)[k]? = some (.int .i64 L[k]) := by simp [ics, h]
theorem ics_one' (L : List Int) : ∀ u ∈ ics L, u.oneCell' = true := by
  intro u hu
  unfold ics at hu
  rw [List.mem_map] at hu
  obtain ⟨p, -, rfl⟩ := hu
  rfl
theorem set1_take (xs : List Value) (k : Nat) (u : Value) (h : k < xs.length) : (xs.set k u).take (k + 1) = xs.take k ++ [u] := by
  rw [List.take_succ_eq_append_getElem (by rw [List.length_set]; exact h), List.take_set_of_le (Nat.le_refl _)]
  simp
/-- The cells xs lie at p. -/
def IRow (w : World) (p : Option Addr) (L : List Int) : Prop := L = [] ∨ ∃ g o, p = some ⟨g, o, none⟩ ∧ g < w.heap.size ∧ ∀ j u, (ics L)[j]? = some u → w.cell? ⟨g, o + j, none⟩ = some u
theorem IRow.below {w w' : World} {p : Option Addr} {L : List Int} (h : IRow w p L) (hb : Below w.heap.size w w') : IRow w' p L := by
  rcases h with h | ⟨g, o, e, hg, hc⟩
  · exact .inl h
  · exact .inr ⟨g, o, e, Nat.lt_of_lt_of_le hg hb.size, fun j u hu => (hb.cell (p := ⟨g, o + j, none⟩) hg).trans (hc j u hu)⟩
theorem IRow.of_own {w : World} {B n c : Nat} {e : TypeId} {p : Option Addr} {L : List Int} (h : w.ownsRow B e 1 (.slice p n c) n (ics L)) : IRow w p L := by
  by_cases h0 : L = []
  · exact .inl h0
  · have hc := fun g hg => h.cells (g := g) hg
    have hl := h.lt
    rcases h.2 with ⟨e, h1⟩ | ⟨g, cap, cur, e, -, -, -, -, -, -⟩
    · have := h.1
      rw [ics_len, h1] at this
      exact absurd (List.length_eq_zero_iff.1 (by omega)) h0
    · injection e with e1 e2 e3
      subst e1
      refine .inr ⟨g, 0, rfl, (hl g rfl).2, fun j u hu => ?_⟩
      have := hc g rfl j u hu
      rw [Nat.zero_add]
      rwa [show (⟨g, 0, none⟩ : Addr).add j = ⟨g, j, none⟩ by unfold Addr.add; split <;> simp_all] at this
/-- Number k of a row. -/
theorem IRow.at {w : World} {p : Option Addr} {L : List Int} (h : IRow w p L) {k : Nat} (hk : k < L.length) : ∃ g o, p = some ⟨g, o, none⟩ ∧ g < w.heap.size ∧ w.cell? ⟨g, o + k, none⟩ = some (.int .i64 L[k]) := by
  rcases h with h | ⟨g, o, e, hg, hc⟩
  · rw [h] at hk
    simp at hk
  · exact ⟨g, o, e, hg, hc k _ (ics_cell L k hk)⟩
/-- What a function that hands back a new row of numbers does. -/
def GivesInts (f : FuncId) (args : Array Value) (L : List Int) : Prop := ∀ w, Calls Try.prog f args w fun e w' => ∃ p c, e = .returned (.slice p L.length c) ∧ w'.ownsRow w.heap.size 3 1 (.slice p L.length c) L.length (ics L) ∧ Below w.heap.size w w'
theorem infoI : (Try.prog.info? 3).map (fun i => (i.zero, i.size, i.bytes)) = some (some (.int .i64 0), 1, 8) := by kernel_rfl
/-- One new cell, at the head of its block. -/
theorem one_new {w : World} {g : Nat} {v : Value} (h : w.cell? ⟨g, 0, none⟩ = some v) : ∀ j u, [v][j]? = some u → w.cell? ((⟨g, 0, none⟩ : Addr).add j) = some u := by
  intro j u hj
  match j, hj with
  | 0, hj => simp only [List.getElem?_cons_zero, Option.some.injEq] at hj; subst hj; simpa [Addr.add] using h
theorem own_isnoc {w : World} {B n : Nat} {e : TypeId} {v : Value} {L : List Int} {x : Int} (h : w.ownsRow B e 1 v (n + 1) (ics L ++ [.int .i64 x])) (hn : n = L.length) : w.ownsRow B e 1 v (L ++ [x]).length (ics (L ++ [x])) := by
  rw [ics_append, ics_one, List.length_append, ← hn]
  exact h

end Go.Proofs.Ytlmampklgghngaa

/-
  Rows of the call's own, behind calls that leave all old memory as it was. No condition but those that stand in each.
-/
import Derived.WalkKit
import Derived.Lib.BitFns
import Derived.Laws.Bits64b
import Derived.Lib.QuietBelow
import Derived.StillTail
import Derived.BigQuiet
import Derived.Test.YtoihkbanmnagkaaGreatRows
import Derived.WalkSpells
import Derived.WalkLawsBesides
import Derived.Handy
import Derived.Lib.Hide
set_option linter.unusedSimpArgs false
set_option linter.unusedVariables false
namespace Go.Proofs.YtoihkbanmnagkaaGreat.M

theorem testBit_mul_two_pow (a k j : Nat) : (a * 2 ^ k).testBit j = (decide (k ≤ j) && a.testBit (j - k)) := by
  rw [← Nat.shiftLeft_eq, Nat.testBit_shiftLeft]

/-- A word of 64 bits; a plain word for the walks. -/
def W64 (w : Nat) : Prop := w < 2 ^ 64
theorem W64.lt {w : Nat} (h : W64 w) : w < 18446744073709551616 := h
theorem W64.mk {w : Nat} (h : w < 18446744073709551616) : W64 w := h
/-- The first n bits of a word of 64. -/
def cutW (w n : Nat) : Nat := w / 2 ^ (64 - n) * 2 ^ (64 - n)
theorem cutW_bit (w n j : Nat) : (cutW w n).testBit j = (decide (64 - n ≤ j) && w.testBit j) := by
  unfold cutW
  rw [testBit_mul_two_pow, Nat.testBit_div_two_pow]
  by_cases h : 64 - n ≤ j
  · simp [h]
  · simp [h]
theorem cutW_le (w n : Nat) : cutW w n ≤ w := Nat.div_mul_le_self _ _
theorem first_eq (n : Nat) (h : n ≤ 64) : (2 ^ 64 - 1) / 2 ^ n = 2 ^ (64 - n) - 1 := by
  apply Nat.eq_of_testBit_eq
  intro i
  rw [Nat.testBit_div_two_pow, Nat.testBit_two_pow_sub_one, Nat.testBit_two_pow_sub_one]
  by_cases h1 : i + n < 64 <;> simp [h1] <;> omega
theorem mask_and (w n : Nat) (hw : w < 2 ^ 64) (h : n ≤ 64) : w &&& ((2 ^ 64 - 1) ^^^ ((2 ^ 64 - 1) / 2 ^ n)) = cutW w n := by
  apply Nat.eq_of_testBit_eq
  intro i
  rw [first_eq n h, cutW_bit, Nat.testBit_and, Nat.testBit_xor, Nat.testBit_two_pow_sub_one, Nat.testBit_two_pow_sub_one]
  by_cases h1 : i < 64
  · by_cases h2 : i < 64 - n
    · have h3 : ¬ 64 - n ≤ i := by omega
      simp [h1, h2, h3]
    · have h3 : 64 - n ≤ i := by omega
      simp [h1, h2, h3]
  · have : w.testBit i = false := Nat.testBit_lt_two_pow (Nat.lt_of_lt_of_le hw (Nat.pow_le_pow_right (by omega) (by omega)))
    simp [this]

/-- Bit i of an address of two words. -/
def bitN (hi lo i : Nat) : Bool := if i < 64 then hi.testBit (63 - i) else if i < 128 then lo.testBit (127 - i) else false
def bitI (hi lo : Nat) (i : Int) : Int := if 0 ≤ i ∧ bitN hi lo i.toNat = true then 1 else 0
theorem bitI_hi (hi lo i : Nat) (h : i < 64) : bitI hi lo (i : Int) = ((hi / 2 ^ (63 - i) &&& 1 : Nat) : Int) := by
  unfold bitI bitN
  simp only [Int.toNat_natCast, h, if_true, Nat.and_one_is_mod]
  rw [← Nat.toNat_testBit]
  cases hi.testBit (63 - i) <;> simp
theorem bitI_lo (hi lo i : Nat) (h : 64 ≤ i) (h2 : i < 128) : bitI hi lo (i : Int) = ((lo / 2 ^ (127 - i) &&& 1 : Nat) : Int) := by
  unfold bitI bitN
  have h1 : ¬ i < 64 := by omega
  simp only [Int.toNat_natCast, h1, h2, if_true, if_false, Nat.and_one_is_mod]
  rw [← Nat.toNat_testBit]
  cases lo.testBit (127 - i) <;> simp
theorem bitI_out (hi lo : Nat) (i : Int) (h : i < 0 ∨ 128 ≤ i) : bitI hi lo i = 0 := by
  unfold bitI bitN
  by_cases h0 : 0 ≤ i
  · have h1 : ¬ i.toNat < 64 := by omega
    have h2 : ¬ i.toNat < 128 := by omega
    simp [h1, h2]
  · simp [h0]
theorem bitI_nat (hi lo i : Nat) : bitI hi lo (i : Int) = if bitN hi lo i then 1 else 0 := by
  unfold bitI; simp
theorem bitI_of (hi lo i : Nat) (b : Bool) (h : bitN hi lo i = b) : bitI hi lo (i : Int) = cond b 1 0 := by
  rw [bitI_nat, h]; cases b <;> rfl
theorem bitN_cut (hi lo n i : Nat) : bitN (cutW hi n) (cutW lo (n - 64)) i = (decide (i < n) && bitN hi lo i) := by
  unfold bitN
  by_cases h : i < 64
  · simp only [h, if_true, cutW_bit]
    by_cases h1 : i < n
    · have : 64 - n ≤ 63 - i := by omega
      simp [h1, this]
    · have : ¬ 64 - n ≤ 63 - i := by omega
      simp [h1, this]
  · by_cases h2 : i < 128
    · simp only [h, h2, if_true, if_false, cutW_bit]
      by_cases h1 : i < n
      · have : 64 - (n - 64) ≤ 127 - i := by omega
        simp [h1, this]
      · have : ¬ 64 - (n - 64) ≤ 127 - i := by omega
        simp [h1, this]
    · simp [h, h2]
theorem word_ext (a b : Nat) (ha : a < 2 ^ 64) (hb : b < 2 ^ 64) (h : ∀ i, i < 64 → a.testBit i = b.testBit i) : a = b := by
  apply Nat.eq_of_testBit_eq
  intro i
  by_cases hi : i < 64
  · exact h i hi
  · rw [Nat.testBit_lt_two_pow (Nat.lt_of_lt_of_le ha (Nat.pow_le_pow_right (by omega) (by omega))), Nat.testBit_lt_two_pow (Nat.lt_of_lt_of_le hb (Nat.pow_le_pow_right (by omega) (by omega)))]
theorem addr_ext (h l h2 l2 : Nat) (a : h < 2 ^ 64) (b : l < 2 ^ 64) (c : h2 < 2 ^ 64) (d : l2 < 2 ^ 64) (e : ∀ i, i < 128 → bitN h l i = bitN h2 l2 i) : h = h2 ∧ l = l2 := by
  constructor
  · refine word_ext _ _ a c fun i hi => ?_
    have := e (63 - i) (by omega)
    unfold bitN at this
    rw [if_pos (by omega), if_pos (by omega), show 63 - (63 - i) = i from by omega] at this
    exact this
  · refine word_ext _ _ b d fun i hi => ?_
    have := e (127 - i) (by omega)
    unfold bitN at this
    have q1 : ¬ 127 - i < 64 := by omega
    have q2 : 127 - i < 128 := by omega
    have q3 : 127 - (127 - i) = i := by omega
    simp only [q1, q2, q3, if_true, if_false] at this
    exact this
/-- One bit more. -/
theorem cutW_succ (w i : Nat) (h : i < 64) : cutW w (i + 1) = if w.testBit (63 - i) then cutW w i ||| 2 ^ (63 - i) else cutW w i := by
  apply Nat.eq_of_testBit_eq
  intro j
  rw [cutW_bit]
  by_cases hj : j = 63 - i
  · subst hj
    have h1 : 64 - (i + 1) ≤ 63 - i := by omega
    by_cases hb : w.testBit (63 - i) = true
    · rw [if_pos hb, Nat.testBit_or, Nat.testBit_two_pow, hb]
      simp only [h1, decide_true, Bool.true_and, Bool.or_true]
    · rw [if_neg hb, cutW_bit]
      simp only [Bool.not_eq_true] at hb
      simp only [hb, Bool.and_false]
  · have h3 : decide (64 - (i + 1) ≤ j) = decide (64 - i ≤ j) := by rw [decide_eq_decide]; omega
    rw [h3]
    by_cases hb : w.testBit (63 - i) = true
    · have h4 : ¬ (63 - i = j) := by omega
      rw [if_pos hb, Nat.testBit_or, cutW_bit, Nat.testBit_two_pow]
      simp only [h4, decide_false, Bool.or_false]
    · rw [if_neg hb, cutW_bit]
theorem cutW_full (w n : Nat) (h : 64 ≤ n) : cutW w n = w := by unfold cutW; rw [show 64 - n = 0 by omega]; simp
theorem cutW_zero (w : Nat) (h : w < 2 ^ 64) : cutW w 0 = 0 := by unfold cutW; simp [Nat.div_eq_of_lt h]
/-- Is this a prefix: a length from 0 to 128, no bit behind it. -/
def rightB (hi lo : Nat) (n : Int) : Bool := decide (0 ≤ n ∧ n ≤ 128 ∧ cutW hi n.toNat = hi ∧ cutW lo (n.toNat - 64) = lo)
/-- Are the first bits of an address those of a prefix. -/
def hasB (hi lo : Nat) (n : Int) (ahi alo : Nat) : Bool := rightB hi lo n && (decide (cutW ahi n.toNat = hi) && decide (cutW alo (n.toNat - 64) = lo))
/-- Which prefix is ahead. -/
def lessB (h1 l1 : Nat) (n1 : Int) (h2 l2 : Nat) (n2 : Int) : Bool := if h1 ≠ h2 then decide (h1 < h2) else if l1 ≠ l2 then decide (l1 < l2) else decide (n1 < n2)

theorem bitLenAux_le : ∀ (f x : Nat), Lib.bitLenAux f x ≤ f
  | 0, _ => Nat.le_refl _
  | f + 1, x => by
    unfold Lib.bitLenAux
    have := bitLenAux_le f (x / 2)
    split <;> omega
theorem bitLen_le (x : Nat) : Lib.bitLen x ≤ 64 := bitLenAux_le 64 x
theorem bitLenAux_spec : ∀ (f x : Nat), x < 2 ^ f → x < 2 ^ Lib.bitLenAux f x ∧ (x ≠ 0 → 0 < Lib.bitLenAux f x ∧ 2 ^ (Lib.bitLenAux f x - 1) ≤ x)
  | 0, x, h => by
    have : x = 0 := by simpa using h
    simp [this, Lib.bitLenAux]
  | f + 1, x, h => by
    unfold Lib.bitLenAux
    by_cases hx : x = 0
    · simp [hx]
    · rw [if_neg hx]
      obtain ⟨h1, h2⟩ := bitLenAux_spec f (x / 2) (by rw [Nat.pow_succ] at h; omega)
      refine ⟨?_, fun _ => ⟨by omega, ?_⟩⟩
      · rw [Nat.add_comm, Nat.pow_succ]; omega
      · rw [show 1 + Lib.bitLenAux f (x / 2) - 1 = Lib.bitLenAux f (x / 2) by omega]
        by_cases h0 : x / 2 = 0
        · have : Lib.bitLenAux f (x / 2) = 0 := by rw [h0]; cases f <;> simp [Lib.bitLenAux]
          rw [this]; simp; omega
        · obtain ⟨h3, h4⟩ := h2 h0
          have : 2 ^ Lib.bitLenAux f (x / 2) = 2 ^ (Lib.bitLenAux f (x / 2) - 1) * 2 := by rw [← Nat.pow_succ]; congr 1; omega
          omega
/-- The top bit of a number below 2^64 that is not 0. -/
theorem bitLen_top (x : Nat) (hx : x < 2 ^ 64) (h0 : x ≠ 0) : 0 < Lib.bitLen x ∧ x.testBit (Lib.bitLen x - 1) = true := by
  obtain ⟨h1, h2⟩ := bitLenAux_spec 64 x hx
  obtain ⟨h3, h4⟩ := h2 h0
  refine ⟨h3, ?_⟩
  show x.testBit (Lib.bitLenAux 64 x - 1) = true
  rw [Nat.testBit_eq_decide_div_mod_eq]
  have e : 2 ^ Lib.bitLenAux 64 x = 2 * 2 ^ (Lib.bitLenAux 64 x - 1) := by rw [Nat.mul_comm, ← Nat.pow_succ]; congr 1; omega
  have h5 : x / 2 ^ (Lib.bitLenAux 64 x - 1) = 1 := by
    refine Nat.div_eq_of_lt_le (by omega) (by omega)
  simp [h5]
theorem bitLen_above (x j : Nat) (hx : x < 2 ^ 64) (h : Lib.bitLen x ≤ j) : x.testBit j = false :=
  Nat.testBit_lt_two_pow (Nat.lt_of_lt_of_le (bitLenAux_spec 64 x hx).1 (Nat.pow_le_pow_right (by omega) h))

/-- How many bits two addresses have in common from the first on. -/
def commonN (h1 l1 h2 l2 : Nat) : Nat := if h1 ≠ h2 then 64 - Lib.bitLen (h1 ^^^ h2) else 128 - Lib.bitLen (l1 ^^^ l2)
theorem xor_zero_iff (a b : Nat) (h : a ≠ b) : a ^^^ b ≠ 0 := fun e => h (Nat.eq_of_testBit_eq fun i => by
  have := congrArg (fun x => x.testBit i) e
  simp only [Nat.testBit_xor, Nat.zero_testBit] at this
  cases h1 : a.testBit i <;> cases h2 : b.testBit i <;> simp_all)
theorem xor_bit (a b i : Nat) : (a ^^^ b).testBit i = false ↔ a.testBit i = b.testBit i := by
  rw [Nat.testBit_xor]
  cases a.testBit i <;> cases b.testBit i <;> simp
theorem commonN_le (h1 l1 h2 l2 : Nat) : commonN h1 l1 h2 l2 ≤ 128 := by unfold commonN; split <;> omega
theorem commonN_same (h1 l1 h2 l2 : Nat) (a : h1 < 2 ^ 64) (b : l1 < 2 ^ 64) (c : h2 < 2 ^ 64) (d : l2 < 2 ^ 64) (i : Nat) (hi : i < commonN h1 l1 h2 l2) : bitN h1 l1 i = bitN h2 l2 i := by
  unfold commonN at hi
  unfold bitN
  by_cases e : h1 = h2
  · subst e
    simp only [ne_eq, not_true_eq_false, if_false] at hi
    by_cases h : i < 64
    · simp [h]
    · have h3 : i < 128 := by omega
      simp only [h, h3, if_false, if_true]
      exact (xor_bit _ _ _).1 (bitLen_above _ _ (Nat.xor_lt_two_pow b d) (by omega))
  · simp only [ne_eq, e, not_false_eq_true, if_true] at hi
    have h : i < 64 := by omega
    simp only [h, if_true]
    exact (xor_bit _ _ _).1 (bitLen_above _ _ (Nat.xor_lt_two_pow a c) (by omega))
theorem commonN_next (h1 l1 h2 l2 : Nat) (a : h1 < 2 ^ 64) (b : l1 < 2 ^ 64) (c : h2 < 2 ^ 64) (d : l2 < 2 ^ 64) (hi : commonN h1 l1 h2 l2 < 128) : bitN h1 l1 (commonN h1 l1 h2 l2) ≠ bitN h2 l2 (commonN h1 l1 h2 l2) := by
  unfold commonN at *
  unfold bitN
  by_cases e : h1 = h2
  · subst e
    simp only [ne_eq, not_true_eq_false, if_false] at hi ⊢
    have hl : l1 ≠ l2 := fun e => by subst e; simp [Lib.bitLen, Lib.bitLenAux] at hi
    obtain ⟨t0, t1⟩ := bitLen_top _ (Nat.xor_lt_two_pow b d) (xor_zero_iff _ _ hl)
    have t2 := bitLen_le (l1 ^^^ l2)
    have q1 : ¬ 128 - Lib.bitLen (l1 ^^^ l2) < 64 := by omega
    have q2 : 127 - (128 - Lib.bitLen (l1 ^^^ l2)) = Lib.bitLen (l1 ^^^ l2) - 1 := by omega
    simp only [q1, hi, q2, if_false, if_true]
    intro hh
    rw [(xor_bit _ _ _).2 hh] at t1
    cases t1
  · simp only [ne_eq, e, not_false_eq_true, if_true] at hi ⊢
    obtain ⟨t0, t1⟩ := bitLen_top _ (Nat.xor_lt_two_pow a c) (xor_zero_iff _ _ e)
    have t2 := bitLen_le (h1 ^^^ h2)
    have q1 : 64 - Lib.bitLen (h1 ^^^ h2) < 64 := by omega
    have q2 : 63 - (64 - Lib.bitLen (h1 ^^^ h2)) = Lib.bitLen (h1 ^^^ h2) - 1 := by omega
    simp only [q1, q2, if_true]
    intro hh
    rw [(xor_bit _ _ _).2 hh] at t1
    cases t1
/-- What has the first bits in common, and not the next one, is that many. -/
theorem commonN_unique (h1 l1 h2 l2 k : Nat) (a : h1 < 2 ^ 64) (b : l1 < 2 ^ 64) (c : h2 < 2 ^ 64) (d : l2 < 2 ^ 64) (hk : k ≤ 128) (same : ∀ j, j < k → bitN h1 l1 j = bitN h2 l2 j)
    (next : k < 128 → bitN h1 l1 k ≠ bitN h2 l2 k) : commonN h1 l1 h2 l2 = k := by
  have := commonN_le h1 l1 h2 l2
  rcases Nat.lt_trichotomy (commonN h1 l1 h2 l2) k with h | h | h
  · exact absurd (same _ h) (commonN_next h1 l1 h2 l2 a b c d (by omega))
  · exact h
  · exact absurd (commonN_same h1 l1 h2 l2 a b c d k h) (next (by omega))

theorem cutW_cutW (w n m : Nat) : cutW (cutW w n) m = cutW w (min n m) := by
  apply Nat.eq_of_testBit_eq
  intro j
  simp only [cutW_bit]
  by_cases h : 64 - min n m ≤ j
  · have h1 : 64 - n ≤ j := by omega
    have h2 : 64 - m ≤ j := by omega
    simp only [h, h1, h2, decide_true, Bool.true_and]
  · by_cases h1 : 64 - n ≤ j
    · have h2 : ¬ 64 - m ≤ j := by omega
      simp only [h, h2, decide_false, Bool.false_and]
    · simp only [h, h1, decide_false, Bool.false_and, Bool.and_false]
theorem cutW_idem (w n : Nat) : cutW (cutW w n) n = cutW w n := by rw [cutW_cutW, Nat.min_self]
theorem rightB_iff (hi lo : Nat) (n : Int) : rightB hi lo n = true ↔ 0 ≤ n ∧ n ≤ 128 ∧ cutW hi n.toNat = hi ∧ cutW lo (n.toNat - 64) = lo := by unfold rightB; rw [decide_eq_true_eq]
theorem hasB_iff (hi lo : Nat) (n : Int) (ahi alo : Nat) : hasB hi lo n ahi alo = true ↔ rightB hi lo n = true ∧ cutW ahi n.toNat = hi ∧ cutW alo (n.toNat - 64) = lo := by unfold hasB; simp
theorem right_cut (hi lo : Nat) (n : Int) (h0 : 0 ≤ n) (h1 : n ≤ 128) : rightB (cutW hi n.toNat) (cutW lo (n.toNat - 64)) n = true := by
  rw [rightB_iff]
  exact ⟨h0, h1, cutW_idem _ _, cutW_idem _ _⟩
theorem has_cut (hi lo : Nat) (n : Int) (h0 : 0 ≤ n) (h1 : n ≤ 128) : hasB (cutW hi n.toNat) (cutW lo (n.toNat - 64)) n hi lo = true := by
  rw [hasB_iff]
  exact ⟨right_cut hi lo n h0 h1, rfl, rfl⟩
theorem bitI_cut (hi lo : Nat) (n i : Int) (h0 : 0 ≤ n) (hi0 : 0 ≤ i) : bitI (cutW hi n.toNat) (cutW lo (n.toNat - 64)) i = if n ≤ i then 0 else bitI hi lo i := by
  unfold bitI
  rw [bitN_cut]
  by_cases h : n ≤ i
  · have : ¬ i.toNat < n.toNat := by omega
    simp [h, this]
  · have : i.toNat < n.toNat := by omega
    simp [h, this]
theorem W64.cut {x : Nat} (n : Nat) (h : W64 x) : W64 (cutW x n) := Nat.lt_of_le_of_lt (cutW_le x n) h
theorem common_cut (hi lo : Nat) (n : Nat) (ha : W64 hi) (hb : W64 lo) (h1 : n ≤ 128) : n ≤ commonN (cutW hi n) (cutW lo (n - 64)) hi lo := by
  refine Nat.le_of_not_lt fun h => ?_
  have := commonN_next _ _ _ _ (ha.cut n) (hb.cut (n - 64)) ha hb (by omega)
  rw [bitN_cut] at this
  simp [h] at this
theorem commonN_self (h l : Nat) : commonN h l h l = 128 := by simp [commonN, Lib.bitLen, Lib.bitLenAux]
theorem commonN_full (h1 l1 h2 l2 : Nat) (a : W64 h1) (b : W64 l1) (c : W64 h2) (d : W64 l2) (h : commonN h1 l1 h2 l2 = 128) : h1 = h2 ∧ l1 = l2 :=
  addr_ext _ _ _ _ a b c d fun i hi => commonN_same h1 l1 h2 l2 a b c d i (by omega)
theorem commonN_symm (h1 l1 h2 l2 : Nat) : commonN h2 l2 h1 l1 = commonN h1 l1 h2 l2 := by
  unfold commonN
  rw [Nat.xor_comm h2 h1, Nat.xor_comm l2 l1]
  by_cases h : h1 = h2
  · subst h; rfl
  · rw [if_pos h, if_pos (Ne.symm h)]
theorem cut_common (h1 l1 h2 l2 : Nat) (a : W64 h1) (b : W64 l1) (c : W64 h2) (d : W64 l2) :
    cutW h1 (commonN h1 l1 h2 l2) = cutW h2 (commonN h1 l1 h2 l2) ∧ cutW l1 (commonN h1 l1 h2 l2 - 64) = cutW l2 (commonN h1 l1 h2 l2 - 64) := by
  refine addr_ext _ _ _ _ (a.cut _) (b.cut _) (c.cut _) (d.cut _) fun i _ => ?_
  rw [bitN_cut, bitN_cut]
  by_cases h : i < commonN h1 l1 h2 l2
  · rw [commonN_same h1 l1 h2 l2 a b c d i h]
  · simp [h]
theorem lessB_self (h l : Nat) (n : Int) : lessB h l n h l n = false := by simp [lessB]
theorem lessB_iff (h1 l1 : Nat) (n1 : Int) (h2 l2 : Nat) (n2 : Int) : lessB h1 l1 n1 h2 l2 n2 = true ↔ h1 < h2 ∨ h1 = h2 ∧ (l1 < l2 ∨ l1 = l2 ∧ n1 < n2) := by
  unfold lessB
  by_cases h : h1 = h2 <;> by_cases h' : l1 = l2 <;> simp [h, h'] <;> omega
theorem lessB_total (h1 l1 : Nat) (n1 : Int) (h2 l2 : Nat) (n2 : Int) (h : ¬ (h1 = h2 ∧ l1 = l2 ∧ n1 = n2)) : lessB h2 l2 n2 h1 l1 n1 = !lessB h1 l1 n1 h2 l2 n2 := by
  cases e : lessB h1 l1 n1 h2 l2 n2
  · have : ¬ lessB h1 l1 n1 h2 l2 n2 = true := by simp [e]
    rw [lessB_iff] at this
    rw [Bool.not_false, lessB_iff]
    omega
  · rw [lessB_iff] at e
    rw [Bool.not_true, ← Bool.not_eq_true, lessB_iff]
    omega
theorem lessB_trans (h1 l1 : Nat) (n1 : Int) (h2 l2 : Nat) (n2 : Int) (h3 l3 : Nat) (n3 : Int) (a : lessB h1 l1 n1 h2 l2 n2 = true) (b : lessB h2 l2 n2 h3 l3 n3 = true) : lessB h1 l1 n1 h3 l3 n3 = true := by
  rw [lessB_iff] at *
  omega
/-- A prefix is ahead of all longer ones that it has. -/
theorem less_of_has (h1 l1 : Nat) (n1 : Int) (h2 l2 : Nat) (n2 : Int) (a : hasB h1 l1 n1 h2 l2 = true) (b : n1 < n2) : lessB h1 l1 n1 h2 l2 n2 = true := by
  rw [hasB_iff] at a
  obtain ⟨_, e1, e2⟩ := a
  have g1 := cutW_le h2 n1.toNat
  have g2 := cutW_le l2 (n1.toNat - 64)
  by_cases h : n1.toNat < 64
  · have : cutW l2 (n1.toNat - 64) ≤ l2 := g2
    rw [lessB_iff]; omega
  · rw [cutW_full h2 _ (by omega)] at e1
    rw [lessB_iff]; omega
end Go.Proofs.YtoihkbanmnagkaaGreat.M
/-
  One statement whose order is open, walked once in the order of the text: its operations read, its calls leave all old memory as it was (they may make new blocks), and the last operations (from number n on, in one order) do as they like. No condition on the program but that it draws orders in the wide manner.
-/
set_option linter.unusedSimpArgs false
set_option linter.unusedVariables false
namespace Go.Proofs.YtoihkbanmnagkaaGreat
open Go Go.RowKit Go.Sort

section
variable {P : Program} {ops : Array Oper} {md : Region.Mode} {C : World → Prop}

/-- Whatever order is picked for the operations before number n; behind them L. -/
def headAny (P : Program) (md : Region.Mode) (ops : Array Oper) (C : World → Prop) (n : Nat) (L : Array Bool → Act → Prop) : Nat → Array Bool → Act → Prop
  | 0, listed, a => L listed a
  | f + 1, listed, a => Region.ready md ops listed ≠ [] ∧ ∀ i ∈ Region.ready md ops listed, i < n ∧ qOp P ops C i (headAny P md ops C n L f (listed.setIfInBounds i true)) a

theorem headAny_wp {n g : Nat} {L : Array Bool → Act → Prop} {Q' : Exit → Act → World → Prop} (hL : ∀ listed a w, C w → L listed a → wpAny P md ops Q' g listed a w) :
    ∀ (f : Nat) (listed : Array Bool) (a : Act) (w : World), C w → headAny P md ops C n L f listed a → wpAny P md ops Q' (f + g) listed a w
  | 0, listed, a, w, hw, h => by rw [Nat.zero_add]; exact hL _ _ _ hw h
  | f + 1, listed, a, w, hw, h => by
    rw [show f + 1 + g = (f + g) + 1 by omega]
    exact ⟨fun h0 => absurd h0 h.1, fun i hi => wpOp_of_qOp hw (fun a' w' hw' h' => headAny_wp hL f _ a' w' hw' h') (h.2 i hi).2⟩

theorem headAny_first {n i : Nat} {oi : Oper} {v : Value} {L : Array Bool → Act → Prop} (hi : ops[i]? = some oi) (hsel : ∀ (j : Nat) (o : Oper) cs b, ops[j]? = some o → o.op ≠ .select cs b)
    (hs : Region.sinkB md ops n = true) (hc : Region.chainB md ops n = true) (hn : n < ops.size) (hin : i < n)
    (hdone : ∀ listed a, L listed a → ∀ j ∈ Region.ready md ops listed, n ≤ j) :
    ∀ (f : Nat) (listed : Array Bool) (a : Act), HeadInv md ops n listed →
      (∀ j oj, ops[j]? = some oj → j ≠ i → listed.getD j true = false → (∀ e ∈ oj.after, Region.binds md e = true → e.on ≠ i) → oi.apart ops oj = true) →
      i ∈ Region.ready md ops listed → YieldsIn P ops C oi v a →
      headAny P md ops C n L f (listed.setIfInBounds i true) (a.put oi.dst v) → headAny P md ops C n L (f + 1) listed a := by
  intro f
  induction f with
  | zero =>
    intro listed a inv _ hr hy H
    refine ⟨fun h => (by rw [h] at hr; cases hr), fun j hj => ?_⟩
    have hjn : j < n := Nat.lt_of_not_le fun h => tail_waits hs hc hn inv _ i rfl hin (mem_ready.1 hr).1 j h hj
    refine ⟨hjn, ?_⟩
    by_cases hji : j = i
    · subst hji; exact hy.qOp hi H
    · have := hdone _ _ H j (ready_mono hj hji)
      omega
  | succ f ih =>
    intro listed a inv hfree hr hy H
    have hun := (mem_ready.1 hr).1
    refine ⟨fun h => (by rw [h] at hr; cases hr), fun j hj => ?_⟩
    have hjn : j < n := Nat.lt_of_not_le fun h => tail_waits hs hc hn inv _ i rfl hin hun j h hj
    refine ⟨hjn, ?_⟩
    by_cases hji : j = i
    · subst hji; exact hy.qOp hi H
    · have h1 := (H.2 j (ready_mono hj hji)).2
      obtain ⟨hjun, oj, hoj, hall⟩ := mem_ready.1 hj
      have hnot : ∀ e ∈ oj.after, Region.binds md e = true → e.on ≠ i := fun e he hb heq => by
        have h3 := hall e he hb
        rw [heq, getD_both hun] at h3
        cases h3
      have h2 := qOp_put hoj (hfree j oj hoj hji hjun hnot) (fun cs b => hsel i oi cs b hi) (fun cs b => hsel j oj cs b hoj) hy h1
      have hfree' : ∀ k ok, ops[k]? = some ok → k ≠ i → (listed.setIfInBounds j true).getD k true = false →
          (∀ e ∈ ok.after, Region.binds md e = true → e.on ≠ i) → oi.apart ops ok = true := fun k ok hk hki hun2 hno => by
        refine hfree k ok hk hki ?_ hno
        by_cases hjk : j = k
        · subst hjk; exact hjun
        · rw [getD_set_ne true hjk] at hun2; exact hun2
      refine qOp_mono (fun a' h3 => ih (listed.setIfInBounds j true) a' (inv.set hj hjn) hfree' (ready_mono hr (Ne.symm hji)) h3.1 ?_) h2
      rw [Array.setIfInBounds_comm _ _ hji]
      exact h3.2

theorem headAny_lex {n g : Nat} {Lq : Act → Prop} (hsel : Region.noSelect ops = true) (hs : Region.sinkB md ops n = true) (hc : Region.chainB md ops n = true) (hn : n < ops.size) :
    ∀ (l : List Oper) (k : Nat) (listed : Array Bool) (a : Act), (∀ j, j < l.length → l[j]? = ops[k + j]?) → k + l.length = n → HeadInv md ops n listed →
    Region.lexHead md ops g l.length k listed = true → wpQuiet P ops C Lq l a →
    headAny P md ops C n (fun listed' a' => Region.seqB md ops g n listed' = true ∧ Lq a') l.length listed a
  | [], k, listed, a, _, hk, _, hB, h => by
    obtain rfl : k = n := by simpa using hk
    exact ⟨by simpa [Region.lexHead] using hB, h⟩
  | o :: l, k, listed, a, hl, hk, inv, hB, h => by
    have h0 : ops[k]? = some o := by simpa using (hl 0 (by simp)).symm
    simp only [List.length_cons, Region.lexHead, Bool.and_eq_true] at hB
    obtain ⟨⟨hr, hf⟩, hB'⟩ := hB
    have hkn : k < n := by simp only [List.length_cons] at hk; omega
    have hr' : k ∈ Region.ready md ops listed := by simpa using hr
    have hst : qOp P ops C k (wpQuiet P ops C Lq l) a := by unfold qOp; simp only [h0]; exact h
    obtain ⟨v, hy, hK⟩ := yieldsIn_of_qOp h0 hst
    exact headAny_first h0 (Region.noSelect_spec hsel) hs hc hn hkn (fun listed' a' hL => seqB_ready hL.1) l.length listed a inv (Region.free_spec h0 hf) hr' hy
      (headAny_lex hsel hs hc hn l (k + 1) _ _ (fun j hj => by have := hl (j + 1) (by simp; omega); simpa [Nat.add_assoc, Nat.add_comm 1 j] using this) (by simp only [List.length_cons] at hk; omega) (inv.set hr' hkn) hB' hK)

theorem quiet_post {Q Q' : Act → Prop} (h : ∀ a, Q a → Q' a) : ∀ (l : List Oper) (a : Act), wpQuiet P ops C Q l a → wpQuiet P ops C Q' l a
  | [], _, H => h _ H
  | o :: l, a, H => by
    unfold wpQuiet at *
    split
    · rename_i hw
      rw [if_pos hw] at H
      exact Oper.quiet_mono (fun a' => quiet_post h l a') H
    · rename_i hw
      rw [if_neg hw] at H
      exact quiet_post h l _ H
/-- Over whatever class of worlds. -/
theorem region_head {id : Nat} {Q : Exit → Act → World → Prop} {a : Act} {w : World} {l : List Oper} (n : Nat) (hm : P.follows .mixedOrders = true) (hB : Region.lexTailB .any l.toArray n = true) (hC : C { w with drawn := w.drawn + 1 })
    (h : wpQuiet P l.toArray C (fun a' => ∀ w', C w' → wpList P l.toArray Q (l.drop n) a' w') (l.take n) a) : (Code.region id l.toArray true).wp P Q a w := by
  simp only [Region.lexTailB, Bool.and_eq_true, decide_eq_true_eq] at hB
  obtain ⟨⟨⟨⟨hsel, hn⟩, hs⟩, hc⟩, hlex⟩ := hB
  have hn' : n < l.length := by simpa using hn
  have htl : (l.take n).length = n := by simp; omega
  have hdl : (l.drop n).length = l.toArray.size - n := by simp
  have inv0 : HeadInv .any l.toArray n (Array.replicate l.toArray.size false) :=
    ⟨by simp, fun j oj _ hl => (by rw [getD_replicate_false] at hl; cases hl), fun t _ ht => getD_in (by simpa using ht) (getD_replicate_false _ _)⟩
  have H := headAny_lex (md := .any) (g := l.toArray.size - n) hsel hs hc hn (l.take n) 0 _ a (fun j hj => by
    have hj' : j < n := by rw [htl] at hj; exact hj
    simp [hj']) (by simpa using htl) inv0 (by rw [htl]; exact hlex) h
  refine wp_region_any hm ?_
  have := headAny_wp (Q' := Q) (g := l.toArray.size - n) (fun listed a' w' hw' hL => by
    have := wpAny_of_seq (md := .any) (Q' := Q) (l.drop n) n listed a' w' (fun j => by simp [List.getElem?_drop]) (by rw [hdl]; exact hL.1) (hL.2 w' hw')
    rwa [hdl] at this) _ _ _ _ hC H
  rw [htl, show n + (l.toArray.size - n) = l.toArray.size by omega] at this
  exact this

/-- At the class 'new blocks may have been laid'. -/
theorem region_tail {id : Nat} {Q : Exit → Act → World → Prop} {a : Act} {w : World} {l : List Oper} (n : Nat) (hm : P.follows .mixedOrders = true) (hB : Region.lexTailB .any l.toArray n = true)
    (h : wpQuiet P l.toArray (fun w' => ∃ p : Regrown, w' = grow (redrawn w p.d) p.os) (fun a' => ∀ w', Below w.heap.size w w' → wpList P l.toArray Q (l.drop n) a' w') (l.take n) a) :
    (Code.region id l.toArray true).wp P Q a w :=
  region_head (C := fun w' => ∃ p : Regrown, w' = grow (redrawn w p.d) p.os) n hm hB ⟨⟨w.drawn + 1, #[]⟩, by rw [grow_empty]; rfl⟩ (quiet_post (fun _ H w' ⟨p, hp⟩ => H w' (hp ▸ below_regrown _ _ _)) _ _ h)
/-- .. the whole region. -/
theorem region_whole {id : Nat} {Q : Exit → Act → World → Prop} {a : Act} {w : World} {l : List Oper} (hm : P.follows .mixedOrders = true) (hB : Region.lexB .any l.toArray = true)
    (h : wpQuiet P l.toArray (fun w' => ∃ p : Regrown, w' = grow (redrawn w p.d) p.os) (fun a' => ∀ w', Below w.heap.size w w' → Q .normal a' w') l a) : (Code.region id l.toArray true).wp P Q a w :=
  wp_region_quiet_below hm hB (quiet_post (fun _ H w' ⟨p, hp⟩ => H w' (hp ▸ below_regrown _ _ _)) _ _ h)
end

/-- An old cell, in whatever world of the class. -/
theorem cell_grow (W : World) (d : Nat) (os : Array Obj) (b o : Nat) (h : b < W.heap.size) : (grow (redrawn W d) os).cell? ⟨b, o, none⟩ = W.cell? ⟨b, o, none⟩ :=
  (below_regrown W d os).cell (p := ⟨b, o, none⟩) h
theorem ret_bool {a b : Bool} (h : a = b) : Ending.returned (.bool a) = .returned (.bool b) := by rw [h]
theorem ret_num {k : IntKind} {a b : Int} (h : a = b) : Ending.returned (.int k a) = .returned (.int k b) := by rw [h]

/-- What a call of a plain function does: it hands back v, and leaves all that was there as it was. -/
def Gives (P : Program) (f : FuncId) (args : Array Value) (v : Value) : Prop := ∀ w, Calls P f args w fun e w' => e = .returned v ∧ Below w.heap.size w w'
theorem Gives.at {P : Program} {f : FuncId} {args : Array Value} {v : Value} (h : Gives P f args v) (w : World) (d : Nat) (os : Array Obj) :
    Calls P f args (grow (redrawn w d) os) fun e w'' => e = .returned v ∧ ∃ p : Regrown, w'' = grow (redrawn w p.d) p.os := Calls.regrown_of (h _)
theorem Gives.still {P : Program} {f : FuncId} {args : Array Value} {v : Value} (h : ∀ w, Calls P f args w fun e w' => e = .returned v ∧ w = w') : Gives P f args v :=
  fun w => (h w).mono fun _ _ ⟨he, hw⟩ => ⟨he, hw ▸ Below.refl _ _⟩
/-- Old cells, behind such a call. -/
theorem bcell {W w1 : World} (hb : Below W.heap.size W w1) : (∀ b o, b < W.heap.size → w1.cell? ⟨b, o, none⟩ = W.cell? ⟨b, o, none⟩) ∧ (∀ b o, b < W.heap.size → w1.frozen? ⟨b, o, none⟩ = W.frozen? ⟨b, o, none⟩) :=
  ⟨fun b o h => hb.cell (p := ⟨b, o, none⟩) h, fun b o h => hb.frozen (p := ⟨b, o, none⟩) h⟩
end Go.Proofs.YtoihkbanmnagkaaGreat
/-
  What the functions of package addr, and the reference's answers to them, hand back, for every address, prefix and number. No condition but that the words are words of 64 bits.
-/
set_option linter.unusedSimpArgs false
set_option linter.unusedVariables false
namespace Go.Proofs.YtoihkbanmnagkaaGreat
open Go.RowKit Go.Sort M

def firstN (n : Int) : Nat := (2 ^ 64 - 1) ^^^ ((2 ^ 64 - 1) / 2 ^ n.toNat)
theorem firstN_eq (n : Int) (h0 : 0 ≤ n) : bits BinOp.xor IntKind.u64 IntKind.u64.max (18446744073709551615 / 2 ^ n.toNat) = (firstN n : Int) := by
  obtain ⟨k, rfl⟩ := Int.eq_ofNat_of_zero_le h0
  unfold firstN
  have h2 : (2 ^ 64 - 1) / 2 ^ k < 2 ^ 64 := Nat.lt_of_le_of_lt (Nat.div_le_self _ _) (by decide)
  have e : (18446744073709551615 / 2 ^ (k : Int).toNat : Int) = (((2 ^ 64 - 1) / 2 ^ k : Nat) : Int) := by
    rw [Int.toNat_natCast, Int.natCast_ediv]; simp
  rw [e, show IntKind.u64.max = ((2 ^ 64 - 1 : Nat) : Int) from by decide, bits_xor_u64_nat _ _ (by decide) (by simpa using h2)]
  simp

set_option maxHeartbeats 400000 in
theorem first_any (n : Int) (w : World) (h0 : 0 ≤ n) (h1 : n ≤ 64) :
    Calls Tryz.prog 59 #[.int .i64 n] w fun e w' => e = .returned (.int .u64 (firstN n)) ∧ w = w' := by
  go_enter Tryz.func59, Tryz.ntmps59
  go_wp2
  go_ret
  exact ⟨by show Ending.returned (.int .u64 _) = _; rw [firstN_eq n h0], rfl⟩

theorem shr_and (x k : Nat) (hx : W64 x) : bits BinOp.and IntKind.u64 ((x : Int) / 2 ^ k) 1 = ((x / 2 ^ k &&& 1 : Nat) : Int) := by
  have h2 : x / 2 ^ k < 18446744073709551616 := Nat.lt_of_le_of_lt (Nat.div_le_self _ _) hx.lt
  have e : ((x : Int) / 2 ^ k) = ((x / 2 ^ k : Nat) : Int) := by simp
  rw [e, show (1 : Int) = ((1 : Nat) : Int) from rfl, bits_and_u64_nat _ _ h2 (by decide)]
theorem shr_and_wrap (x k : Nat) (hx : W64 x) : wrap64 (bits BinOp.and IntKind.u64 ((x : Int) / 2 ^ k) 1) = ((x / 2 ^ k &&& 1 : Nat) : Int) := by
  rw [shr_and x k hx, Nat.and_one_is_mod]
  unfold wrap64
  omega

theorem and_first (x : Nat) (m : Int) (hx : W64 x) (h0 : 0 ≤ m) (h1 : m ≤ 64) : bits BinOp.and IntKind.u64 (x : Int) (firstN m) = (cutW x m.toNat : Nat) := by
  have h2 : firstN m < 2 ^ 64 := by
    unfold firstN
    exact Nat.xor_lt_two_pow (by decide) (Nat.lt_of_le_of_lt (Nat.div_le_self _ _) (by decide))
  rw [bits_and_u64_nat _ _ hx.lt (by simpa using h2)]
  unfold firstN
  rw [mask_and x m.toNat hx (by omega)]
theorem cut_eq (hi lo : Nat) (n m k : Int) (ha : W64 hi) (hb : W64 lo) (h0 : 0 ≤ m) (h1 : m ≤ 64) (h2 : 0 ≤ k) (h3 : k ≤ 64) (e1 : m.toNat = min n.toNat 64) (e2 : k.toNat = min (n.toNat - 64) 64) :
    Ending.returned (.agg #[.int .u64 (bits BinOp.and IntKind.u64 (hi : Int) (firstN m)), .int .u64 (bits BinOp.and IntKind.u64 (lo : Int) (firstN k))]) =
      Ending.returned (.agg #[.int .u64 (cutW hi n.toNat : Nat), .int .u64 (cutW lo (n.toNat - 64) : Nat)]) := by
  rw [and_first hi m ha h0 h1, and_first lo k hb h2 h3, e1, e2]
  have g : ∀ x k, cutW x (min k 64) = cutW x k := fun x k => by unfold cutW; rw [show 64 - min k 64 = 64 - k by omega]
  rw [g, g]

set_option maxHeartbeats 400000 in
theorem cut_any (hi lo : Nat) (n : Int) (ha : W64 hi) (hb : W64 lo) :
    Gives Tryz.prog 35 #[.agg #[.int .u64 hi, .int .u64 lo], .int .i64 n] (.agg #[.int .u64 (cutW hi n.toNat), .int .u64 (cutW lo (n.toNat - 64))]) := by
  intro w
  have k0 := cell_regrown (w := (w.alloc (.cells #[.int .u64 hi, .int .u64 lo] 24)).alloc (.cells #[.int .u64 0, .int .u64 0] 24)) (a := ⟨w.heap.size, 0, none⟩) (v := .int .u64 hi) (by simp [go_sem])
  have k1 := cell_regrown (w := (w.alloc (.cells #[.int .u64 hi, .int .u64 lo] 24)).alloc (.cells #[.int .u64 0, .int .u64 0] 24)) (a := ⟨w.heap.size, 1, none⟩) (v := .int .u64 lo) (by simp [go_sem])
  by_cases h1 : n ≤ 0
  · go_enter Tryz.func35, Tryz.ntmps35
    go_wp2_with fail
    have kg := cell_grow
    refine region_tail 14 (by kernel_rfl) (by kernel_rfl) ?_
    simp only [List.take_succ_cons, List.take_zero, List.drop_succ_cons, List.drop_zero]
    repeat (any_goals (first | go_big_quiet_step (first | (go_at_call 59; exact Gives.at (Gives.still fun w => first_any _ w (by omega) (by omega)) _ _ _)) | quiet_step (first | (go_at_call 59; exact Gives.at (Gives.still fun w => first_any _ w (by omega) (by omega)) _ _ _))))
    refine wpQuiet_nil ?_
    clear kg
    intro w1 hb1
    obtain ⟨hc1, hf1⟩ := bcell hb1
    have hw1 : Below w.heap.size w w1 := by
      refine Below.trans ?_ (hb1.mono ?_)
      · go_grown
      · first | omega | go_size
    go_wp2
    refine bodyPost_ret (by simp [results, Tryz.results35, go_sem, hc1, hf1]; try rfl) rfl ?_
    exact ⟨cut_eq hi lo n _ _ ha hb (by omega) (by omega) (by omega) (by omega) (by omega) (by omega), by go_grown⟩
  by_cases h2 : n ≤ 64
  · go_enter Tryz.func35, Tryz.ntmps35
    go_wp2_with fail
    have kg := cell_grow
    refine region_tail 14 (by kernel_rfl) (by kernel_rfl) ?_
    simp only [List.take_succ_cons, List.take_zero, List.drop_succ_cons, List.drop_zero]
    repeat (any_goals (first | go_big_quiet_step (first | (go_at_call 59; exact Gives.at (Gives.still fun w => first_any _ w (by omega) (by omega)) _ _ _)) | quiet_step (first | (go_at_call 59; exact Gives.at (Gives.still fun w => first_any _ w (by omega) (by omega)) _ _ _))))
    refine wpQuiet_nil ?_
    clear kg
    intro w1 hb1
    obtain ⟨hc1, hf1⟩ := bcell hb1
    have hw1 : Below w.heap.size w w1 := by
      refine Below.trans ?_ (hb1.mono ?_)
      · go_grown
      · first | omega | go_size
    go_wp2
    refine bodyPost_ret (by simp [results, Tryz.results35, go_sem, hc1, hf1]; try rfl) rfl ?_
    exact ⟨cut_eq hi lo n _ _ ha hb (by omega) (by omega) (by omega) (by omega) (by omega) (by omega), by go_grown⟩
  by_cases h3 : n ≤ 128
  · go_enter Tryz.func35, Tryz.ntmps35
    go_wp2_with fail
    have kg := cell_grow
    refine region_tail 14 (by kernel_rfl) (by kernel_rfl) ?_
    simp only [List.take_succ_cons, List.take_zero, List.drop_succ_cons, List.drop_zero]
    repeat (any_goals (first | go_big_quiet_step (first | (go_at_call 59; exact Gives.at (Gives.still fun w => first_any _ w (by omega) (by omega)) _ _ _)) | quiet_step (first | (go_at_call 59; exact Gives.at (Gives.still fun w => first_any _ w (by omega) (by omega)) _ _ _))))
    refine wpQuiet_nil ?_
    clear kg
    intro w1 hb1
    obtain ⟨hc1, hf1⟩ := bcell hb1
    have hw1 : Below w.heap.size w w1 := by
      refine Below.trans ?_ (hb1.mono ?_)
      · go_grown
      · first | omega | go_size
    go_wp2
    refine bodyPost_ret (by simp [results, Tryz.results35, go_sem, hc1, hf1]; try rfl) rfl ?_
    exact ⟨cut_eq hi lo n _ _ ha hb (by omega) (by omega) (by omega) (by omega) (by omega) (by omega), by go_grown⟩
  by_cases h4 : 128 < n
  · go_enter Tryz.func35, Tryz.ntmps35
    go_wp2_with fail
    have kg := cell_grow
    refine region_tail 14 (by kernel_rfl) (by kernel_rfl) ?_
    simp only [List.take_succ_cons, List.take_zero, List.drop_succ_cons, List.drop_zero]
    repeat (any_goals (first | go_big_quiet_step (first | (go_at_call 59; exact Gives.at (Gives.still fun w => first_any _ w (by omega) (by omega)) _ _ _)) | quiet_step (first | (go_at_call 59; exact Gives.at (Gives.still fun w => first_any _ w (by omega) (by omega)) _ _ _))))
    refine wpQuiet_nil ?_
    clear kg
    intro w1 hb1
    obtain ⟨hc1, hf1⟩ := bcell hb1
    have hw1 : Below w.heap.size w w1 := by
      refine Below.trans ?_ (hb1.mono ?_)
      · go_grown
      · first | omega | go_size
    go_wp2
    refine bodyPost_ret (by simp [results, Tryz.results35, go_sem, hc1, hf1]; try rfl) rfl ?_
    exact ⟨cut_eq hi lo n _ _ ha hb (by omega) (by omega) (by omega) (by omega) (by omega) (by omega), by go_grown⟩
  omega
end Go.Proofs.YtoihkbanmnagkaaGreat
/-
  Rows of the call's own, behind calls that leave all old memory as it was. No condition but those that stand in each.
-/
set_option linter.unusedSimpArgs false
set_option linter.unusedVariables false
namespace Go.Proofs.YtoihkbanmnagkaaGreat
open Go.RowKit Go.Sort

theorem own_below {B n k : Nat} {e : TypeId} {v : Value} {xs : List Value} {w w' : World} (h : w.ownsRow B e k v n xs) (hb : Below w.heap.size w w') : w'.ownsRow B e k v n xs :=
  h.kept (row := none) ⟨hb.os, hb.tape, hb.output, hb.size, fun j hj _ => hb.block j hj⟩ (by cases hv : v.ownBlock <;> simp)
theorem own_slice {B n k : Nat} {e : TypeId} {v : Value} {xs : List Value} {w : World} (h : w.ownsRow B e k v n xs) : ∃ p cap, v = .slice p n cap := by
  rcases h.2 with ⟨rfl, h0⟩ | ⟨g, cap, _, rfl, _⟩
  · exact ⟨none, 0, by rw [h0]⟩
  · exact ⟨some ⟨g, 0, none⟩, cap, rfl⟩
theorem own_le {B B' n k : Nat} {e : TypeId} {v : Value} {xs : List Value} {w : World} (h : w.ownsRow B e k v n xs) (hb : B' ≤ B) : w.ownsRow B' e k v n xs :=
  ⟨h.1, h.2.elim Or.inl (fun ⟨g, cap, cur, hv, hg, r⟩ => Or.inr ⟨g, cap, cur, hv, Nat.le_trans hb hg, r⟩)⟩
end Go.Proofs.YtoihkbanmnagkaaGreat

/-
  What cidr.Read hands back: by plain lists. No condition but that a text is one that a machine holds.
-/
import Derived.Test.YtegaeifmikfpcaaDoorW2
set_option linter.unusedSimpArgs false
set_option linter.unusedVariables false
namespace Go.Proofs.YtegaeifmikfpcaaDoor
open Go.RowKit Go.Sort M

theorem scut_l {l d r : List UInt8} {c : UInt8} {f : Bool} (hl : l.length ≤ maxLen) (h : cutB c l = (d, r, f)) :
    Gives Tryd.prog 14 #[.string ⟨l.toArray⟩, .string ⟨#[c]⟩] (.tuple #[.string ⟨d.toArray⟩, .string ⟨r.toArray⟩, .bool f]) := by
  have := scut_any ⟨l.toArray⟩ c (by show l.toArray.size ≤ _; simpa using hl)
  simpa [h] using this
theorem cutB_len {c : UInt8} {l d r : List UInt8} {f : Bool} (h : cutB c l = (d, r, f)) : d.length ≤ l.length ∧ r.length ≤ l.length := by
  rcases parts_of c l with h1 | ⟨a, t, rfl, h1⟩
  · rw [cutB_none h1] at h
    simp only [Prod.mk.injEq] at h
    obtain ⟨rfl, rfl, -⟩ := h
    simp
  · rw [cutB_at h1] at h
    simp only [Prod.mk.injEq] at h
    obtain ⟨rfl, rfl, -⟩ := h
    simp; omega
/-- A prefix and an error. -/
def preV (x : Nat × Nat × Nat) : Value := .tuple #[.agg #[.int .u64 x.1, .int .u64 0, .int .i64 x.2.1], .int .i64 x.2.2]
theorem readGo_bad {f k wd : Nat} {l d r : List UInt8} {b : Bool} {R : Option (Nat × List UInt8)} (h : Hid (readGo (f + 1) k wd l = R)) (hc : cutB (markB k) l = (d, r, b)) (hn : numC 255 d = none ∨ b = false) : R = none := by
  rw [← h.out, readGo, hc]
  rcases hn with hn | rfl
  · simp [hn]
  · simp only [Bool.false_eq_true, if_false]
    cases numC 255 d <;> rfl
theorem readGo_on {f k wd n : Nat} {l d r : List UInt8} {R : Option (Nat × List UInt8)} (h : Hid (readGo (f + 1) k wd l = R)) (hc : cutB (markB k) l = (d, r, true)) (hn : numC 255 d = some n) : Hid (readGo f (k + 1) (wd * 256 + n) r = R) := by
  have := h.out
  rw [readGo, hc, hn] at this
  exact Lib.hid (by simpa using this)
theorem shl8_or (wd n : Nat) (h : wd < 4294967296) (hn : n ≤ 255) : bits BinOp.or IntKind.u64 (IntKind.u64.wrap ((wd : Int) * 256)) (n : Int) = ((wd * 256 + n : Nat) : Int) := by
  rw [IntKind.wrap_u64, show ((wd : Int) * 256) % 18446744073709551616 = ((wd * 256 : Nat) : Int) by omega, bits_or_u64_nat _ _ (by omega) (by omega)]
  have := Nat.two_pow_add_eq_or_of_lt (i := 8) (b := n) (by omega) wd
  rw [show 2 ^ 8 * wd = wd * 256 by omega] at this
  rw [this]
theorem pow256 {k n : Nat} (h : n < 256 ^ k) (hk : k ≤ 4) : n < 4294967296 :=
  Nat.lt_of_lt_of_le h (Nat.le_trans (Nat.pow_le_pow_right (by omega) hk) (by decide))
theorem shl32 (wd : Nat) (h : wd < 4294967296) : IntKind.u64.wrap ((wd : Int) * 4294967296) = ((wd * 2 ^ 32 : Nat) : Int) := by
  rw [IntKind.wrap_u64]; omega

end Go.Proofs.YtegaeifmikfpcaaDoor

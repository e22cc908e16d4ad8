/-
  What spread.Keys hands back: a new row of prefixes. No condition but that the words are words of 64 bits.
-/
import Derived.Test.YtpmldedombiadaaW4
import Derived.Test.YtpmldedombiadaaRow
set_option linter.unusedSimpArgs false
set_option linter.unusedVariables false
namespace Go.Proofs.Ytpmldedombiadaa
open Go.RowKit Go.Sort M

/-- The keys of a prefix, to m bits. -/
def keysV (h l : Nat) (n m : Int) : List Pf := if rightB h l n = true ∧ n ≤ m ∧ m ≤ 128 ∧ m - n ≤ 8 then pfs (keysN (val h l) n.toNat m.toNat) m else []
theorem keysV_none {h l : Nat} {n m : Int} (hc : ¬ (rightB h l n = true ∧ n ≤ m ∧ m ≤ 128 ∧ m - n ≤ 8)) : keysV h l n m = [] := if_neg hc
theorem keysV_some {h l : Nat} {n m : Int} (hc : rightB h l n = true ∧ n ≤ m ∧ m ≤ 128 ∧ m - n ≤ 8) : keysV h l n m = pfs (keysN (val h l) n.toNat m.toNat) m := if_pos hc
theorem keysV_len (h l : Nat) (n m : Int) (b : W64 l) : (keysV h l n m).length = cntN h l n m := by
  unfold keysV cntN
  by_cases hc : rightB h l n = true ∧ n ≤ m ∧ m ≤ 128 ∧ m - n ≤ 8
  · rw [if_pos hc, if_pos hc, pfs_len, keys_len]
    obtain ⟨h0, -⟩ := (rightB_val h l n b).1 hc.1
    congr 1
    omega
  · rw [if_neg hc, if_neg hc]; rfl
/-- What a function that hands back a new row of prefixes does. -/
def GivesRow (f : FuncId) (args : Array Value) (L : List Pf) : Prop := ∀ w, Calls Try.prog f args w fun e w' => ∃ p c, e = .returned (.slice p L.length c) ∧ w'.ownsRow w.heap.size 29 3 (.slice p L.length c) L.length (pcs L) ∧ Below w.heap.size w w'
theorem infoP : (Try.prog.info? 29).map (fun i => (i.zero, i.size, i.bytes)) = some (some (.agg #[.int .u64 0, .int .u64 0, .int .i64 0]), 3, 24) := by kernel_rfl

theorem raiseH_w (x k : Nat) (h : x < 2 ^ 64) : W64 (raiseH x k) := by
  unfold raiseH W64
  split
  · exact Nat.mod_lt _ (by decide)
  · exact Nat.lt_of_le_of_lt (Nat.div_le_self _ _) h
theorem raiseL_w (x k : Nat) : W64 (raiseL x k) := by
  unfold raiseL W64
  split
  · decide
  · exact Nat.mod_lt _ (by decide)
theorem keysV_at {h l : Nat} {n m : Int} (hc : rightB h l n = true ∧ n ≤ m ∧ m ≤ 128 ∧ m - n ≤ 8) (b : W64 l) (k : Nat) (hk : k < (keysV h l n m).length) : (keysV h l n m)[k] = ⟨val h l + k * 2 ^ (128 - m.toNat), m⟩ := by
  have e := keysV_some hc
  have : (keysV h l n m)[k]? = some ⟨val h l + k * 2 ^ (128 - m.toNat), m⟩ := by
    rw [e]
    rw [e, pfs_len, keys_len] at hk
    simp [pfs, keysN, hk]
  rw [List.getElem?_eq_getElem hk] at this
  injection this
end Go.Proofs.Ytpmldedombiadaa

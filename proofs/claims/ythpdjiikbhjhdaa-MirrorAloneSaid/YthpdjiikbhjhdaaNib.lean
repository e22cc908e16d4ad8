/-
  A row of packed counters in memory: its two blocks, and what is kept of it while other blocks are written. No condition but those that stand in each.
-/
import Derived.Test.YthpdjiikbhjhdaaW7
set_option linter.unusedSimpArgs false
set_option linter.unusedVariables false
namespace Go.Proofs.Ythpdjiikbhjhdaa
open Go.RowKit Go.Sort M

/-- The cells of a list of words. -/
def ucs (L : List Nat) : List Value := L.map fun (x : Nat) => .int .u64 (x : Int)
theorem ucs_len (L : List Nat) : (ucs L).length = L.length := by simp [ucs]
theorem ucs_set (L : List Nat) (k x : Nat) : (ucs L).set k (.int .u64 (x : Int)) = ucs (L.set k x) := by simp [ucs, List.map_set]
theorem ucs_cell (L : List Nat) (k x : Nat) (h : L[k]? = some x) : (ucs L)[k]? = some (.int .u64 (x : Int)) := by simp [ucs, h]
theorem info64 : (Try.prog.info? 37).map (fun i => (i.zero, i.size, i.bytes)) = some (some (.int .u64 0), 1, 8) := by kernel_rfl
def nW (C : List Nat) : Nat := (C.length + 15) / 16
/-- Packed counters C: the struct at block g, its words at block h. -/
structure Nib (w : World) (B g h : Nat) (C : List Nat) : Prop where
  low : B ≤ g
  lt : g < w.heap.size
  ne : h ≠ g
  words : w.cell? ⟨g, 0, none⟩ = some (.slice (some ⟨h, 0, none⟩) (nW C) (nW C))
  num : w.cell? ⟨g, 1, none⟩ = some (.int .i64 (C.length : Int))
  own : w.ownsRow B 37 1 (.slice (some ⟨h, 0, none⟩) (nW C) (nW C)) (nW C) (ucs (wordsN C))
  small : ∀ c ∈ C, c ≤ 15
  len : C.length ≤ 65536
theorem Nib.kept {w w' : World} {B g h : Nat} {C : List Nat} {row : Option Nat} (H : Nib w B g h C) (hg : w.grownBy w' row) (h1 : some g ≠ row) (h2 : some h ≠ row) : Nib w' B g h C :=
  ⟨H.low, Nat.lt_of_lt_of_le H.lt hg.size, H.ne, hg.cell H.words h1, hg.cell H.num h1, H.own.kept hg (.inr h2), H.small, H.len⟩
theorem grown_below {w w' : World} (hb : Below w.heap.size w w') : w.grownBy w' none := ⟨hb.os, hb.tape, hb.output, hb.size, fun k hk _ => hb.block k hk⟩
/-- Old memory is as it was, behind a write to one of the call's own blocks. -/
theorem below_write {B : Nat} {w w1 w2 : World} {h : Nat} (hw : Below B w w1) (hB : B ≤ w1.heap.size) (hg : w1.grownBy w2 (some h)) (hh : B ≤ h) : Below B w w2 :=
  hw.grown hg hB (fun k e => by cases e; exact hh)
theorem below_grown {w w' : World} (hg : w.grownBy w' none) : Below w.heap.size w w' := ⟨hg.os, hg.tape, hg.output, hg.size, fun k hk => hg.block k hk (by simp)⟩
theorem Nib.below {w w' : World} {B g h : Nat} {C : List Nat} (H : Nib w B g h C) (hb : Below w.heap.size w w') : Nib w' B g h C := H.kept (grown_below hb) (by simp) (by simp)
theorem Nib.low2 {w : World} {B g h : Nat} {C : List Nat} (H : Nib w B g h C) : B ≤ h ∧ h < w.heap.size := H.own.lt h rfl

/-- A pointer to packed counters. -/
def NibAt (w : World) (B : Nat) (v : Value) (C : List Nat) : Prop := ∃ g h, v = .pointer (some ⟨g, 0, none⟩) ∧ Nib w B g h C
/-- Two new blocks: the words, and the struct that names them. -/
theorem Nib.new (w : World) (c : Nat) (x : Int) (hc : c ≤ 65536) (hx : x = (c : Int)) (t : TypeId) :
    Nib ((w.alloc (.cells (madeCells #[.int .u64 0] ((c + 15) / 16)) 37)).alloc (.cells #[.slice (some ⟨w.heap.size, 0, none⟩) ((c + 15) / 16) ((c + 15) / 16), .int .i64 x] t)) w.heap.size (w.heap.size + 1) w.heap.size (List.replicate c 0) := by
  have e : nW (List.replicate c 0) = (c + 15) / 16 := by simp [nW]
  subst hx
  refine ⟨by omega, by simp, by omega, ?_, ?_, ?_, ?_, by simpa using hc⟩
  · rw [e]
    simp [go_sem]
  · rw [List.length_replicate]
    simp [go_sem]
  · rw [e, wordsN_zero]
    refine World.ownsRow.alloc ?_ _
    have := World.ownsRow_lit (base := w.heap.size) (e := 37) (size := 1) w (madeCells #[.int .u64 0] ((c + 15) / 16)) ((c + 15) / 16) (Nat.le_refl _) (by unfold maxLen; omega) (by simp [madeCells])
    rwa [toList_madeCells_one, show List.replicate ((c + 15) / 16) (Value.int .u64 0) = ucs (List.replicate ((c + 15) / 16) 0) by simp [ucs]] at this
  · intro x hx
    rw [List.eq_of_mem_replicate hx]
    omega
/-- Counter k, of any number k. -/
def getN (C : List Nat) (k : Int) : Nat := if 0 ≤ k then C.getD k.toNat 0 else 0
theorem getN_lt {C : List Nat} (h : ∀ c ∈ C, c ≤ 15) (k : Int) : getN C k < 16 := by
  unfold getN
  split
  · exact getD_lt h _
  · decide
theorem getN_no {C : List Nat} {k : Int} (h : ¬ (0 ≤ k ∧ k < C.length)) : getN C k = 0 := by
  unfold getN
  split
  · rw [List.getD_eq_getElem?_getD, List.getElem?_eq_none (by omega)]
    rfl
  · rfl
theorem get_word (x k : Nat) (s : Int) (hx : x < 18446744073709551616) (hs : s.toNat = 4 * (k % 16)) : wrap64 (bits BinOp.and IntKind.u64 ((x : Int) / 2 ^ s.toNat) 15) = ((x / 2 ^ (4 * (k % 16)) % 16 : Nat) : Int) := by
  rw [hs]
  have h2 : x / 2 ^ (4 * (k % 16)) < 18446744073709551616 := Nat.lt_of_le_of_lt (Nat.div_le_self _ _) hx
  have e : ((x : Int) / 2 ^ (4 * (k % 16))) = ((x / 2 ^ (4 * (k % 16)) : Nat) : Int) := by simp
  rw [e, show (15 : Int) = ((15 : Nat) : Int) from rfl, andN _ _ h2 (by decide), and15, IntWalk.wrap64_in _ (by omega)]
/-- Does a counter turn up; and what the counters are then. -/
def upB (C : List Nat) (k : Int) : Bool := decide (0 ≤ k ∧ k < C.length) && decide (getN C k ≠ 15)
def upL (C : List Nat) (k : Int) : List Nat := if upB C k then C.set k.toNat (getN C k + 1) else C
def downB (C : List Nat) (k : Int) : Bool := decide (0 ≤ k ∧ k < C.length) && decide (getN C k ≠ 0) && decide (getN C k ≠ 15)
def downL (C : List Nat) (k : Int) : List Nat := if downB C k then C.set k.toNat (getN C k - 1) else C
theorem pow2N (e : Nat) : (2 : Int) ^ e = ((2 ^ e : Nat) : Int) := by simp
theorem up_word (x y v : Nat) (s : Int) (e : Nat) (hs : s.toNat = e) (h : y + v * 2 ^ e = x + (v + 1) * 2 ^ e) (hy : y < 18446744073709551616) : IntKind.u64.wrap ((x : Int) + IntKind.u64.wrap (2 ^ s.toNat)) = ((y : Nat) : Int) := by
  rw [Nat.add_mul, Nat.one_mul] at h
  rw [hs, pow2N, wrapN _ (by omega), ← Int.natCast_add, wrapN _ (by omega)]
  omega
theorem down_word (x y v : Nat) (s : Int) (e : Nat) (hs : s.toNat = e) (h : y + (v + 1) * 2 ^ e = x + v * 2 ^ e) (hx : x < 18446744073709551616) : IntKind.u64.wrap ((x : Int) - IntKind.u64.wrap (2 ^ s.toNat)) = ((y : Nat) : Int) := by
  rw [Nat.add_mul, Nat.one_mul] at h
  rw [hs, pow2N]
  generalize 2 ^ e = P at *
  rw [wrapN _ (by omega), show (x : Int) - (P : Int) = ((y : Nat) : Int) by omega, wrapN _ (by omega)]
theorem small_set {C : List Nat} (h : ∀ c ∈ C, c ≤ 15) (k v : Nat) (hv : v ≤ 15) : ∀ c ∈ C.set k v, c ≤ 15 := by
  intro c hc
  rcases List.mem_or_eq_of_mem_set hc with h1 | h1
  · exact h c h1
  · omega
theorem Nib.set {w : World} {B g h : Nat} {C : List Nat} (H : Nib w B g h C) (k v : Nat) (hk : k < C.length) (hv : v ≤ 15) (x : Int) (hx : x = (wordN (C.set k v) (k / 16) : Nat)) :
    Nib (w.setCell ⟨h, k / 16, none⟩ (.int .u64 x)) B g h (C.set k v) ∧ w.grownBy (w.setCell ⟨h, k / 16, none⟩ (.int .u64 x)) (some h) := by
  have hs := H.own.stored (k / 16) (.int .u64 x)
  have e : nW (C.set k v) = nW C := by simp [nW]
  have hne := H.ne
  refine ⟨⟨H.low, by simpa using H.lt, H.ne, ?_, ?_, ?_, small_set H.small k v hv, by simpa using H.len⟩, hs.2⟩
  · rw [e]
    exact hs.2.cell H.words (by simp; omega)
  · rw [List.length_set]
    exact hs.2.cell H.num (by simp; omega)
  · rw [e, ← wordsN_set C k v hk, ← ucs_set, ← hx]
    exact hs.1
theorem full_mask (x : Nat) (hx : x < 18446744073709551616) : bits BinOp.and IntKind.u64 (bits BinOp.and IntKind.u64 (bits BinOp.and IntKind.u64 (bits BinOp.and IntKind.u64 (x : Int) ((x : Int) / 2)) ((x : Int) / 4)) ((x : Int) / 8)) 1229782938247303441 =
    ((((((x &&& x / 2) &&& x / 4) &&& x / 8) &&& 1229782938247303441 : Nat)) : Int) := by
  have l1 : x &&& x / 2 < 18446744073709551616 := Nat.lt_of_le_of_lt Nat.and_le_left hx
  have l2 : (x &&& x / 2) &&& x / 4 < 18446744073709551616 := Nat.lt_of_le_of_lt Nat.and_le_left l1
  have l3 : ((x &&& x / 2) &&& x / 4) &&& x / 8 < 18446744073709551616 := Nat.lt_of_le_of_lt Nat.and_le_left l2
  rw [show ((x : Int) / 2) = ((x / 2 : Nat) : Int) by simp, show ((x : Int) / 4) = ((x / 4 : Nat) : Int) by simp, show ((x : Int) / 8) = ((x / 8 : Nat) : Int) by simp, show (1229782938247303441 : Int) = ((1229782938247303441 : Nat) : Int) from rfl,
    andN _ _ hx (by omega), andN _ _ l1 (by omega), andN _ _ l2 (by omega), andN _ _ l3 (by decide)]
end Go.Proofs.Ythpdjiikbhjhdaa

/-
  Old memory as it was, behind calls that make blocks and behind a write to a block of the call's own. No condition but those that stand in each.
-/
import Derived.Test.YtoihkbanmnagkaaGreatM4
import Derived.WalkKit
import Derived.Maps.AppendAt
/-
  Rows of prefixes in memory: a list of prefixes as cells, three to each; rows of the call's own, and what is read of them. No condition but those that stand in each.
-/
set_option linter.unusedSimpArgs false
set_option linter.unusedVariables false
namespace Go.Proofs.YtoihkbanmnagkaaGreat
open Go.RowKit Go.Sort M

def pcell (p : Pf) : List Value := [.int .u64 (hiW p.a : Nat), .int .u64 (loW p.a : Nat), .int .i64 p.n]
def pcs (L : List Pf) : List Value := L.flatMap pcell
theorem pcs_len (L : List Pf) : (pcs L).length = L.length * 3 := by
  unfold pcs
  induction L with
  | nil => rfl
  | cons x L ih => simp only [List.flatMap_cons, List.length_append, ih, pcell, List.length_cons, List.length_nil]; omega
theorem pcs_cons (x : Pf) (L : List Pf) : pcs (x :: L) = pcell x ++ pcs L := rfl
theorem pcs_cell : ∀ (L : List Pf) (k j : Nat) (h : k < L.length), j < 3 → (pcs L)[k * 3 + j]? = (pcell L[k])[j]?
  | x :: L, 0, j, _, hj => by
    rw [pcs_cons, List.getElem?_append_left (by simp [pcell]; omega)]
    simp
  | x :: L, k + 1, j, h, hj => by
    rw [pcs_cons, List.getElem?_append_right (by simp [pcell]; omega), show (k + 1) * 3 + j - (pcell x).length = k * 3 + j by simp [pcell]; omega]
    rw [pcs_cell L k j (by simpa using h) hj]
    simp
theorem make_row {P : Program} {t e : TypeId} {z : Value} {size bytes : Nat} (ht : P.underlying t = some (.slice e)) (hz : (P.info? e).map (fun i => (i.zero, i.size, i.bytes)) = some (some z, size, bytes)) (c : Nat) (hb : bytes * c ≤ 281474976710656) (hm : c ≤ maxLen) (w : World) :
    (Instr.makeSlice t (.int .i64 (c : Int)) (.int .i64 (c : Int))).run P w = .ok (.slice (some ⟨w.heap.size, 0, none⟩) c c) (w.alloc (.cells (madeCells z.cells (c * size)) e)) := by
  obtain ⟨i0, hi0, iz0, iz1, iz2⟩ := info_parts hz
  have h := run_make (P := P) w t e i0 z ht hi0 iz0 .i64 .i64 c c (by omega) (by omega) (by rw [iz2]; have e : ((bytes * c : Nat) : Int) ≤ 281474976710656 := (by omega); rwa [Int.natCast_mul] at e) (by unfold maxLen at hm; omega)
  rw [Int.toNat_natCast, iz1] at h
  exact h
def Row (w : World) (p : Option Addr) (xs : List Value) : Prop := xs = [] ∨ ∃ g o, p = some ⟨g, o, none⟩ ∧ g < w.heap.size ∧ ∀ j u, xs[j]? = some u → w.cell? ⟨g, o + j, none⟩ = some u
theorem Row.below {w w' : World} {p : Option Addr} {xs : List Value} (h : Row w p xs) (hb : Below w.heap.size w w') : Row w' p xs := by
  rcases h with h | ⟨g, o, e, hg, hc⟩
  · exact .inl h
  · exact .inr ⟨g, o, e, Nat.lt_of_lt_of_le hg hb.size, fun j u hu => (hb.cell (p := ⟨g, o + j, none⟩) hg).trans (hc j u hu)⟩
theorem Row.of_own {w : World} {B n k c : Nat} {e : TypeId} {p : Option Addr} {xs : List Value} (h : w.ownsRow B e k (.slice p n c) n xs) : Row w p xs := by
  by_cases h0 : xs = []
  · exact .inl h0
  · have hc := fun g hg => h.cells (g := g) hg
    have hl := h.lt
    rcases h.2 with ⟨e, h1⟩ | ⟨g, cap, cur, e, -, -, -, -, -, -⟩
    · exact absurd (List.length_eq_zero_iff.1 (by rw [h.1, h1, Nat.zero_mul])) h0
    · injection e with e1 e2 e3
      subst e1
      refine .inr ⟨g, 0, rfl, (hl g rfl).2, fun j u hu => ?_⟩
      have := hc g rfl j u hu
      rw [Nat.zero_add]
      rwa [show (⟨g, 0, none⟩ : Addr).add j = ⟨g, j, none⟩ by unfold Addr.add; split <;> simp_all] at this
theorem Row.at {w : World} {p : Option Addr} {L : List Pf} (h : Row w p (pcs L)) {k : Nat} (hk : k < L.length) : ∃ g o, p = some ⟨g, o, none⟩ ∧ g < w.heap.size ∧
    w.cell? ⟨g, o + k * 3, none⟩ = some (.int .u64 (hiW L[k].a : Nat)) ∧ w.cell? ⟨g, o + k * 3 + 1, none⟩ = some (.int .u64 (loW L[k].a : Nat)) ∧ w.cell? ⟨g, o + k * 3 + 2, none⟩ = some (.int .i64 L[k].n) := by
  rcases h with h | ⟨g, o, e, hg, hc⟩
  · have := pcs_len L
    rw [h] at this
    simp at this; omega
  · exact ⟨g, o, e, hg, hc (k * 3) _ (pcs_cell L k 0 hk (by omega)), hc (k * 3 + 1) _ (pcs_cell L k 1 hk (by omega)), hc (k * 3 + 2) _ (pcs_cell L k 2 hk (by omega))⟩
theorem new_cells (w : World) (cs : Array Value) (t : TypeId) : ∀ j u, cs.toList[j]? = some u → (w.alloc (.cells cs t)).cell? ((⟨w.heap.size, 0, none⟩ : Addr).add j) = some u := by
  intro j u hu
  rw [show (⟨w.heap.size, 0, none⟩ : Addr).add j = ⟨w.heap.size, j, none⟩ by unfold Addr.add; split <;> simp_all]
  rw [cell_of_row _ _ j cs t (0, 0) (heap_alloc_new w _)]
  simpa using hu
end Go.Proofs.YtoihkbanmnagkaaGreat
/-
  Plain mathematics of packed counters and of counted bits: digits in base 16 and 256, words that hold sixteen counters, how many bits of a word are on. No condition.
-/
set_option linter.unusedSimpArgs false
set_option linter.unusedVariables false
namespace Go.Proofs.YtoihkbanmnagkaaGreat
namespace M

def dg (b : Nat) : List Nat → Nat
  | [] => 0
  | a :: l => 2 ^ b * dg b l + a
theorem dg_lt {b : Nat} : ∀ {l : List Nat}, (∀ a ∈ l, a < 2 ^ b) → dg b l < 2 ^ (b * l.length)
  | [], _ => by simp [dg]
  | a :: l, h => by
    have h1 := h a (by simp)
    have h2 := dg_lt (b := b) (l := l) (fun x hx => h x (by simp [hx]))
    rw [List.length_cons, Nat.mul_add, Nat.mul_one, Nat.pow_add]
    show 2 ^ b * dg b l + a < _
    have : 2 ^ b * (dg b l + 1) ≤ 2 ^ b * 2 ^ (b * l.length) := Nat.mul_le_mul_left _ h2
    rw [Nat.mul_add, Nat.mul_one] at this
    rw [Nat.mul_comm (2 ^ (b * l.length))]
    omega
theorem dg_at {b : Nat} : ∀ {l : List Nat} (k : Nat) (hk : k < l.length), (∀ a ∈ l, a < 2 ^ b) → dg b l / 2 ^ (b * k) % 2 ^ b = l[k]
  | a :: l, 0, _, h => by
    have h1 := h a (by simp)
    simp only [Nat.mul_zero, Nat.pow_zero, Nat.div_one, List.getElem_cons_zero]
    show (2 ^ b * dg b l + a) % 2 ^ b = a
    rw [Nat.mul_add_mod, Nat.mod_eq_of_lt h1]
  | a :: l, k + 1, hk, h => by
    have h1 := h a (by simp)
    have h2 := dg_at (b := b) (l := l) k (by simpa using hk) (fun x hx => h x (by simp [hx]))
    rw [Nat.mul_add, Nat.mul_one, Nat.add_comm (b * k), Nat.pow_add, ← Nat.div_div_eq_div_mul]
    show (2 ^ b * dg b l + a) / 2 ^ b / _ % _ = _
    rw [Nat.mul_add_div (Nat.two_pow_pos b), Nat.div_eq_of_lt h1, Nat.add_zero, h2]
    simp
theorem dg_set {b : Nat} : ∀ {l : List Nat} (k v : Nat) (hk : k < l.length), dg b (l.set k v) + l[k] * 2 ^ (b * k) = dg b l + v * 2 ^ (b * k)
  | a :: l, 0, v, _ => by
    show 2 ^ b * dg b l + v + a * _ = 2 ^ b * dg b l + a + v * _
    simp
    omega
  | a :: l, k + 1, v, hk => by
    have h2 := dg_set (b := b) (l := l) k v (by simpa using hk)
    show 2 ^ b * dg b (l.set k v) + a + (a :: l)[k + 1] * _ = 2 ^ b * dg b l + a + v * _
    rw [List.getElem_cons_succ, Nat.mul_add, Nat.mul_one, Nat.add_comm (b * k), Nat.pow_add]
    have : 2 ^ b * (dg b (l.set k v) + l[k]'(by simpa using hk) * 2 ^ (b * k)) = 2 ^ b * (dg b l + v * 2 ^ (b * k)) := by rw [h2]
    rw [Nat.mul_add, Nat.mul_add] at this
    have e1 : ∀ x : Nat, x * (2 ^ b * 2 ^ (b * k)) = 2 ^ b * (x * 2 ^ (b * k)) := fun x => by rw [Nat.mul_left_comm]
    rw [e1, e1]
    omega

theorem and15 (a : Nat) : a &&& 15 = a % 16 := Nat.and_two_pow_sub_one_eq_mod a 4
end M
end Go.Proofs.YtoihkbanmnagkaaGreat
/-
  Plain mathematics of packed counters: words that hold sixteen of them, how many of them are full. No condition.
-/
set_option linter.unusedSimpArgs false
set_option linter.unusedVariables false
namespace Go.Proofs.YtoihkbanmnagkaaGreat
namespace M

def nibL (C : List Nat) (j : Nat) : List Nat := (List.range 16).map fun i => C.getD (16 * j + i) 0
def wordN (C : List Nat) (j : Nat) : Nat := dg 4 (nibL C j)
def wordsN (C : List Nat) : List Nat := (List.range ((C.length + 15) / 16)).map (wordN C)
theorem nibL_len (C : List Nat) (j : Nat) : (nibL C j).length = 16 := by simp [nibL]
theorem nibL_at (C : List Nat) (j i : Nat) (h : i < (nibL C j).length) : (nibL C j)[i] = C.getD (16 * j + i) 0 := by simp [nibL]
theorem getD_lt {C : List Nat} (h : ∀ c ∈ C, c ≤ 15) (i : Nat) : C.getD i 0 < 16 := by
  rw [List.getD_eq_getElem?_getD]
  by_cases hi : i < C.length
  · rw [List.getElem?_eq_getElem hi]
    have := h C[i] (List.getElem_mem hi)
    show C[i] < 16
    omega
  · rw [List.getElem?_eq_none (by omega)]
    decide
theorem nibL_lt {C : List Nat} (h : ∀ c ∈ C, c ≤ 15) (j : Nat) : ∀ a ∈ nibL C j, a < 2 ^ 4 := by
  intro a ha
  unfold nibL at ha
  rw [List.mem_map] at ha
  obtain ⟨i, -, rfl⟩ := ha
  exact getD_lt h _
theorem wordN_lt {C : List Nat} (h : ∀ c ∈ C, c ≤ 15) (j : Nat) : wordN C j < 18446744073709551616 := by
  have := dg_lt (nibL_lt h j)
  rwa [nibL_len] at this
theorem wordN_at {C : List Nat} (h : ∀ c ∈ C, c ≤ 15) (k : Nat) : wordN C (k / 16) / 2 ^ (4 * (k % 16)) % 16 = C.getD k 0 := by
  have hk : k % 16 < (nibL C (k / 16)).length := by rw [nibL_len]; omega
  have := dg_at (k % 16) hk (nibL_lt h (k / 16))
  rw [nibL_at, show 16 * (k / 16) + k % 16 = k by omega] at this
  exact this
theorem getD_set {C : List Nat} {k v i : Nat} (hk : k < C.length) : (C.set k v).getD i 0 = if i = k then v else C.getD i 0 := by
  rw [List.getD_eq_getElem?_getD, List.getElem?_set, List.getD_eq_getElem?_getD]
  split
  · rename_i h
    subst h
    simp [hk]
  · rename_i h
    rw [if_neg (fun e => h e.symm)]
theorem nibL_set (C : List Nat) (k v : Nat) (hk : k < C.length) : nibL (C.set k v) (k / 16) = (nibL C (k / 16)).set (k % 16) v := by
  apply List.ext_getElem
  · rw [List.length_set, nibL_len, nibL_len]
  · intro i h1 h2
    rw [nibL_at, getD_set hk, List.getElem_set]
    have : (16 * (k / 16) + i = k) ↔ (k % 16 = i) := by omega
    by_cases e : k % 16 = i
    · rw [if_pos (this.2 e), if_pos e]
    · rw [if_neg (fun x => e (this.1 x)), if_neg e, nibL_at]
theorem nibL_far (C : List Nat) (k v j : Nat) (hk : k < C.length) (hj : j ≠ k / 16) : nibL (C.set k v) j = nibL C j := by
  unfold nibL
  apply List.map_congr_left
  intro i hi
  rw [List.mem_range] at hi
  rw [getD_set hk, if_neg (by omega)]
theorem wordN_set (C : List Nat) (k v : Nat) (hk : k < C.length) : wordN (C.set k v) (k / 16) + C[k] * 2 ^ (4 * (k % 16)) = wordN C (k / 16) + v * 2 ^ (4 * (k % 16)) := by
  unfold wordN
  rw [nibL_set C k v hk]
  have hl : k % 16 < (nibL C (k / 16)).length := by rw [nibL_len]; omega
  have := dg_set (b := 4) (k % 16) v hl
  rw [nibL_at, show 16 * (k / 16) + k % 16 = k by omega, List.getD_eq_getElem?_getD, List.getElem?_eq_getElem hk] at this
  exact this
theorem wordsN_len (C : List Nat) : (wordsN C).length = (C.length + 15) / 16 := by simp [wordsN]
theorem wordsN_at (C : List Nat) (j : Nat) (h : j < (C.length + 15) / 16) : (wordsN C)[j]? = some (wordN C j) := by simp [wordsN, h]
theorem wordsN_set (C : List Nat) (k v : Nat) (hk : k < C.length) : (wordsN C).set (k / 16) (wordN (C.set k v) (k / 16)) = wordsN (C.set k v) := by
  apply List.ext_getElem?
  intro j
  rw [List.getElem?_set, wordsN_len]
  by_cases hj : j < (C.length + 15) / 16
  · rw [wordsN_at (C.set k v) j (by rw [List.length_set]; exact hj)]
    by_cases e : k / 16 = j
    · rw [if_pos e, if_pos (by omega), e]
    · rw [if_neg e, wordsN_at C j hj]
      unfold wordN
      rw [nibL_far C k v j hk (fun h => e h.symm)]
  · rw [List.getElem?_eq_none (l := wordsN (C.set k v)) (by rw [wordsN_len, List.length_set]; omega)]
    split
    · rw [if_neg (by omega)]
    · rw [List.getElem?_eq_none (by rw [wordsN_len]; omega)]
theorem dg_zero (b : Nat) : ∀ n, dg b (List.replicate n 0) = 0
  | 0 => rfl
  | n + 1 => by
    show 2 ^ b * dg b (List.replicate n 0) + 0 = 0
    rw [dg_zero b n]
    rfl
theorem wordsN_zero (n : Nat) : wordsN (List.replicate n 0) = List.replicate ((n + 15) / 16) 0 := by
  unfold wordsN
  rw [List.length_replicate]
  apply List.ext_getElem?
  intro j
  by_cases hj : j < (n + 15) / 16
  · simp only [List.getElem?_map, List.getElem?_range hj, Option.map_some]
    rw [List.getElem?_replicate, if_pos hj]
    congr 1
    unfold wordN
    rw [show nibL (List.replicate n 0) j = List.replicate 16 0 from ?_, dg_zero]
    apply List.ext_getElem
    · simp [nibL]
    · intro i h1 h2
      rw [nibL_at, List.getElem_replicate, List.getD_eq_getElem?_getD, List.getElem?_replicate]
      split <;> rfl
  · rw [List.getElem?_eq_none (by simp; omega), List.getElem?_eq_none (by simp; omega)]

end M
end Go.Proofs.YtoihkbanmnagkaaGreat
/-
  What the counting of a word's bits, a counter's shift and the making of packed counters hand back. No condition but that the word is a word of 64 bits.
-/
set_option linter.unusedSimpArgs false
set_option linter.unusedVariables false
namespace Go.Proofs.YtoihkbanmnagkaaGreat
open Go.RowKit Go.Sort M

theorem andN (a b : Nat) (ha : a < 18446744073709551616) (hb : b < 18446744073709551616) : bits BinOp.and IntKind.u64 (a : Int) (b : Int) = ((a &&& b : Nat) : Int) := bits_and_u64_nat a b ha hb
theorem wrapN (n : Nat) (h : n < 18446744073709551616) : IntKind.u64.wrap (n : Int) = (n : Int) := by
  rw [IntKind.wrap_u64]
  omega
theorem shift_any (i : Int) (h0 : 0 ≤ i) (h1 : i ≤ 65536) : Gives Tryz.prog 99 #[.int .i64 i] (.int .i64 (4 * (i.toNat % 16) : Nat)) := by
  intro w
  go_enter Tryz.func99, Tryz.ntmps99
  go_wp2
  go_ret
  refine ⟨ret_num ?_, by go_grown⟩
  omega
end Go.Proofs.YtoihkbanmnagkaaGreat
/-
  Old memory as it was, behind calls that make blocks and behind a write to a block of the call's own. No condition but those that stand in each.
-/
set_option linter.unusedSimpArgs false
set_option linter.unusedVariables false
namespace Go.Proofs.YtoihkbanmnagkaaGreat
open Go.RowKit Go.Sort

theorem grown_below {w w' : World} (hb : Below w.heap.size w w') : w.grownBy w' none := ⟨hb.os, hb.tape, hb.output, hb.size, fun k hk _ => hb.block k hk⟩
end Go.Proofs.YtoihkbanmnagkaaGreat

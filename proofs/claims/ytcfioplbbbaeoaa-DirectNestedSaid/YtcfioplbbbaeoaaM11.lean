/-
  Plain mathematics of buckets: a key, a key with its value, four places; what is put, taken, swapped, found, listed. No condition but those that stand in each.
-/
import Derived.Test.YtcfioplbbbaeoaaOwn
import Derived.Test.YtcfioplbbbaeoaaM4
import Derived.WalkKit
import Derived.Maps.AppendAt
import Derived.Test.YtcfioplbbbaeoaaM1
/-
  Rows of prefixes in memory: a list of prefixes as cells, three to each; rows of the call's own, and what is read of them. No condition but those that stand in each.
-/
set_option linter.unusedSimpArgs false
set_option linter.unusedVariables false
namespace Go.Proofs.Ytcfioplbbbaeoaa
open Go.RowKit Go.Sort M

/-- The cells of a list of prefixes. -/
def pcell (p : Pf) : List Value := [.int .u64 (hiW p.a : Nat), .int .u64 (loW p.a : Nat), .int .i64 p.n]
def pcs (L : List Pf) : List Value := L.flatMap pcell
theorem pcs_len (L : List Pf) : (pcs L).length = L.length * 3 := by
  unfold pcs
  induction L with
  | nil => rfl
  | cons x L ih => simp only [List.flatMap_cons, List.length_append, ih, pcell, List.length_cons, List.length_nil]; omega
theorem pcs_append (L M : List Pf) : pcs (L ++ M) = pcs L ++ pcs M := by simp [pcs]
theorem pcs_cons (x : Pf) (L : List Pf) : pcs (x :: L) = pcell x ++ pcs L := rfl
theorem pcs_one (p : Pf) : pcs [p] = pcell p := by simp [pcs]
theorem pcs_cell : ∀ (L : List Pf) (k j : Nat) (h : k < L.length), j < 3 → (pcs L)[k * 3 + j]? = (pcell L[k])[j]?
  | x :: L, 0, j, _, hj => by
    rw [pcs_cons, List.getElem?_append_left (by simp [pcell]; omega)]
    simp
  | x :: L, k + 1, j, h, hj => by
    rw [pcs_cons, List.getElem?_append_right (by simp [pcell]; omega), show (k + 1) * 3 + j - (pcell x).length = k * 3 + j by simp [pcell]; omega]
    rw [pcs_cell L k j (by simpa using h) hj]
    simp
theorem pcs_one' (L : List Pf) : ∀ u ∈ pcs L, u.oneCell' = true := by
  intro u hu
  unfold pcs at hu
  rw [List.mem_flatMap] at hu
  obtain ⟨p, -, hp⟩ := hu
  simp only [pcell, List.mem_cons, List.not_mem_nil, or_false] at hp
  rcases hp with rfl | rfl | rfl <;> rfl

/-- A row that 'make' lays, of a length and capacity reckoned. -/
theorem make_row {P : Program} {t e : TypeId} {z : Value} {size bytes : Nat} (ht : P.underlying t = some (.slice e)) (hz : (P.info? e).map (fun i => (i.zero, i.size, i.bytes)) = some (some z, size, bytes)) (c : Nat) (hb : bytes * c ≤ 281474976710656) (hm : c ≤ maxLen) (w : World) :
    (Instr.makeSlice t (.int .i64 (c : Int)) (.int .i64 (c : Int))).run P w = .ok (.slice (some ⟨w.heap.size, 0, none⟩) c c) (w.alloc (.cells (madeCells z.cells (c * size)) e)) := by
  obtain ⟨i0, hi0, iz0, iz1, iz2⟩ := info_parts hz
  have h := run_make (P := P) w t e i0 z ht hi0 iz0 .i64 .i64 c c (by omega) (by omega) (by rw [iz2]; have e : ((bytes * c : Nat) : Int) ≤ 281474976710656 := (by omega); rwa [Int.natCast_mul] at e) (by unfold maxLen at hm; omega)
  rw [Int.toNat_natCast, iz1] at h
  exact h
/-- The cells xs lie at p. -/
def Row (w : World) (p : Option Addr) (xs : List Value) : Prop := xs = [] ∨ ∃ g o, p = some ⟨g, o, none⟩ ∧ g < w.heap.size ∧ ∀ j u, xs[j]? = some u → w.cell? ⟨g, o + j, none⟩ = some u
theorem Row.below {w w' : World} {p : Option Addr} {xs : List Value} (h : Row w p xs) (hb : Below w.heap.size w w') : Row w' p xs := by
  rcases h with h | ⟨g, o, e, hg, hc⟩
  · exact .inl h
  · exact .inr ⟨g, o, e, Nat.lt_of_lt_of_le hg hb.size, fun j u hu => (hb.cell (p := ⟨g, o + j, none⟩) hg).trans (hc j u hu)⟩
theorem Row.of_own {w : World} {B n k c : Nat} {e : TypeId} {p : Option Addr} {xs : List Value} (h : w.ownsRow B e k (.slice p n c) n xs) : Row w p xs := by
  by_cases h0 : xs = []
  · exact .inl h0
  · have hc := fun g hg => h.cells (g := g) hg
    have hl := h.lt
    rcases h.2 with ⟨e, h1⟩ | ⟨g, cap, cur, e, -, -, -, -, -, -⟩
    · exact absurd (List.length_eq_zero_iff.1 (by rw [h.1, h1, Nat.zero_mul])) h0
    · injection e with e1 e2 e3
      subst e1
      refine .inr ⟨g, 0, rfl, (hl g rfl).2, fun j u hu => ?_⟩
      have := hc g rfl j u hu
      rw [Nat.zero_add]
      rwa [show (⟨g, 0, none⟩ : Addr).add j = ⟨g, j, none⟩ by unfold Addr.add; split <;> simp_all] at this
/-- Number k of a row of prefixes. -/
theorem Row.at {w : World} {p : Option Addr} {L : List Pf} (h : Row w p (pcs L)) {k : Nat} (hk : k < L.length) : ∃ g o, p = some ⟨g, o, none⟩ ∧ g < w.heap.size ∧
    w.cell? ⟨g, o + k * 3, none⟩ = some (.int .u64 (hiW L[k].a : Nat)) ∧ w.cell? ⟨g, o + k * 3 + 1, none⟩ = some (.int .u64 (loW L[k].a : Nat)) ∧ w.cell? ⟨g, o + k * 3 + 2, none⟩ = some (.int .i64 L[k].n) := by
  rcases h with h | ⟨g, o, e, hg, hc⟩
  · have := pcs_len L
    rw [h] at this
    simp at this; omega
  · exact ⟨g, o, e, hg, hc (k * 3) _ (pcs_cell L k 0 hk (by omega)), hc (k * 3 + 1) _ (pcs_cell L k 1 hk (by omega)), hc (k * 3 + 2) _ (pcs_cell L k 2 hk (by omega))⟩
/-- Three cells are stored in a row of the call's own. -/
theorem store3 {w : World} {B g n c : Nat} {e : TypeId} {xs : List Value} (h : w.ownsRow B e 3 (.slice (some ⟨g, 0, none⟩) n c) n xs) (k : Nat) (u0 u1 u2 : Value) :
    (((w.setCell ⟨g, k * 3, none⟩ u0).setCell ⟨g, k * 3 + 1, none⟩ u1).setCell ⟨g, k * 3 + 2, none⟩ u2).ownsRow B e 3 (.slice (some ⟨g, 0, none⟩) n c) n (((xs.set (k * 3) u0).set (k * 3 + 1) u1).set (k * 3 + 2) u2) :=
  (((h.stored _ _).1.stored _ _).1.stored _ _).1
theorem set3_take (xs : List Value) (k : Nat) (u0 u1 u2 : Value) (h : k * 3 + 3 ≤ xs.length) : (((xs.set (k * 3) u0).set (k * 3 + 1) u1).set (k * 3 + 2) u2).take ((k + 1) * 3) = xs.take (k * 3) ++ [u0, u1, u2] := by
  apply List.ext_getElem?
  intro i
  rw [List.getElem?_take, List.getElem?_append, List.length_take, Nat.min_eq_left (by omega), List.getElem?_take]
  by_cases h1 : i < k * 3
  · rw [if_pos (by omega), if_pos h1, if_pos h1]
    simp only [List.getElem?_set]
    rw [if_neg (by omega), if_neg (by omega), if_neg (by omega)]
  · rw [if_neg h1]
    by_cases h2 : i < (k + 1) * 3
    · rw [if_pos h2]
      simp only [List.getElem?_set, List.length_set]
      rcases (show i = k * 3 ∨ i = k * 3 + 1 ∨ i = k * 3 + 2 by omega) with rfl | rfl | rfl
      · rw [if_neg (by omega), if_neg (by omega), if_pos rfl, if_pos (by omega)]; simp
      · rw [if_neg (by omega), if_pos rfl, if_pos (by omega)]; simp
      · rw [if_pos rfl, if_pos (by omega)]; simp
    · rw [if_neg h2, List.getElem?_eq_none (by simp; omega)]
/-- The cells of a block that has just been laid. -/
theorem new_cells (w : World) (cs : Array Value) (t : TypeId) : ∀ j u, cs.toList[j]? = some u → (w.alloc (.cells cs t)).cell? ((⟨w.heap.size, 0, none⟩ : Addr).add j) = some u := by
  intro j u hu
  rw [show (⟨w.heap.size, 0, none⟩ : Addr).add j = ⟨w.heap.size, j, none⟩ by unfold Addr.add; split <;> simp_all]
  rw [cell_of_row _ _ j cs t (0, 0) (heap_alloc_new w _)]
  simpa using hu
/-- The keys at one length, as prefixes. -/
def pfs (L : List Nat) (m : Int) : List Pf := L.map fun x => ⟨x, m⟩
theorem pfs_len (L : List Nat) (m : Int) : (pfs L m).length = L.length := by simp [pfs]
theorem pfs_at (L : List Nat) (m : Int) (k : Nat) (h : k < (pfs L m).length) : (pfs L m)[k] = ⟨L[k]'(by rw [pfs_len] at h; exact h), m⟩ := by simp [pfs]
theorem pfs_append (L M : List Nat) (m : Int) : pfs (L ++ M) m = pfs L m ++ pfs M m := by simp [pfs]
theorem Row.at_pfs {w : World} {p : Option Addr} {L : List Nat} {m : Int} (h : Row w p (pcs (pfs L m))) {k : Nat} (hk : k < L.length) : ∃ g o, p = some ⟨g, o, none⟩ ∧ g < w.heap.size ∧
    w.cell? ⟨g, o + k * 3, none⟩ = some (.int .u64 (hiW L[k] : Nat)) ∧ w.cell? ⟨g, o + k * 3 + 1, none⟩ = some (.int .u64 (loW L[k] : Nat)) ∧ w.cell? ⟨g, o + k * 3 + 2, none⟩ = some (.int .i64 m) := by
  have := h.at (k := k) (by rw [pfs_len]; exact hk)
  rwa [pfs_at] at this
/-- An old cell, behind a call that leaves all old memory alone, a new block, and an append to a row that lies elsewhere. -/
theorem keep_app {w0 w1 w4 : World} {O : Obj} {B n k : Nat} {e : TypeId} {v : Value} {xs : List Value} (hb : Below w0.heap.size w0 w1) (hY : (w1.alloc O).ownsRow B e k v n xs) (hg : (w1.alloc O).grownBy w4 v.ownBlock) {g o : Nat} {u : Value}
    (hlt : g < B) (hlt0 : g < w0.heap.size) (c : w0.cell? ⟨g, o, none⟩ = some u) : w4.cell? ⟨g, o, none⟩ = some u := by
  have h1 : w1.cell? ⟨g, o, none⟩ = some u := (hb.cell (p := ⟨g, o, none⟩) hlt0).trans c
  have h2 : (w1.alloc O).cell? ⟨g, o, none⟩ = some u := (World.cell?_alloc_lt w1 O ⟨g, o, none⟩ (Nat.lt_of_lt_of_le hlt0 hb.size)).trans h1
  refine hg.cell h2 fun e => ?_
  have := (hY.lt g e.symm).1
  omega
end Go.Proofs.Ytcfioplbbbaeoaa
/-
  Plain mathematics of buckets: a key, a key with its value, four places; what is put, taken, swapped, found, listed. No condition but those that stand in each.
-/
set_option linter.unusedSimpArgs false
set_option linter.unusedVariables false
namespace Go.Proofs.Ytcfioplbbbaeoaa
open M

/-- A key: the two words of its address, and its length. -/
structure Ky where
  h : Nat
  l : Nat
  n : Int
deriving DecidableEq
/-- The words of a key are words of 64 bits. -/
def Ky.good (k : Ky) : Prop := W64 k.h ∧ W64 k.l
/-- A key and its value. -/
structure Rt where
  k : Ky
  v : Int
deriving DecidableEq
/-- A place: empty, or a key with its value. -/
abbrev Pl := Option Rt
def hasK (k : Ky) (x : Pl) : Bool :=
  match x with
  | some r => decide (r.k = k)
  | none => false
/-- The first place of a kind, or -1. -/
def idxI (p : Pl → Bool) (C : List Pl) : Int :=
  match C.findIdx? p with
  | some i => (i : Int)
  | none => -1
def putC (C : List Pl) (k : Ky) (v : Int) : Option (List Pl) :=
  match C.findIdx? (hasK k) with
  | some i => some (C.set i (some ⟨k, v⟩))
  | none =>
    match C.findIdx? Option.isNone with
    | some i => some (C.set i (some ⟨k, v⟩))
    | none => none
def takeC (C : List Pl) (k : Ky) : Option (List Pl) :=
  match C.findIdx? (hasK k) with
  | some i => some (C.set i none)
  | none => none
def getC (C : List Pl) (k : Ky) : Option Int :=
  match C.findIdx? (hasK k) with
  | some i => (C.getD i none).map Rt.v
  | none => none
def swapC (C : List Pl) (i : Int) (k : Ky) (v : Int) : Option (Rt × List Pl) :=
  if 0 ≤ i then
    match C.getD i.toNat none with
    | some r => some (r, C.set i.toNat (some ⟨k, v⟩))
    | none => none
  else none
def allC (C : List Pl) : List Rt := C.filterMap id
def xh (x : Pl) : Nat := match x with | some r => r.k.h | none => 0
def xl (x : Pl) : Nat := match x with | some r => r.k.l | none => 0
def xn (x : Pl) : Int := match x with | some r => r.k.n | none => 0
def xv (x : Pl) : Int := match x with | some r => r.v | none => 0
theorem hasK_eq (k : Ky) (x : Pl) : hasK k x = (x.isSome && decide (xh x = k.h ∧ xl x = k.l ∧ xn x = k.n)) := by
  cases x with
  | none => rfl
  | some r =>
    obtain ⟨⟨a, b, c⟩, v⟩ := r
    obtain ⟨d, e, f⟩ := k
    rw [Bool.eq_iff_iff]
    simp [hasK, xh, xl, xn]
    exact decide_eq_true_iff.symm
theorem idx_hit {p : Pl → Bool} {C : List Pl} {i : Nat} (hi : i < C.length) (h : p C[i] = true) (hb : ∀ j (hj : j < C.length), j < i → p C[j] = false) : C.findIdx? p = some i := by
  rw [List.findIdx?_eq_some_iff_getElem]
  exact ⟨hi, h, fun j hj => by simp [hb j (by omega) hj]⟩
theorem idx_miss {p : Pl → Bool} {C : List Pl} (hb : ∀ j (hj : j < C.length), p C[j] = false) : C.findIdx? p = none := by
  rw [List.findIdx?_eq_none_iff]
  intro x hx
  obtain ⟨j, hj, rfl⟩ := List.getElem_of_mem hx
  exact hb j hj
theorem idxI_hit {p : Pl → Bool} {C : List Pl} {i : Nat} (hi : i < C.length) (h : p C[i] = true) (hb : ∀ j (hj : j < C.length), j < i → p C[j] = false) : idxI p C = i := by
  unfold idxI
  rw [idx_hit hi h hb]
theorem idxI_miss {p : Pl → Bool} {C : List Pl} (hb : ∀ j (hj : j < C.length), p C[j] = false) : idxI p C = -1 := by
  unfold idxI
  rw [idx_miss hb]
/-- Either there is a first one, or none. -/
theorem idx_cases (p : Pl → Bool) (C : List Pl) : (∃ i, ∃ hi : i < C.length, C.findIdx? p = some i ∧ idxI p C = i ∧ p C[i] = true) ∨ (C.findIdx? p = none ∧ idxI p C = -1) := by
  cases h : C.findIdx? p with
  | none => exact .inr ⟨rfl, by unfold idxI; rw [h]⟩
  | some i =>
    have := List.findIdx?_eq_some_iff_getElem.1 h
    exact .inl ⟨i, this.1, rfl, by unfold idxI; rw [h], this.2.1⟩
theorem allC_len (C : List Pl) : (allC C).length ≤ C.length := List.length_filterMap_le _ _
/-- The places before number i, listed: one more. -/
theorem allC_snoc (C : List Pl) (i : Nat) (h : i < C.length) : allC (C.take (i + 1)) = allC (C.take i) ++ (C[i]).toList := by
  unfold allC
  rw [List.take_succ_eq_append_getElem h, List.filterMap_append]
  cases C[i] <;> rfl
theorem getC_hit {C : List Pl} {k : Ky} {i : Nat} (hi : i < C.length) (h : C.findIdx? (hasK k) = some i) (hk : hasK k C[i] = true) : getC C k = some (xv C[i]) := by
  unfold getC
  rw [h]
  simp only [List.getD_eq_getElem?_getD, List.getElem?_eq_getElem hi, Option.getD_some]
  cases e : C[i] with
  | none => rw [e] at hk; cases hk
  | some r => rfl
theorem getC_miss {C : List Pl} {k : Ky} (h : C.findIdx? (hasK k) = none) : getC C k = none := by
  unfold getC
  rw [h]
end Go.Proofs.Ytcfioplbbbaeoaa

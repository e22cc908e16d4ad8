/-
  What the calls of a bucket hand back, and what they leave in memory: the first place of a key, the first empty one. No condition but that the bucket's cells lie in memory, and that words are words of 64 bits.
-/
import Derived.Test.YtokjhoiacidofaaW6
import Derived.Test.YtokjhoiacidofaaM4
import Derived.WalkKit
import Derived.Maps.AppendAt
import Derived.Test.YtokjhoiacidofaaReg
import Derived.Handy
import Derived.Test.YtokjhoiacidofaaW5
import Derived.Deep.MidRow
/-
  Rows of prefixes in memory: a list of prefixes as cells, three to each; rows of the call's own, and what is read of them. No condition but those that stand in each.
-/
set_option linter.unusedSimpArgs false
set_option linter.unusedVariables false
namespace Go.Proofs.Ytokjhoiacidofaa
open Go.RowKit Go.Sort M

/-- The cells of a list of prefixes. -/
def pcell (p : Pf) : List Value := [.int .u64 (hiW p.a : Nat), .int .u64 (loW p.a : Nat), .int .i64 p.n]
def pcs (L : List Pf) : List Value := L.flatMap pcell
theorem pcs_len (L : List Pf) : (pcs L).length = L.length * 3 := by
  unfold pcs
  induction L with
  | nil => rfl
  | cons x L ih => simp only [List.flatMap_cons, List.length_append, ih, pcell, List.length_cons, List.length_nil]; omega
theorem pcs_append (L M : List Pf) : pcs (L ++ M) = pcs L ++ pcs M := by simp [pcs]
theorem pcs_cons (x : Pf) (L : List Pf) : pcs (x :: L) = pcell x ++ pcs L := rfl
theorem pcs_one (p : Pf) : pcs [p] = pcell p := by simp [pcs]
theorem pcs_cell : ∀ (L : List Pf) (k j : Nat) (h : k < L.length), j < 3 → (pcs L)[k * 3 + j]? = (pcell L[k])[j]?
  | x :: L, 0, j, _, hj => by
    rw [pcs_cons, List.getElem?_append_left (by simp [pcell]; omega)]
    simp
  | x :: L, k + 1, j, h, hj => by
    rw [pcs_cons, List.getElem?_append_right (by simp [pcell]; omega), show (k + 1) * 3 + j - (pcell x).length = k * 3 + j by simp [pcell]; omega]
    rw [pcs_cell L k j (by simpa using h) hj]
    simp
theorem pcs_one' (L : List Pf) : ∀ u ∈ pcs L, u.oneCell' = true := by
  intro u hu
  unfold pcs at hu
  rw [List.mem_flatMap] at hu
  obtain ⟨p, -, hp⟩ := hu
  simp only [pcell, List.mem_cons, List.not_mem_nil, or_false] at hp
  rcases hp with rfl | rfl | rfl <;> rfl

/-- A row that 'make' lays, of a length and capacity reckoned. -/
theorem make_row {P : Program} {t e : TypeId} {z : Value} {size bytes : Nat} (ht : P.underlying t = some (.slice e)) (hz : (P.info? e).map (fun i => (i.zero, i.size, i.bytes)) = some (some z, size, bytes)) (c : Nat) (hb : bytes * c ≤ 281474976710656) (hm : c ≤ maxLen) (w : World) :
    (Instr.makeSlice t (.int .i64 (c : Int)) (.int .i64 (c : Int))).run P w = .ok (.slice (some ⟨w.heap.size, 0, none⟩) c c) (w.alloc (.cells (madeCells z.cells (c * size)) e)) := by
  obtain ⟨i0, hi0, iz0, iz1, iz2⟩ := info_parts hz
  have h := run_make (P := P) w t e i0 z ht hi0 iz0 .i64 .i64 c c (by omega) (by omega) (by rw [iz2]; have e : ((bytes * c : Nat) : Int) ≤ 281474976710656 := (by omega); rwa [Int.natCast_mul] at e) (by unfold maxLen at hm; omega)
  rw [Int.toNat_natCast, iz1] at h
  exact h
/-- The cells xs lie at p. -/
def Row (w : World) (p : Option Addr) (xs : List Value) : Prop := xs = [] ∨ ∃ g o, p = some ⟨g, o, none⟩ ∧ g < w.heap.size ∧ ∀ j u, xs[j]? = some u → w.cell? ⟨g, o + j, none⟩ = some u
theorem Row.below {w w' : World} {p : Option Addr} {xs : List Value} (h : Row w p xs) (hb : Below w.heap.size w w') : Row w' p xs := by
  rcases h with h | ⟨g, o, e, hg, hc⟩
  · exact .inl h
  · exact .inr ⟨g, o, e, Nat.lt_of_lt_of_le hg hb.size, fun j u hu => (hb.cell (p := ⟨g, o + j, none⟩) hg).trans (hc j u hu)⟩
theorem Row.of_own {w : World} {B n k c : Nat} {e : TypeId} {p : Option Addr} {xs : List Value} (h : w.ownsRow B e k (.slice p n c) n xs) : Row w p xs := by
  by_cases h0 : xs = []
  · exact .inl h0
  · have hc := fun g hg => h.cells (g := g) hg
    have hl := h.lt
    rcases h.2 with ⟨e, h1⟩ | ⟨g, cap, cur, e, -, -, -, -, -, -⟩
    · exact absurd (List.length_eq_zero_iff.1 (by rw [h.1, h1, Nat.zero_mul])) h0
    · injection e with e1 e2 e3
      subst e1
      refine .inr ⟨g, 0, rfl, (hl g rfl).2, fun j u hu => ?_⟩
      have := hc g rfl j u hu
      rw [Nat.zero_add]
      rwa [show (⟨g, 0, none⟩ : Addr).add j = ⟨g, j, none⟩ by unfold Addr.add; split <;> simp_all] at this
/-- Number k of a row of prefixes. -/
theorem Row.at {w : World} {p : Option Addr} {L : List Pf} (h : Row w p (pcs L)) {k : Nat} (hk : k < L.length) : ∃ g o, p = some ⟨g, o, none⟩ ∧ g < w.heap.size ∧
    w.cell? ⟨g, o + k * 3, none⟩ = some (.int .u64 (hiW L[k].a : Nat)) ∧ w.cell? ⟨g, o + k * 3 + 1, none⟩ = some (.int .u64 (loW L[k].a : Nat)) ∧ w.cell? ⟨g, o + k * 3 + 2, none⟩ = some (.int .i64 L[k].n) := by
  rcases h with h | ⟨g, o, e, hg, hc⟩
  · have := pcs_len L
    rw [h] at this
    simp at this; omega
  · exact ⟨g, o, e, hg, hc (k * 3) _ (pcs_cell L k 0 hk (by omega)), hc (k * 3 + 1) _ (pcs_cell L k 1 hk (by omega)), hc (k * 3 + 2) _ (pcs_cell L k 2 hk (by omega))⟩
/-- Three cells are stored in a row of the call's own. -/
theorem store3 {w : World} {B g n c : Nat} {e : TypeId} {xs : List Value} (h : w.ownsRow B e 3 (.slice (some ⟨g, 0, none⟩) n c) n xs) (k : Nat) (u0 u1 u2 : Value) :
    (((w.setCell ⟨g, k * 3, none⟩ u0).setCell ⟨g, k * 3 + 1, none⟩ u1).setCell ⟨g, k * 3 + 2, none⟩ u2).ownsRow B e 3 (.slice (some ⟨g, 0, none⟩) n c) n (((xs.set (k * 3) u0).set (k * 3 + 1) u1).set (k * 3 + 2) u2) :=
  (((h.stored _ _).1.stored _ _).1.stored _ _).1
theorem set3_take (xs : List Value) (k : Nat) (u0 u1 u2 : Value) (h : k * 3 + 3 ≤ xs.length) : (((xs.set (k * 3) u0).set (k * 3 + 1) u1).set (k * 3 + 2) u2).take ((k + 1) * 3) = xs.take (k * 3) ++ [u0, u1, u2] := by
  apply List.ext_getElem?
  intro i
  rw [List.getElem?_take, List.getElem?_append, List.length_take, Nat.min_eq_left (by omega), List.getElem?_take]
  by_cases h1 : i < k * 3
  · rw [if_pos (by omega), if_pos h1, if_pos h1]
    simp only [List.getElem?_set]
    rw [if_neg (by omega), if_neg (by omega), if_neg (by omega)]
  · rw [if_neg h1]
    by_cases h2 : i < (k + 1) * 3
    · rw [if_pos h2]
      simp only [List.getElem?_set, List.length_set]
      rcases (show i = k * 3 ∨ i = k * 3 + 1 ∨ i = k * 3 + 2 by omega) with rfl | rfl | rfl
      · rw [if_neg (by omega), if_neg (by omega), if_pos rfl, if_pos (by omega)]; simp
      · rw [if_neg (by omega), if_pos rfl, if_pos (by omega)]; simp
      · rw [if_pos rfl, if_pos (by omega)]; simp
    · rw [if_neg h2, List.getElem?_eq_none (by simp; omega)]
/-- The cells of a block that has just been laid. -/
theorem new_cells (w : World) (cs : Array Value) (t : TypeId) : ∀ j u, cs.toList[j]? = some u → (w.alloc (.cells cs t)).cell? ((⟨w.heap.size, 0, none⟩ : Addr).add j) = some u := by
  intro j u hu
  rw [show (⟨w.heap.size, 0, none⟩ : Addr).add j = ⟨w.heap.size, j, none⟩ by unfold Addr.add; split <;> simp_all]
  rw [cell_of_row _ _ j cs t (0, 0) (heap_alloc_new w _)]
  simpa using hu
/-- The keys at one length, as prefixes. -/
def pfs (L : List Nat) (m : Int) : List Pf := L.map fun x => ⟨x, m⟩
theorem pfs_len (L : List Nat) (m : Int) : (pfs L m).length = L.length := by simp [pfs]
theorem pfs_at (L : List Nat) (m : Int) (k : Nat) (h : k < (pfs L m).length) : (pfs L m)[k] = ⟨L[k]'(by rw [pfs_len] at h; exact h), m⟩ := by simp [pfs]
theorem pfs_append (L M : List Nat) (m : Int) : pfs (L ++ M) m = pfs L m ++ pfs M m := by simp [pfs]
theorem Row.at_pfs {w : World} {p : Option Addr} {L : List Nat} {m : Int} (h : Row w p (pcs (pfs L m))) {k : Nat} (hk : k < L.length) : ∃ g o, p = some ⟨g, o, none⟩ ∧ g < w.heap.size ∧
    w.cell? ⟨g, o + k * 3, none⟩ = some (.int .u64 (hiW L[k] : Nat)) ∧ w.cell? ⟨g, o + k * 3 + 1, none⟩ = some (.int .u64 (loW L[k] : Nat)) ∧ w.cell? ⟨g, o + k * 3 + 2, none⟩ = some (.int .i64 m) := by
  have := h.at (k := k) (by rw [pfs_len]; exact hk)
  rwa [pfs_at] at this
/-- An old cell, behind a call that leaves all old memory alone, a new block, and an append to a row that lies elsewhere. -/
theorem keep_app {w0 w1 w4 : World} {O : Obj} {B n k : Nat} {e : TypeId} {v : Value} {xs : List Value} (hb : Below w0.heap.size w0 w1) (hY : (w1.alloc O).ownsRow B e k v n xs) (hg : (w1.alloc O).grownBy w4 v.ownBlock) {g o : Nat} {u : Value}
    (hlt : g < B) (hlt0 : g < w0.heap.size) (c : w0.cell? ⟨g, o, none⟩ = some u) : w4.cell? ⟨g, o, none⟩ = some u := by
  have h1 : w1.cell? ⟨g, o, none⟩ = some u := (hb.cell (p := ⟨g, o, none⟩) hlt0).trans c
  have h2 : (w1.alloc O).cell? ⟨g, o, none⟩ = some u := (World.cell?_alloc_lt w1 O ⟨g, o, none⟩ (Nat.lt_of_lt_of_le hlt0 hb.size)).trans h1
  refine hg.cell h2 fun e => ?_
  have := (hY.lt g e.symm).1
  omega
end Go.Proofs.Ytokjhoiacidofaa
/-
  A bucket in memory: twenty cells of a block, from an offset on; what is kept of them while others are written. No condition but those that stand in each.
-/
set_option linter.unusedSimpArgs false
set_option linter.unusedVariables false
namespace Go.Proofs.Ytokjhoiacidofaa
open Go.RowKit Go.Sort M

/-- A key as a value. -/
def kyV (k : Ky) : Value := .agg #[.int .u64 (k.h : Int), .int .u64 (k.l : Int), .int .i64 k.n]
/-- The cells of a place. -/
def x5 (x : Pl) : List Value := [.int .u64 (xh x : Int), .int .u64 (xl x : Int), .int .i64 (xn x), .int .i64 (xv x), .bool x.isSome]
/-- A bucket at offset o of block g. -/
structure Bkt (w : World) (g o : Nat) (C : List Pl) : Prop where
  four : C.length = 4
  lt : g < w.heap.size
  cell : ∀ (i : Nat) (hi : i < C.length) (j : Nat) (u : Value), (x5 C[i])[j]? = some u → w.cell? ⟨g, o + i * 5 + j, none⟩ = some u
  free : ∀ j, j < 20 → w.frozen? ⟨g, o + j, none⟩ = false
/-- What is written: nothing but n cells of block g, from offset o on. -/
structure Turn (w w' : World) (g o n : Nat) : Prop where
  grown : w.grownBy w' (some g)
  cell : ∀ x, x < o ∨ o + n ≤ x → w'.cell? ⟨g, x, none⟩ = w.cell? ⟨g, x, none⟩
  frozen : ∀ x, w'.frozen? ⟨g, x, none⟩ = w.frozen? ⟨g, x, none⟩
theorem Turn.of_below {w w' : World} {g o n : Nat} (hg : g < w.heap.size) (hb : Below w.heap.size w w') : Turn w w' g o n :=
  ⟨⟨hb.os, hb.tape, hb.output, hb.size, fun k hk _ => hb.block k hk⟩, fun x _ => hb.cell (p := ⟨g, x, none⟩) hg, fun x => hb.frozen (p := ⟨g, x, none⟩) hg⟩
theorem Turn.trans {a b c : World} {g o n : Nat} (h : Turn a b g o n) (k : Turn b c g o n) : Turn a c g o n :=
  ⟨h.grown.trans k.grown, fun x hx => (k.cell x hx).trans (h.cell x hx), fun x => (k.frozen x).trans (h.frozen x)⟩
theorem Bkt.below {w w' : World} {g o : Nat} {C : List Pl} (H : Bkt w g o C) (hb : Below w.heap.size w w') : Bkt w' g o C :=
  ⟨H.four, Nat.lt_of_lt_of_le H.lt hb.size, fun i hi j u hu => (hb.cell (p := ⟨g, o + i * 5 + j, none⟩) H.lt).trans (H.cell i hi j u hu), fun j hj => (hb.frozen (p := ⟨g, o + j, none⟩) H.lt).trans (H.free j hj)⟩
/-- A bucket's own cells are not written. -/
theorem Bkt.kept {w w' : World} {g o g' o' n : Nat} {C : List Pl} (H : Bkt w g o C) (h : Turn w w' g' o' n) (hne : g ≠ g' ∨ o + 20 ≤ o' ∨ o' + n ≤ o) : Bkt w' g o C := by
  have hc : ∀ x, x < 20 → w'.cell? ⟨g, o + x, none⟩ = w.cell? ⟨g, o + x, none⟩ ∧ w'.frozen? ⟨g, o + x, none⟩ = w.frozen? ⟨g, o + x, none⟩ := by
    intro x hx
    by_cases e : g = g'
    · subst e
      exact ⟨h.cell _ (by omega), h.frozen _⟩
    · have hb := h.grown.block g H.lt (by simpa using e)
      exact ⟨World.cell?_of_block hb, by unfold World.frozen?; rw [hb]⟩
  have h4 := H.four
  refine ⟨H.four, Nat.lt_of_lt_of_le H.lt h.grown.size, fun i hi j u hu => ?_, fun j hj => (hc j hj).2.trans (H.free j hj)⟩
  have hj : j < 5 := (List.getElem?_eq_some_iff.1 hu).1
  rw [Nat.add_assoc, (hc (i * 5 + j) (by omega)).1, ← Nat.add_assoc]
  exact H.cell i hi j u hu
theorem Bkt.at {w : World} {g o : Nat} {C : List Pl} (H : Bkt w g o C) (i : Nat) (hi : i < C.length) :
    w.cell? ⟨g, o + i * 5, none⟩ = some (.int .u64 (xh C[i] : Int)) ∧ w.cell? ⟨g, o + i * 5 + 1, none⟩ = some (.int .u64 (xl C[i] : Int)) ∧ w.cell? ⟨g, o + i * 5 + 2, none⟩ = some (.int .i64 (xn C[i])) ∧ w.cell? ⟨g, o + i * 5 + 3, none⟩ = some (.int .i64 (xv C[i])) ∧ w.cell? ⟨g, o + i * 5 + 4, none⟩ = some (.bool C[i].isSome) :=
  ⟨H.cell i hi 0 _ rfl, H.cell i hi 1 _ rfl, H.cell i hi 2 _ rfl, H.cell i hi 3 _ rfl, H.cell i hi 4 _ rfl⟩
theorem turn_one (w : World) (g o n x : Nat) (u : Value) (h1 : o ≤ x) (h2 : x < o + n) : Turn w (w.setCell ⟨g, x, none⟩ u) g o n := by
  refine ⟨⟨rfl, rfl, rfl, by rw [World.size_setCell]; exact Nat.le_refl _, fun k hk hn => Below.heap_setCell w ⟨g, x, none⟩ u k (by simpa using hn)⟩, fun y hy => ?_, fun y => ?_⟩
  · rw [World.cell?_setCell_other]
    intro e
    injection e with e1 e2
    omega
  · rw [World.frozen?_setCell]
theorem Turn.mono {w w' : World} {g o n o' n' : Nat} (h : Turn w w' g o n) (h1 : o' ≤ o) (h2 : o + n ≤ o' + n') : Turn w w' g o' n' := ⟨h.grown, fun x hx => h.cell x (by omega), h.frozen⟩
/-- The five cells of a place are written. -/
def put5 (w : World) (g p : Nat) (x : Pl) : World :=
  ((((w.setCell ⟨g, p, none⟩ (.int .u64 (xh x : Int))).setCell ⟨g, p + 1, none⟩ (.int .u64 (xl x : Int))).setCell ⟨g, p + 2, none⟩ (.int .i64 (xn x))).setCell ⟨g, p + 3, none⟩ (.int .i64 (xv x))).setCell ⟨g, p + 4, none⟩ (.bool x.isSome)
theorem turn_put5 (w : World) (g p : Nat) (x : Pl) : Turn w (put5 w g p x) g p 5 :=
  ((((turn_one w g p 5 p _ (by omega) (by omega)).trans (turn_one _ g p 5 (p + 1) _ (by omega) (by omega))).trans (turn_one _ g p 5 (p + 2) _ (by omega) (by omega))).trans (turn_one _ g p 5 (p + 3) _ (by omega) (by omega))).trans
    (turn_one _ g p 5 (p + 4) _ (by omega) (by omega))
theorem put5_cell {w : World} {g p : Nat} (x : Pl) (hc : ∀ j, j < 5 → (w.cell? ⟨g, p + j, none⟩).isSome = true) (j : Nat) (u : Value) (hu : (x5 x)[j]? = some u) : (put5 w g p x).cell? ⟨g, p + j, none⟩ = some u := by
  have h0 := hc 0 (by omega)
  have h1 := hc 1 (by omega)
  have h2 := hc 2 (by omega)
  have h3 := hc 3 (by omega)
  have h4 := hc 4 (by omega)
  rw [Nat.add_zero] at h0
  have hj : j < 5 := (List.getElem?_eq_some_iff.1 hu).1
  unfold put5
  rcases (show j = 0 ∨ j = 1 ∨ j = 2 ∨ j = 3 ∨ j = 4 by omega) with rfl | rfl | rfl | rfl | rfl <;> (simp only [x5, List.getElem?_cons_zero, List.getElem?_cons_succ, Option.some.injEq] at hu; subst hu; simp [go_sem, h0, h1, h2, h3, h4])
theorem Bkt.put {w : World} {g o : Nat} {C : List Pl} (H : Bkt w g o C) (i : Nat) (hi : i < C.length) (x : Pl) : Bkt (put5 w g (o + i * 5) x) g o (C.set i x) ∧ Turn w (put5 w g (o + i * 5) x) g o 20 := by
  have h4 := H.four
  have ht := turn_put5 w g (o + i * 5) x
  refine ⟨⟨by simpa using h4, Nat.lt_of_lt_of_le H.lt ht.grown.size, fun k hk j u hu => ?_, fun j hj => (ht.frozen _).trans (H.free j hj)⟩, ht.mono (by omega) (by omega)⟩
  rw [List.length_set] at hk
  have hj : j < 5 := (List.getElem?_eq_some_iff.1 hu).1
  by_cases e : i = k
  · subst e
    rw [List.getElem_set_self] at hu
    exact put5_cell x (fun j hj => by rw [H.cell i hi j _ (List.getElem?_eq_getElem (by simpa [x5] using hj))]; rfl) j u hu
  · rw [List.getElem_set_ne e] at hu
    rw [ht.cell _ (by omega)]
    exact H.cell k hk j u hu
theorem Bkt.drew {w : World} {g o : Nat} {C : List Pl} (H : Bkt w g o C) : Bkt w.drew g o C := H.below (by go_grown)
theorem Turn.drew {w w' : World} {g o n : Nat} (h : Turn w w' g o n) (hl : g < w.heap.size) : Turn w w'.drew g o n := h.trans (Turn.of_below (Nat.lt_of_lt_of_le hl h.grown.size) (by go_grown))
/-- A place is written: behind it, and behind the order that was drawn. -/
theorem Bkt.put_drew {w w1 : World} {g o : Nat} {C : List Pl} (H : Bkt w g o C) (hb : Below w.heap.size w w1) (i : Nat) (hi : i < C.length) (x : Pl) :
    Bkt (put5 w1 g (o + i * 5) x).drew g o (C.set i x) ∧ Turn w (put5 w1 g (o + i * 5) x).drew g o 20 := by
  have hP := (H.below hb).put i hi x
  exact ⟨hP.1.drew, ((Turn.of_below H.lt hb).trans hP.2).drew H.lt⟩
/-- A write to a block that was not there. -/
theorem Turn.fresh {w w1 : World} {g o n : Nat} (h : Turn w w1 g o n) (hl : g < w.heap.size) (b x : Nat) (u : Value) (hb : w.heap.size ≤ b) : Turn w (w1.setCell ⟨b, x, none⟩ u) g o n := by
  refine ⟨⟨h.grown.os, h.grown.tape, h.grown.output, by rw [World.size_setCell]; exact h.grown.size, fun k hk hn => (Below.heap_setCell w1 ⟨b, x, none⟩ u k (by simp; omega)).trans (h.grown.block k hk hn)⟩, fun y hy => ?_, fun y => ?_⟩
  · rw [World.cell?_setCell_other]
    · exact h.cell y hy
    · intro e
      injection e with e1 e2
      omega
  · rw [World.frozen?_setCell]
    exact h.frozen y
theorem Bkt.fresh {w1 : World} {g o : Nat} {C : List Pl} (H : Bkt w1 g o C) (b x : Nat) (u : Value) (hb : g ≠ b) : Bkt (w1.setCell ⟨b, x, none⟩ u) g o C := H.kept (turn_one w1 b x 1 x u (Nat.le_refl _) (by omega)) (.inl hb)
/-- Another block is as it was. -/
theorem Turn.far {w w' : World} {g o n b : Nat} (h : Turn w w' g o n) (hb : b < w.heap.size) (hne : b ≠ g) (x : Nat) : w'.cell? ⟨b, x, none⟩ = w.cell? ⟨b, x, none⟩ ∧ w'.frozen? ⟨b, x, none⟩ = w.frozen? ⟨b, x, none⟩ := by
  have hB := h.grown.block b hb (by simpa using hne)
  exact ⟨World.cell?_of_block hB, by unfold World.frozen?; rw [hB]⟩
end Go.Proofs.Ytokjhoiacidofaa
/-
  What the calls of a bucket hand back, and what they leave in memory: the first place of a key, the first empty one. No condition but that the bucket's cells lie in memory, and that words are words of 64 bits.
-/
set_option linter.unusedSimpArgs false
set_option linter.unusedVariables false
namespace Go.Proofs.Ytokjhoiacidofaa
open Go.RowKit Go.Sort M

/-- The cells of four places. -/
def bcs (C : List Pl) : List Value := C.flatMap x5
theorem bcs_at : ∀ (C : List Pl) (i : Nat) (hi : i < C.length) (j : Nat), j < 5 → (bcs C)[i * 5 + j]? = (x5 C[i])[j]?
  | x :: C, 0, _, j, hj => by
    show (x5 x ++ bcs C)[0 * 5 + j]? = _
    rw [List.getElem?_append_left (by simp [x5]; omega)]
    simp
  | x :: C, i + 1, hi, j, hj => by
    show (x5 x ++ bcs C)[(i + 1) * 5 + j]? = _
    rw [List.getElem?_append_right (by simp [x5]; omega), show (i + 1) * 5 + j - (x5 x).length = i * 5 + j by simp [x5]; omega, bcs_at C i (by simpa using hi) j hj]
    simp
theorem bcs_len (C : List Pl) : (bcs C).length = C.length * 5 := by
  unfold bcs
  induction C with
  | nil => rfl
  | cons x C ih => rw [List.flatMap_cons, List.length_append, ih]; simp [x5]; omega
theorem Bkt.range {w : World} {g o : Nat} {C : List Pl} (H : Bkt w g o C) : w.rangeAt g o (bcs C) := by
  intro j v hv
  have hl : (bcs C).length = 20 := by rw [bcs_len, H.four]
  have hj : j < 20 := by
    have := (List.getElem?_eq_some_iff.1 hv).1
    omega
  have h5 : j / 5 < C.length := by rw [H.four]; omega
  have e := bcs_at C (j / 5) h5 (j % 5) (by omega)
  rw [show j / 5 * 5 + j % 5 = j by omega] at e
  have := H.cell (j / 5) h5 (j % 5) v (e ▸ hv)
  rwa [show o + j / 5 * 5 + j % 5 = o + j by omega] at this
theorem eqlK (a b : Nat) (n : Int) (c d : Nat) (m : Int) (w : World) : (binOp .eql 27 (.agg #[.int .u64 a, .int .u64 b, .int .i64 n]) (.agg #[.int .u64 c, .int .u64 d, .int .i64 m])).run Try.prog w =
    .ok (.bool (decide (a = c ∧ b = d ∧ n = m))) w := by
  have e1 : decide (a = c ∧ b = d ∧ n = m) = (decide ((a : Int) = c) && (decide ((b : Int) = d) && decide (n = m))) := by
    rw [← Bool.decide_and, ← Bool.decide_and, decide_eq_decide]; omega
  rw [e1]
  by_cases h1 : (a : Int) = c <;> by_cases h2 : (b : Int) = d <;> by_cases h3 : n = m <;> simp [go_sem, h1, h2, h3]
end Go.Proofs.Ytokjhoiacidofaa

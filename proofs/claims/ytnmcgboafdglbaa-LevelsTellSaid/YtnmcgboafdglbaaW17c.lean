/-
  What levels.allCosts hands back: a row of rows of costs. No condition but that the counts lie in memory, and bounds.
-/
import Derived.Test.YtnmcgboafdglbaaW17
import Derived.Test.YtnmcgboafdglbaaM17c
import Derived.Test.YtnmcgboafdglbaaW17b
set_option linter.unusedSimpArgs false
set_option linter.unusedVariables false
namespace Go.Proofs.Ytnmcgboafdglbaa
open Go Go.RowKit Go.Sort M

theorem addr_zero (a : Addr) : a.add 0 = a := by simp [Addr.add]
theorem map_zero (p : Option Addr) : p.map (·.add 0) = p := by cases p <;> simp [addr_zero]
/-- The beginning of a row. -/
theorem IRow.take {w : World} {p : Option Addr} {L : List Int} (h : IRow w p L) (k : Nat) : IRow w p (L.take k) := by
  rcases h with h | ⟨g, o, e, hg, hc⟩
  · exact .inl (by rw [h]; simp)
  · refine .inr ⟨g, o, e, hg, fun j u hu => hc j u ?_⟩
    unfold ics at hu ⊢
    rw [List.map_take, List.getElem?_take] at hu
    split at hu
    · exact hu
    · cases hu
theorem pre_any (p : Option Addr) (n c m : Nat) (h : m ≤ c) (w : World) : (Instr.slice 22 (.slice p n c) none (some (.int .i64 (m : Int))) none).run Try.prog w = .ok (.slice p m c) w := by
  rw [run_slice_h (P := Try.prog) (w := w) 22 p n c (by kernel_rfl) .i64 (m : Int) (by omega) (by omega)]
  obtain ⟨i0, hi0, iz0, iz1, iz2⟩ := info_parts infoI
  have he : Try.prog.elem 22 = 3 := by kernel_rfl
  rw [he]
  simp [go_sem, sliced, map_zero, hi0, iz1]
/-- What levels above one cost, one by one. -/
theorem one_cost (C : List Int) (a b : Nat) (h1 : a < b) (h2 : b ≤ a + 20) (h3 : b ≤ 128) : costK (C.take (b + 1)) [(b : Int)] (a : Int) = some (ptC C a b) := by
  have := cost_is C (C.take (b + 1)) (st := 20) (wd := b) (Nat.le_refl _) h3 (fun j hj => ?_) (fun j hj => ?_) [b] a (okC_cons.2 ⟨h1, h2, okC_nil.2 rfl⟩)
  · rw [show toI [b] = [(b : Int)] from rfl] at this
    rw [this]
    rfl
  · unfold atC
    rw [List.getD_eq_getElem?_getD, List.getD_eq_getElem?_getD, List.getElem?_take, if_pos (by omega)]
  · exact atC_past _ _ (by rw [List.length_take]; omega)
/-- Row k of costs: it lies behind block gO, before S. -/
def CtRow (w : World) (gO S k : Nat) (L : List Int) : Prop := ∃ q c, w.cell? ⟨gO, k, none⟩ = some (.slice q L.length c) ∧ (L = [] ∨ ∃ g o, q = some ⟨g, o, none⟩ ∧ gO < g ∧ g < S ∧ ∀ j u, (ics L)[j]? = some u → w.cell? ⟨g, o + j, none⟩ = some u)
theorem CtRow.keep {w w' : World} {gO S S' k : Nat} {L : List Int} (h : CtRow w gO S k L) (hS : S ≤ S') (h0 : w'.cell? ⟨gO, k, none⟩ = w.cell? ⟨gO, k, none⟩) (h1 : ∀ g j, gO < g → g < S → w'.cell? ⟨g, j, none⟩ = w.cell? ⟨g, j, none⟩) : CtRow w' gO S' k L := by
  obtain ⟨q, c, e, hr⟩ := h
  refine ⟨q, c, h0.trans e, hr.imp id ?_⟩
  rintro ⟨g, o, e2, h2, h3, h4⟩
  exact ⟨g, o, e2, h2, by omega, fun j u hu => (h1 g _ h2 h3).trans (h4 j u hu)⟩
theorem CtRow.irow {w : World} {gO S k : Nat} {L : List Int} (h : CtRow w gO S k L) (hS : S ≤ w.heap.size) : ∃ q c, w.cell? ⟨gO, k, none⟩ = some (.slice q L.length c) ∧ IRow w q L := by
  obtain ⟨q, c, e, hr⟩ := h
  exact ⟨q, c, e, hr.imp id fun ⟨g, o, e2, h2, h3, h4⟩ => ⟨g, o, e2, by omega, h4⟩⟩
/-- The rows so far: those from lo to n are there, those behind n are empty. -/
structure Cst (w : World) (gO S lo n wd : Nat) (f : Nat → List Int) : Prop where
  done : ∀ k, lo ≤ k → k < n → CtRow w gO S k (f k)
  rest : ∀ k, n < k → k < wd → w.cell? ⟨gO, k, none⟩ = some (.slice none 0 0)
  free : ∀ j, w.frozen? ⟨gO, j, none⟩ = false
  lt : gO < S
  le : S ≤ w.heap.size
theorem Cst.keep {w w' : World} {gO S lo n wd : Nat} {f : Nat → List Int} (h : Cst w gO S lo n wd f) (hz : w.heap.size ≤ w'.heap.size) (hc : ∀ g j, g < S → g ≠ gO ∨ j ≠ n → w'.cell? ⟨g, j, none⟩ = w.cell? ⟨g, j, none⟩)
    (hf : ∀ j, w'.frozen? ⟨gO, j, none⟩ = w.frozen? ⟨gO, j, none⟩) : Cst w' gO S lo n wd f :=
  ⟨fun k h1 h2 => (h.done k h1 h2).keep (Nat.le_refl _) (hc gO k h.lt (.inr (by omega))) (fun g j h3 h4 => hc g j h4 (.inl (by omega))), fun k h1 h2 => (hc gO k h.lt (.inr (by omega))).trans (h.rest k h1 h2), fun j => (hf j).trans (h.free j), h.lt, Nat.le_trans h.le hz⟩
theorem cst_next {w : World} {gO S lo n wd m c : Nat} {e : TypeId} {p : Option Addr} {f : Nat → List Int} (h : Cst w gO S lo n wd f) (hm : (f n).length = m) (hx : w.cell? ⟨gO, n, none⟩ = some (.slice p m c)) (ho : w.ownsRow S e 1 (.slice p m c) m (ics (f n))) :
    Cst w gO w.heap.size lo (n + 1) wd f := by
  have hlt := h.lt
  refine ⟨fun k h1 h2 => ?_, fun k h1 h2 => h.rest k (by omega) h2, h.free, Nat.lt_of_lt_of_le h.lt h.le, Nat.le_refl _⟩
  by_cases hk : k = n
  · subst hk
    refine ⟨p, c, by rw [hm]; exact hx, ?_⟩
    rcases IRow.of_own ho with h3 | ⟨g, o, e2, h3, h4⟩
    · exact .inl h3
    · subst e2
      exact .inr ⟨g, o, rfl, by have := (ho.lt g rfl).1; omega, h3, h4⟩
  · exact (h.done k h1 (by omega)).keep h.le rfl (fun _ _ _ _ => rfl)
/-- The whole row of rows. -/
def Cts (w : World) (p : Option Addr) (lo wd : Nat) (f : Nat → List Int) : Prop := ∃ g, p = some ⟨g, 0, none⟩ ∧ g < w.heap.size ∧ ∀ k, lo ≤ k → k < wd → ∃ q c, w.cell? ⟨g, k, none⟩ = some (.slice q (f k).length c) ∧ IRow w q (f k)
theorem Cts.below {w w' : World} {p : Option Addr} {lo wd : Nat} {f : Nat → List Int} (h : Cts w p lo wd f) (hb : Below w.heap.size w w') : Cts w' p lo wd f := by
  obtain ⟨g, e, hg, hc⟩ := h
  refine ⟨g, e, Nat.lt_of_lt_of_le hg hb.size, fun k h1 h2 => ?_⟩
  obtain ⟨q, c, e2, h3⟩ := hc k h1 h2
  exact ⟨q, c, (hb.cell (p := ⟨g, k, none⟩) hg).trans e2, h3.below hb⟩
/-- Behind what laid new blocks, or grew a row: all other blocks are as they were. -/
theorem grown_far {w w' : World} {row : Option Nat} (h : w.grownBy w' row) {g : Nat} (hlt : g < w.heap.size) (hne : some g ≠ row) (j : Nat) : w'.cell? ⟨g, j, none⟩ = w.cell? ⟨g, j, none⟩ ∧ w'.frozen? ⟨g, j, none⟩ = w.frozen? ⟨g, j, none⟩ :=
  ⟨World.cell?_of_block (a := ⟨g, j, none⟩) (h.block g hlt hne), World.frozen?_of_block (a := ⟨g, j, none⟩) (h.block g hlt hne)⟩
theorem irow_one (w : World) (x : Int) (t : TypeId) : IRow (w.alloc (.cells #[.int .i64 x] t)) (some ⟨w.heap.size, 0, none⟩) [x] := by
  refine .inr ⟨_, 0, rfl, by simp, fun j u hu => ?_⟩
  match j, hu with
  | 0, hu =>
    simp [ics] at hu
    subst hu
    simp [go_sem]
theorem own_cap17 {w : World} {B n m d k : Nat} {e : TypeId} {q : Option Addr} {xs : List Value} (h : w.ownsRow B e k (.slice q n d) m xs) : n ≤ d := by
  rcases h.2 with ⟨e1, _⟩ | ⟨g, cap, cur, e1, _, _, hc, _⟩
  · injection e1 with _ e2 e3
    omega
  · injection e1 with _ e2 e3
    omega
theorem bset17 {B b o : Nat} {w w' : World} {v : Value} (h : Below B w w') (hb : B ≤ b) : Below B w (w'.setCell ⟨b, o, none⟩ v) :=
  h.setCell hb v
end Go.Proofs.Ytnmcgboafdglbaa

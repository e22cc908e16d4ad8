/-
  The reference's rows of ways in memory: each way whether there is one, its cost, its levels in a row of their own. No condition but those that stand in each.
-/
import Derived.Test.YtnmcgboafdglbaaRef17
import Derived.Test.YtnmcgboafdglbaaW17c
import Derived.Test.YtnmcgboafdglbaaRow
set_option linter.unusedSimpArgs false
set_option linter.unusedVariables false
namespace Go.Proofs.Ytnmcgboafdglbaa
open Go Go.RowKit Go.Sort M

def cR : Option Wy → Nat
  | none => 0
  | some x => x.1
def lR : Option Wy → List Nat
  | none => []
  | some x => x.2
/-- A way as its three cells. -/
structure Re where
  ok : Bool
  c : Nat
  q : Option Addr
  n : Nat
  d : Nat
def recs (e : Re) : List Value := [.bool e.ok, .int .i64 (e.c : Int), .slice e.q e.n e.d]
def ReAt (w : World) (b j : Nat) (e : Re) : Prop := w.cell? ⟨b, j * 3, none⟩ = some (.bool e.ok) ∧ w.cell? ⟨b, j * 3 + 1, none⟩ = some (.int .i64 (e.c : Int)) ∧ w.cell? ⟨b, j * 3 + 2, none⟩ = some (.slice e.q e.n e.d)
/-- Levels that lie in memory, not in block No. -/
def LRow (w : World) (No : Nat) (q : Option Addr) (L : List Nat) : Prop := L = [] ∨ ∃ g o, q = some ⟨g, o, none⟩ ∧ g < w.heap.size ∧ g ≠ No ∧ ∀ j u, (ics (toI L))[j]? = some u → w.cell? ⟨g, o + j, none⟩ = some u
theorem LRow.irow {w : World} {No : Nat} {q : Option Addr} {L : List Nat} (h : LRow w No q L) : IRow w q (toI L) := by
  rcases h with h | ⟨g, o, e, hg, -, hc⟩
  · exact .inl (by rw [h]; rfl)
  · exact .inr ⟨g, o, e, hg, hc⟩
structure EntOK (w : World) (No : Nat) (e : Re) (r : Option Wy) : Prop where
  ok : e.ok = r.isSome
  c : e.c = cR r
  n : e.n = (lR r).length
  z : lR r = [] → e.q = none ∧ e.d = 0
  l : LRow w No e.q (lR r)
/-- What holds of levels, whatever was written in block No, or laid anew. -/
theorem LRow.keep {w w' : World} {No : Nat} {q : Option Addr} {L : List Nat} (h : LRow w No q L) (hz : w.heap.size ≤ w'.heap.size) (hc : ∀ g j, g < w.heap.size → g ≠ No → w'.cell? ⟨g, j, none⟩ = w.cell? ⟨g, j, none⟩) : LRow w' No q L := by
  rcases h with h | ⟨g, o, e, hg, hn, hcc⟩
  · exact .inl h
  · exact .inr ⟨g, o, e, Nat.lt_of_lt_of_le hg hz, hn, fun j u hu => (hc g _ hg hn).trans (hcc j u hu)⟩
theorem LRow.fresh {w w' : World} {No No' : Nat} {q : Option Addr} {L : List Nat} (h : LRow w No q L) (hb : Below w.heap.size w w') (hN : w.heap.size ≤ No') : LRow w' No' q L := by
  rcases h with h | ⟨g, o, e, hg, hn, hcc⟩
  · exact .inl h
  · exact .inr ⟨g, o, e, Nat.lt_of_lt_of_le hg hb.size, by omega, fun j u hu => (hb.cell (p := ⟨g, o + j, none⟩) hg).trans (hcc j u hu)⟩
theorem EntOK.keep {w w' : World} {No : Nat} {e : Re} {r : Option Wy} (h : EntOK w No e r) (hz : w.heap.size ≤ w'.heap.size) (hc : ∀ g j, g < w.heap.size → g ≠ No → w'.cell? ⟨g, j, none⟩ = w.cell? ⟨g, j, none⟩) : EntOK w' No e r :=
  ⟨h.ok, h.c, h.n, h.z, h.l.keep hz hc⟩
/-- A row of ways at block b; none of their levels lies in block No. -/
structure RRw (w : World) (b wd No : Nat) (X : Nat → Option Wy) : Prop where
  lt : b < w.heap.size
  nlt : No < w.heap.size
  ex : ∃ E : Nat → Re, ∀ j, j ≤ wd → ReAt w b j (E j) ∧ EntOK w No (E j) (X j)
theorem RRw.keep {w w' : World} {b wd No : Nat} {X : Nat → Option Wy} (h : RRw w b wd No X) (hz : w.heap.size ≤ w'.heap.size) (hb : b ≠ No) (hc : ∀ g j, g < w.heap.size → g ≠ No → w'.cell? ⟨g, j, none⟩ = w.cell? ⟨g, j, none⟩) : RRw w' b wd No X := by
  obtain ⟨E, hE⟩ := h.ex
  refine ⟨Nat.lt_of_lt_of_le h.lt hz, Nat.lt_of_lt_of_le h.nlt hz, E, fun j hj => ⟨?_, (hE j hj).2.keep hz hc⟩⟩
  have := (hE j hj).1
  exact ⟨(hc b _ h.lt hb).trans this.1, (hc b _ h.lt hb).trans this.2.1, (hc b _ h.lt hb).trans this.2.2⟩
theorem RRw.below {w w' : World} {b wd No : Nat} {X : Nat → Option Wy} (h : RRw w b wd No X) (hb : Below w.heap.size w w') : RRw w' b wd No X := by
  obtain ⟨E, hE⟩ := h.ex
  refine ⟨Nat.lt_of_lt_of_le h.lt hb.size, Nat.lt_of_lt_of_le h.nlt hb.size, E, fun j hj => ⟨?_, (hE j hj).2.keep hb.size (fun g j hg _ => hb.cell (p := ⟨g, j, none⟩) hg)⟩⟩
  have := (hE j hj).1
  exact ⟨(hb.cell (p := ⟨b, j * 3, none⟩) h.lt).trans this.1, (hb.cell (p := ⟨b, j * 3 + 1, none⟩) h.lt).trans this.2.1, (hb.cell (p := ⟨b, j * 3 + 2, none⟩) h.lt).trans this.2.2⟩
theorem RRw.fresh {w w' : World} {b wd No No' : Nat} {X : Nat → Option Wy} (h : RRw w b wd No X) (hb : Below w.heap.size w w') (hN : w.heap.size ≤ No') (hN2 : No' < w'.heap.size) : RRw w' b wd No' X := by
  obtain ⟨E, hE⟩ := h.ex
  refine ⟨Nat.lt_of_lt_of_le h.lt hb.size, hN2, E, fun j hj => ⟨?_, ?_⟩⟩
  · have := (hE j hj).1
    exact ⟨(hb.cell (p := ⟨b, j * 3, none⟩) h.lt).trans this.1, (hb.cell (p := ⟨b, j * 3 + 1, none⟩) h.lt).trans this.2.1, (hb.cell (p := ⟨b, j * 3 + 2, none⟩) h.lt).trans this.2.2⟩
  · have := (hE j hj).2
    exact ⟨this.ok, this.c, this.n, this.z, this.l.fresh hb hN⟩
theorem RRw.congr {w : World} {b wd No : Nat} {X Y : Nat → Option Wy} (h : RRw w b wd No X) (hX : ∀ j, j ≤ wd → X j = Y j) : RRw w b wd No Y := by
  obtain ⟨E, hE⟩ := h.ex
  exact ⟨h.lt, h.nlt, E, fun j hj => by rw [← hX j hj]; exact hE j hj⟩
/-- A way is stored. -/
def setR (w : World) (b o : Nat) (e : Re) : World := ((w.setCell ⟨b, o, none⟩ (.bool e.ok)).setCell ⟨b, o + 1, none⟩ (.int .i64 (e.c : Int))).setCell ⟨b, o + 2, none⟩ (.slice e.q e.n e.d)
theorem setR_far (w : World) (b o : Nat) (e : Re) (g j : Nat) (h : g ≠ b ∨ j < o ∨ o + 2 < j) : (setR w b o e).cell? ⟨g, j, none⟩ = w.cell? ⟨g, j, none⟩ := by
  unfold setR
  rw [World.cell?_setCell_other _ _ _ _ (by rintro e; injection e with e1 e2; omega), World.cell?_setCell_other _ _ _ _ (by rintro e; injection e with e1 e2; omega), World.cell?_setCell_other _ _ _ _ (by rintro e; injection e with e1 e2; omega)]
theorem setR_size (w : World) (b o : Nat) (e : Re) : (setR w b o e).heap.size = w.heap.size := by simp [setR]
theorem setR_free (w : World) (b o : Nat) (e : Re) (a : Addr) : (setR w b o e).frozen? a = w.frozen? a := by simp [setR]
theorem setR_at {w : World} {b j : Nat} {y : Re} (h : ReAt w b j y) (e : Re) : ReAt (setR w b (j * 3) e) b j e := by
  have hne : ∀ (w : World) (o o' : Nat) (v : Value), o ≠ o' → (w.setCell ⟨b, o, none⟩ v).cell? ⟨b, o', none⟩ = w.cell? ⟨b, o', none⟩ := fun w o o' v h => World.cell?_setCell_other _ _ _ _ (by rintro e; injection e with e1 e2; omega)
  unfold setR
  refine ⟨?_, ?_, ?_⟩
  · rw [hne _ _ _ _ (by omega), hne _ _ _ _ (by omega)]
    exact World.cell?_setCell_same _ _ _ h.1
  · rw [hne _ _ _ _ (by omega)]
    exact World.cell?_setCell_same _ _ _ ((hne _ _ _ _ (by omega)).trans h.2.1)
  · exact World.cell?_setCell_same _ _ _ ((hne _ _ _ _ (by omega)).trans ((hne _ _ _ _ (by omega)).trans h.2.2))
theorem RRw.store_far {w : World} {b wd No : Nat} {X : Nat → Option Wy} (h : RRw w b wd No X) (hb : b ≠ No) (o : Nat) (e : Re) : RRw (setR w No o e) b wd No X :=
  h.keep (by rw [setR_size]; exact Nat.le_refl _) hb (fun g j _ hg => setR_far _ _ _ _ _ _ (.inl hg))
def updR (X : Nat → Option Wy) (j : Nat) (r : Option Wy) : Nat → Option Wy := fun i => if i = j then r else X i
theorem updR_same (X : Nat → Option Wy) (j : Nat) (r : Option Wy) : updR X j r j = r := if_pos rfl
theorem updR_far (X : Nat → Option Wy) (j : Nat) (r : Option Wy) (i : Nat) (h : i ≠ j) : updR X j r i = X i := if_neg h
theorem RRw.store {w : World} {wd No : Nat} {X : Nat → Option Wy} (h : RRw w No wd No X) {j : Nat} (hj : j ≤ wd) {e : Re} {r : Option Wy} (he : EntOK w No e r) : RRw (setR w No (j * 3) e) No wd No (updR X j r) := by
  obtain ⟨E, hE⟩ := h.ex
  have hk : ∀ g i, g < w.heap.size → g ≠ No → (setR w No (j * 3) e).cell? ⟨g, i, none⟩ = w.cell? ⟨g, i, none⟩ := fun g i _ hg => setR_far _ _ _ _ _ _ (.inl hg)
  have hz : w.heap.size ≤ (setR w No (j * 3) e).heap.size := by rw [setR_size]; exact Nat.le_refl _
  refine ⟨by rw [setR_size]; exact h.lt, by rw [setR_size]; exact h.nlt, fun i => if i = j then e else E i, fun i hi => ?_⟩
  by_cases hij : i = j
  · subst hij
    simp only [if_pos]
    rw [updR_same]
    exact ⟨setR_at (hE i hi).1 e, he.keep hz hk⟩
  · simp only [if_neg hij]
    rw [updR_far _ _ _ _ hij]
    have := (hE i hi).1
    exact ⟨⟨(setR_far _ _ _ _ _ _ (by omega)).trans this.1, (setR_far _ _ _ _ _ _ (by omega)).trans this.2.1, (setR_far _ _ _ _ _ _ (by omega)).trans this.2.2⟩, (hE i hi).2.keep hz hk⟩
/-- All cells of a row. -/
def rrow (E : Nat → Re) : Nat → List Value
  | 0 => []
  | n + 1 => rrow E n ++ recs (E n)
theorem rrow_len (E : Nat → Re) : ∀ n, (rrow E n).length = n * 3
  | 0 => rfl
  | n + 1 => by rw [rrow, List.length_append, rrow_len E n]; simp [recs]; omega
theorem rrow_cell (E : Nat → Re) : ∀ n j i, j < n → i < 3 → (rrow E n)[j * 3 + i]? = (recs (E j))[i]?
  | n + 1, j, i, hj, hi => by
    have hl := rrow_len E n
    rw [rrow]
    by_cases h : j < n
    · rw [List.getElem?_append_left (by omega)]
      exact rrow_cell E n j i h hi
    · obtain rfl : j = n := by omega
      rw [List.getElem?_append_right (by omega), hl, show j * 3 + i - j * 3 = i by omega]
theorem rrow_one (E : Nat → Re) : ∀ n, ∀ u ∈ rrow E n, u.oneCell' = true
  | 0, u, h => by cases h
  | n + 1, u, h => by
    rw [rrow, List.mem_append] at h
    rcases h with h | h
    · exact rrow_one E n u h
    · simp only [recs, List.mem_cons, List.not_mem_nil, or_false] at h
      rcases h with rfl | rfl | rfl <;> rfl
theorem rrow_cells {w : World} {b wd : Nat} {E : Nat → Re} (h : ∀ j, j ≤ wd → ReAt w b j (E j)) : ∀ j u, (rrow E (wd + 1))[j]? = some u → w.cell? ((⟨b, 0, none⟩ : Addr).add j) = some u := by
  intro k u hu
  have hl : k < (wd + 1) * 3 := by rw [← rrow_len E (wd + 1)]; exact (List.getElem?_eq_some_iff.1 hu).1
  rw [show (⟨b, 0, none⟩ : Addr).add k = ⟨b, k, none⟩ by unfold Addr.add; split <;> simp_all]
  have h3 : k % 3 < 3 := Nat.mod_lt _ (by decide)
  have hk : k = k / 3 * 3 + k % 3 := by omega
  have hj : k / 3 < wd + 1 := by omega
  rw [hk, rrow_cell E (wd + 1) (k / 3) (k % 3) hj h3] at hu
  have hr := h (k / 3) (by omega)
  rw [hk]
  rcases (show k % 3 = 0 ∨ k % 3 = 1 ∨ k % 3 = 2 by omega) with e | e | e
  · rw [e] at hu ⊢
    simp [recs] at hu
    subst hu
    exact hr.1
  · rw [e] at hu ⊢
    simp [recs] at hu
    subst hu
    exact hr.2.1
  · rw [e] at hu ⊢
    simp [recs] at hu
    subst hu
    exact hr.2.2
/-- A copy of a row, in a block of its own. -/
theorem RRw.copy {w w' : World} {b wd No B g c : Nat} {t : TypeId} {X : Nat → Option Wy} {E : Nat → Re} (hE : ∀ j, j ≤ wd → ReAt w b j (E j) ∧ EntOK w No (E j) (X j)) (hb : Below w.heap.size w w') (hB : w.heap.size ≤ B)
    (ho : w'.ownsRow B t 3 (.slice (some ⟨g, 0, none⟩) (wd + 1) c) (wd + 1) (rrow E (wd + 1))) : RRw w' g wd g X := by
  have hl := ho.lt g rfl
  refine ⟨hl.2, hl.2, E, fun j hj => ⟨?_, ?_⟩⟩
  · have hc := fun i (hi : i < 3) => (ho.cellAt (j * 3 + i) (by omega)).trans (rrow_cell E (wd + 1) j i (by omega) hi)
    exact ⟨hc 0 (by omega), hc 1 (by omega), hc 2 (by omega)⟩
  · have := (hE j hj).2
    exact ⟨this.ok, this.c, this.n, this.z, this.l.fresh hb (by omega)⟩
/-- A row of zeros, as 'make' lays it. -/
theorem made_rrw (w : World) (wd : Nat) (t : TypeId) : RRw (w.alloc (.cells (madeCells #[.bool false, .int .i64 0, .slice none 0 0] ((wd + 1) * 3)) t)) w.heap.size wd w.heap.size (fun _ => none) := by
  have hn := new_cells w (madeCells #[.bool false, .int .i64 0, .slice none 0 0] ((wd + 1) * 3)) t
  have ha : ∀ i, (⟨w.heap.size, 0, none⟩ : Addr).add i = ⟨w.heap.size, i, none⟩ := fun i => by unfold Addr.add; split <;> simp_all
  have hm : ∀ i, i < (wd + 1) * 3 → (madeCells #[.bool false, .int .i64 0, .slice none 0 0] ((wd + 1) * 3)).toList[i]? = (#[.bool false, .int .i64 0, .slice none 0 0] : Array Value)[i % 3]? := fun i hi => by
    unfold madeCells
    simp [hi]
    rcases (show i % 3 = 0 ∨ i % 3 = 1 ∨ i % 3 = 2 by omega) with e | e | e <;> rw [e] <;> rfl
  refine ⟨by simp, by simp, fun _ => ⟨false, 0, none, 0, 0⟩, fun j hj => ⟨⟨?_, ?_, ?_⟩, ⟨rfl, rfl, rfl, fun _ => ⟨rfl, rfl⟩, .inl rfl⟩⟩⟩
  · have := hn (j * 3) (.bool false) (by rw [hm _ (by omega), show j * 3 % 3 = 0 by omega]; rfl)
    rwa [ha] at this
  · have := hn (j * 3 + 1) (.int .i64 0) (by rw [hm _ (by omega), show (j * 3 + 1) % 3 = 1 by omega]; rfl)
    rwa [ha] at this
  · have := hn (j * 3 + 2) (.slice none 0 0) (by rw [hm _ (by omega), show (j * 3 + 2) % 3 = 2 by omega]; rfl)
    rwa [ha] at this
/-- The end of the width: a way of no levels. -/
theorem RRw.ends {w : World} {g wd : Nat} (h : RRw w g wd g (fun _ => none)) (f : ∃ E : Nat → Re, ∀ j, j ≤ wd → ReAt w g j (E j) ∧ EntOK w g (E j) (none : Option Wy)) :
    RRw (w.setCell ⟨g, wd * 3, none⟩ (.bool true)) g wd g (updR (fun _ => none) wd (some (0, []))) := by
  obtain ⟨E, hE⟩ := f
  have hs : ∀ b o, b ≠ g ∨ o ≠ wd * 3 → (w.setCell ⟨g, wd * 3, none⟩ (.bool true)).cell? ⟨b, o, none⟩ = w.cell? ⟨b, o, none⟩ := fun b o hb => World.cell?_setCell_other _ _ _ _ (by rintro e; injection e with e1 e2; omega)
  refine ⟨by rw [World.size_setCell]; exact h.lt, by rw [World.size_setCell]; exact h.nlt, fun i => if i = wd then ⟨true, (E i).c, (E i).q, (E i).n, (E i).d⟩ else E i, fun j hj => ?_⟩
  have he := hE j hj
  by_cases e : j = wd
  · subst e
    simp only [if_pos]
    rw [updR_same]
    exact ⟨⟨World.cell?_setCell_same _ _ _ he.1.1, (hs _ _ (.inr (by omega))).trans he.1.2.1, (hs _ _ (.inr (by omega))).trans he.1.2.2⟩, ⟨rfl, he.2.c, he.2.n, he.2.z, .inl rfl⟩⟩
  · simp only [if_neg e]
    rw [updR_far _ _ _ _ e]
    exact ⟨⟨(hs _ _ (.inr (by omega))).trans he.1.1, (hs _ _ (.inr (by omega))).trans he.1.2.1, (hs _ _ (.inr (by omega))).trans he.1.2.2⟩, ⟨he.2.ok, he.2.c, he.2.n, he.2.z, .inl rfl⟩⟩
end Go.Proofs.Ytnmcgboafdglbaa

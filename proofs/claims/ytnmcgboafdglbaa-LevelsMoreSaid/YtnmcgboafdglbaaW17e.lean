/-
  Rows of ways in memory: as many rows as there may be levels, each of wd + 1 ways. No condition but those that stand in each.
-/
import Derived.Test.YtnmcgboafdglbaaW17d
set_option linter.unusedSimpArgs false
set_option linter.unusedVariables false
namespace Go.Proofs.Ytnmcgboafdglbaa
open Go Go.RowKit Go.Sort M

theorem infoY : (Try.prog.info? 41).map (fun i => (i.zero, i.size, i.bytes)) = some (some (.slice none 0 0), 1, 24) := by kernel_rfl
theorem infoW : (Try.prog.info? 40).map (fun i => (i.zero, i.size, i.bytes)) = some (some (.agg #[.int .i64 0, .int .i64 0, .bool false]), 3, 24) := by kernel_rfl
/-- A way at place j of block b. -/
def WcAt (w : World) (b j : Nat) (x : Wc) : Prop := w.cell? ⟨b, j * 3, none⟩ = some (.int .i64 (x.c : Int)) ∧ w.cell? ⟨b, j * 3 + 1, none⟩ = some (.int .i64 (x.f : Int)) ∧ w.cell? ⟨b, j * 3 + 2, none⟩ = some (.bool x.t)
theorem WcAt.below {w w' : World} {b j : Nat} {x : Wc} (h : WcAt w b j x) (hb : Below w.heap.size w w') (hl : b < w.heap.size) : WcAt w' b j x :=
  ⟨(hb.cell (p := ⟨b, j * 3, none⟩) hl).trans h.1, (hb.cell (p := ⟨b, j * 3 + 1, none⟩) hl).trans h.2.1, (hb.cell (p := ⟨b, j * 3 + 2, none⟩) hl).trans h.2.2⟩
/-- The rows: their heads at block g, the first r rows laid, in the blocks behind it. -/
structure Wys (w : World) (g r M wd : Nat) (F : Nat → Nat → Wc) : Prop where
  le : r ≤ M
  lt : g + r < w.heap.size
  hd : ∀ k, k < r → w.cell? ⟨g, k, none⟩ = some (.slice (some ⟨g + 1 + k, 0, none⟩) (wd + 1) (wd + 1))
  un : ∀ k, r ≤ k → k < M → w.cell? ⟨g, k, none⟩ = some (.slice none 0 0)
  c : ∀ k j, k < r → j ≤ wd → WcAt w (g + 1 + k) j (F k j)
  free : ∀ k j, k ≤ r → w.frozen? ⟨g + k, j, none⟩ = false
theorem Wys.below {w w' : World} {g r M wd : Nat} {F : Nat → Nat → Wc} (h : Wys w g r M wd F) (hb : Below w.heap.size w w') : Wys w' g r M wd F := by
  have hl := h.lt
  exact ⟨h.le, Nat.lt_of_lt_of_le h.lt hb.size, fun k hk => (hb.cell (p := ⟨g, k, none⟩) (by show g < _; omega)).trans (h.hd k hk), fun k h1 h2 => (hb.cell (p := ⟨g, k, none⟩) (by show g < _; omega)).trans (h.un k h1 h2),
    fun k j hk hj => (h.c k j hk hj).below hb (by omega), fun k j hk => (hb.frozen (p := ⟨g + k, j, none⟩) (by show g + k < _; omega)).trans (h.free k j hk)⟩
theorem Wys.row {w : World} {g r M wd : Nat} {F : Nat → Nat → Wc} (h : Wys w g r M wd F) {k : Nat} (hk : k < r) (lo : Nat) : WRow w (some ⟨g + 1 + k, 0, none⟩) lo wd (F k) := by
  have := h.lt
  exact ⟨g + 1 + k, rfl, by omega, fun j _ hj => h.c k j hk hj⟩
theorem Wys.row_eq {w : World} {g r M wd : Nat} {F : Nat → Nat → Wc} (h : Wys w g r M wd F) {k : Nat} (hk : k < r) (lo : Nat) {X : Nat → Wc} (hX : ∀ j, lo ≤ j → j ≤ wd → F k j = X j) : WRow w (some ⟨g + 1 + k, 0, none⟩) lo wd X := by
  have := h.lt
  exact ⟨g + 1 + k, rfl, by omega, fun j h1 hj => by rw [← hX j h1 hj]; exact h.c k j hk hj⟩
/-- A way is stored. -/
def setW (w : World) (b o : Nat) (x : Wc) : World := ((w.setCell ⟨b, o, none⟩ (.int .i64 (x.c : Int))).setCell ⟨b, o + 1, none⟩ (.int .i64 (x.f : Int))).setCell ⟨b, o + 2, none⟩ (.bool x.t)
theorem setW_far (w : World) (b o : Nat) (x : Wc) (g j : Nat) (h : g ≠ b ∨ j < o ∨ o + 2 < j) : (setW w b o x).cell? ⟨g, j, none⟩ = w.cell? ⟨g, j, none⟩ := by
  unfold setW
  rw [World.cell?_setCell_other _ _ _ _ (by rintro e; injection e with e1 e2; omega), World.cell?_setCell_other _ _ _ _ (by rintro e; injection e with e1 e2; omega), World.cell?_setCell_other _ _ _ _ (by rintro e; injection e with e1 e2; omega)]
theorem setW_size (w : World) (b o : Nat) (x : Wc) : (setW w b o x).heap.size = w.heap.size := by simp [setW]
theorem setW_free (w : World) (b o : Nat) (x : Wc) (a : Addr) : (setW w b o x).frozen? a = w.frozen? a := by simp [setW]
theorem setW_at {w : World} {b j : Nat} {y : Wc} (h : WcAt w b j y) (x : Wc) : WcAt (setW w b (j * 3) x) b j x := by
  have hne : ∀ (w : World) (o o' : Nat) (v : Value), o ≠ o' → (w.setCell ⟨b, o, none⟩ v).cell? ⟨b, o', none⟩ = w.cell? ⟨b, o', none⟩ := fun w o o' v h => World.cell?_setCell_other _ _ _ _ (by rintro e; injection e with e1 e2; omega)
  unfold setW
  refine ⟨?_, ?_, ?_⟩
  · rw [hne _ _ _ _ (by omega), hne _ _ _ _ (by omega)]
    exact World.cell?_setCell_same _ _ _ h.1
  · rw [hne _ _ _ _ (by omega)]
    exact World.cell?_setCell_same _ _ _ ((hne _ _ _ _ (by omega)).trans h.2.1)
  · exact World.cell?_setCell_same _ _ _ ((hne _ _ _ _ (by omega)).trans ((hne _ _ _ _ (by omega)).trans h.2.2))
def updW (F : Nat → Nat → Wc) (k j : Nat) (x : Wc) : Nat → Nat → Wc := fun k' j' => if k' = k ∧ j' = j then x else F k' j'
theorem updW_same (F : Nat → Nat → Wc) (k j : Nat) (x : Wc) : updW F k j x k j = x := if_pos ⟨rfl, rfl⟩
theorem updW_far (F : Nat → Nat → Wc) (k j : Nat) (x : Wc) (k' j' : Nat) (h : k' ≠ k ∨ j' ≠ j) : updW F k j x k' j' = F k' j' := if_neg (by omega)
theorem Wys.store {w : World} {g r M wd : Nat} {F : Nat → Nat → Wc} (h : Wys w g r M wd F) {k j : Nat} (hk : k < r) (hj : j ≤ wd) (x : Wc) : Wys (setW w (g + 1 + k) (j * 3) x) g r M wd (updW F k j x) := by
  refine ⟨h.le, by rw [setW_size]; exact h.lt, fun k' h1 => (setW_far _ _ _ _ _ _ (.inl (by omega))).trans (h.hd k' h1), fun k' h1 h2 => (setW_far _ _ _ _ _ _ (.inl (by omega))).trans (h.un k' h1 h2), fun k' j' h1 h2 => ?_, fun k' j' h1 => (setW_free _ _ _ _ _).trans (h.free k' j' h1)⟩
  by_cases e : k' = k ∧ j' = j
  · obtain ⟨rfl, rfl⟩ := e
    rw [updW_same]
    exact setW_at (h.c k' j' h1 h2) x
  · have e2 : k' ≠ k ∨ j' ≠ j := by omega
    rw [updW_far _ _ _ _ _ _ e2]
    have hc := h.c k' j' h1 h2
    exact ⟨(setW_far _ _ _ _ _ _ (by omega)).trans hc.1, (setW_far _ _ _ _ _ _ (by omega)).trans hc.2.1, (setW_far _ _ _ _ _ _ (by omega)).trans hc.2.2⟩
theorem Wys.store1 {w : World} {g r M wd : Nat} {F : Nat → Nat → Wc} (h : Wys w g r M wd F) {k j : Nat} (hk : k < r) (hj : j ≤ wd) (t : Bool) : Wys (w.setCell ⟨g + 1 + k, j * 3 + 2, none⟩ (.bool t)) g r M wd (updW F k j ⟨(F k j).c, (F k j).f, t⟩) := by
  have hs : ∀ b o, b ≠ g + 1 + k ∨ o ≠ j * 3 + 2 → (w.setCell ⟨g + 1 + k, j * 3 + 2, none⟩ (.bool t)).cell? ⟨b, o, none⟩ = w.cell? ⟨b, o, none⟩ := fun b o hb => World.cell?_setCell_other _ _ _ _ (by rintro e; injection e with e1 e2; omega)
  refine ⟨h.le, by rw [World.size_setCell]; exact h.lt, fun k' h1 => (hs _ _ (.inl (by omega))).trans (h.hd k' h1), fun k' h1 h2 => (hs _ _ (.inl (by omega))).trans (h.un k' h1 h2), fun k' j' h1 h2 => ?_, fun k' j' h1 => (World.frozen?_setCell _ _ _ _).trans (h.free k' j' h1)⟩
  have hc := h.c k' j' h1 h2
  by_cases e : k' = k ∧ j' = j
  · obtain ⟨rfl, rfl⟩ := e
    rw [updW_same]
    exact ⟨(hs _ _ (.inr (by omega))).trans hc.1, (hs _ _ (.inr (by omega))).trans hc.2.1, World.cell?_setCell_same _ _ _ hc.2.2⟩
  · have e2 : k' ≠ k ∨ j' ≠ j := by omega
    rw [updW_far _ _ _ _ _ _ e2]
    exact ⟨(hs _ _ (by omega)).trans hc.1, (hs _ _ (by omega)).trans hc.2.1, (hs _ _ (by omega)).trans hc.2.2⟩
/-- A row of zeros, as 'make' lays it. -/
theorem made_ways (w : World) (n : Nat) (t : TypeId) (j : Nat) (hj : j < n) : WcAt (w.alloc (.cells (madeCells #[.int .i64 0, .int .i64 0, .bool false] (n * 3)) t)) w.heap.size j ⟨0, 0, false⟩ := by
  have hn := new_cells w (madeCells #[.int .i64 0, .int .i64 0, .bool false] (n * 3)) t
  have ha : ∀ i, (⟨w.heap.size, 0, none⟩ : Addr).add i = ⟨w.heap.size, i, none⟩ := fun i => by unfold Addr.add; split <;> simp_all
  have hm : ∀ i, i < n * 3 → (madeCells #[.int .i64 0, .int .i64 0, .bool false] (n * 3)).toList[i]? = (#[.int .i64 0, .int .i64 0, .bool false] : Array Value)[i % 3]? := fun i hi => by
    unfold madeCells
    simp [hi]
    rcases (show i % 3 = 0 ∨ i % 3 = 1 ∨ i % 3 = 2 by omega) with e | e | e <;> rw [e] <;> rfl
  refine ⟨?_, ?_, ?_⟩
  · have := hn (j * 3) (.int .i64 0) (by rw [hm _ (by omega), show j * 3 % 3 = 0 by omega]; rfl)
    rwa [ha] at this
  · have := hn (j * 3 + 1) (.int .i64 0) (by rw [hm _ (by omega), show (j * 3 + 1) % 3 = 1 by omega]; rfl)
    rwa [ha] at this
  · have := hn (j * 3 + 2) (.bool false) (by rw [hm _ (by omega), show (j * 3 + 2) % 3 = 2 by omega]; rfl)
    rwa [ha] at this
/-- One row more is laid. -/
theorem Wys.laid {w : World} {g r M wd : Nat} {F : Nat → Nat → Wc} (h : Wys w g r M wd F) (hr : r < M) (hz : w.heap.size = g + 1 + r) (hF : ∀ j, F r j = ⟨0, 0, false⟩) (t : TypeId) :
    Wys ((w.alloc (.cells (madeCells #[.int .i64 0, .int .i64 0, .bool false] ((wd + 1) * 3)) t)).setCell ⟨g, r, none⟩ (.slice (some ⟨w.heap.size, 0, none⟩) (wd + 1) (wd + 1))) g (r + 1) M wd F := by
  have hal : ∀ b j, b < w.heap.size → (w.alloc (.cells (madeCells #[.int .i64 0, .int .i64 0, .bool false] ((wd + 1) * 3)) t)).cell? ⟨b, j, none⟩ = w.cell? ⟨b, j, none⟩ := fun b j hb => World.cell?_alloc_lt _ _ _ hb
  have hse : ∀ (W : World) b j v, b ≠ g ∨ j ≠ r → (W.setCell ⟨g, r, none⟩ v).cell? ⟨b, j, none⟩ = W.cell? ⟨b, j, none⟩ := fun W b j v hb => World.cell?_setCell_other _ _ _ _ (by rintro e; injection e with e1 e2; omega)
  refine ⟨hr, by simp; omega, fun k hk => ?_, fun k h1 h2 => ?_, fun k j hk hj => ?_, fun k j hk => ?_⟩
  · by_cases e : k = r
    · subst e
      rw [← hz]
      exact World.cell?_setCell_same _ _ _ ((hal g k (by omega)).trans (h.un k (Nat.le_refl _) hr))
    · rw [hse _ _ _ _ (.inr e), hal g k (by omega)]
      exact h.hd k (by omega)
  · rw [hse _ _ _ _ (.inr (by omega)), hal g k (by omega)]
    exact h.un k (by omega) h2
  · by_cases e : k = r
    · subst e
      rw [hF, ← hz]
      have := made_ways w (wd + 1) t j (by omega)
      exact ⟨(hse _ _ _ _ (.inl (by omega))).trans this.1, (hse _ _ _ _ (.inl (by omega))).trans this.2.1, (hse _ _ _ _ (.inl (by omega))).trans this.2.2⟩
    · have := h.c k j (by omega) hj
      exact ⟨((hse _ _ _ _ (.inl (by omega))).trans (hal _ _ (by omega))).trans this.1, ((hse _ _ _ _ (.inl (by omega))).trans (hal _ _ (by omega))).trans this.2.1, ((hse _ _ _ _ (.inl (by omega))).trans (hal _ _ (by omega))).trans this.2.2⟩
  · rw [World.frozen?_setCell]
    by_cases e : k = r + 1
    · subst e
      rw [show g + (r + 1) = w.heap.size by omega]
      simp [go_sem]
    · exact (grown_far (World.grownBy_alloc w _ none) (show g + k < _ by omega) (by simp) j).2.trans (h.free k j (by omega))
/-- The heads alone, as 'make' lays them. -/
theorem Wys.start (w : World) (M wd : Nat) (F : Nat → Nat → Wc) (t : TypeId) : Wys (w.alloc (.cells (madeCells #[.slice none 0 0] M) t)) w.heap.size 0 M wd F := by
  refine ⟨Nat.zero_le _, by simp, fun k hk => by omega, fun k _ hk => ?_, fun k j hk => by omega, fun k j hk => ?_⟩
  · have := new_cells w (madeCells #[.slice none 0 0] M) t k (.slice none 0 0) (by rw [toList_madeCells_one]; simp [hk])
    rwa [show (⟨w.heap.size, 0, none⟩ : Addr).add k = ⟨w.heap.size, k, none⟩ by unfold Addr.add; split <;> simp_all] at this
  · obtain rfl : k = 0 := by omega
    simp [go_sem]
end Go.Proofs.Ytnmcgboafdglbaa

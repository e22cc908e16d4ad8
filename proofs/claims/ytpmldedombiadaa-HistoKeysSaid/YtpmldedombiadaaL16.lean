/-
  flocculuslaw16's alive and HistoMore as walks: they hand back true, for every input. No condition but that a row's length is at most its capacity.
-/
import Derived.Test.YtpmldedombiadaaW16b
import Derived.Test.YtpmldedombiadaaW16c
import Derived.Test.YtpmldedombiadaaRow
import Derived.Maps.AppendAt
set_option linter.unusedSimpArgs false
set_option linter.unusedVariables false
namespace Go.Proofs.Ytpmldedombiadaa
open Go Go.RowKit Go.Sort M

theorem own_cap {w : World} {B n k c : Nat} {e : TypeId} {p : Option Addr} {xs : List Value} (h : w.ownsRow B e k (.slice p n c) n xs) : n ≤ c := by
  rcases h.2 with ⟨e, h0⟩ | ⟨g, cap, cur, e, -, -, h1, -⟩
  · omega
  · injection e with e1 e2 e3
    omega
set_option maxHeartbeats 1000000 in
set_option maxRecDepth 100000 in
theorem alive16_any (w : World) : Calls Try.prog 5 #[] w fun e w' => e = .returned (.bool true) ∧ Below w.heap.size w w' := by
  have h0 : costK [] [] 0 = some 0 := by decide +kernel
  have h1 := cost_any none none 0 0 [] [] 0 w (.inl rfl) (.inl rfl) (Nat.le_refl _) (by simp) (by simp)
  rw [h0] at h1
  have H1 : Hid (Calls Try.prog 7 #[.slice none 0 0, .slice none 0 0, .int .i64 0] w fun e w' => e = .returned (.tuple #[.int .i64 0, .bool true]) ∧ Below w.heap.size w w') := Lib.hid h1
  have h2 : ∀ W : World, Calls Try.prog 8 #[.slice (some ⟨W.heap.size, 0, none⟩) 1 1] (W.alloc (.cells #[.int .u64 0, .int .u64 0, .int .i64 7, .int .i64 0] 31)) fun e w' => ∃ q d, e = .returned (.slice q 129 d) ∧ 129 ≤ d ∧ w'.ownsRow W.heap.size 3 1 (.slice q 129 d) 129 (ics (cntR [⟨⟨0, 0, 7⟩, 0⟩])) ∧ Below W.heap.size W w' := by
    intro W
    have hr0 : Row (W.alloc (.cells #[.int .u64 0, .int .u64 0, .int .i64 7, .int .i64 0] 31)) (some ⟨W.heap.size, 0, none⟩) (rcs [⟨⟨0, 0, 7⟩, 0⟩]) := by
      refine .inr ⟨W.heap.size, 0, rfl, by simp, fun j u hu => ?_⟩
      rw [rcs_one] at hu
      have := four_new (w := W.alloc (.cells #[.int .u64 0, .int .u64 0, .int .i64 7, .int .i64 0] 31)) (g := W.heap.size) (a := .int .u64 0) (b := .int .u64 0) (c := .int .i64 7) (d := .int .i64 0) (by simp [go_sem]) (by simp [go_sem]) (by simp [go_sem]) (by simp [go_sem]) j u hu
      rwa [show (⟨W.heap.size, 0, none⟩ : Addr).add j = ⟨W.heap.size, 0 + j, none⟩ by unfold Addr.add; split <;> simp_all] at this
    refine (cntr_any (some ⟨W.heap.size, 0, none⟩) 1 [⟨⟨0, 0, 7⟩, 0⟩] _ hr0 (by simp)).mono ?_
    rintro e w' ⟨q, d, rfl, hd, ho, hb⟩
    exact ⟨q, d, rfl, hd, own_le ho (by simp), Below.trans (by go_grown) (hb.mono (by simp))⟩
  have H2 := Lib.hid h2
  have hc : (cntR [⟨⟨0, 0, 7⟩, 0⟩])[7]'(by rw [cntR_len]; omega) = 1 := by rw [cntR_at]; decide +kernel
  have HC := Lib.hid hc
  clear h0 h1 h2 hc
  go_enter Try.func5, Try.ntmps5
  go_wp2_with fail
  refine H1.out.mono ?_
  rintro e w1 ⟨rfl, hb1⟩
  clear H1
  go_wp2_with fail
  refine (H2.out _).mono ?_
  rintro e w2 ⟨q, d, rfl, hd, ho, hb2⟩
  have hw2 := hb1.trans (hb2.mono hb1.size)
  have x7 := (IRow.of_own (L := cntR [⟨⟨0, 0, 7⟩, 0⟩]) ho).at (k := 7) (by rw [cntR_len]; omega)
  rw [HC.out] at x7
  obtain ⟨g, o, rfl, hg, x7⟩ := x7
  clear ho hb2
  go_wp2
  go_ret
  exact ⟨rfl, hw2⟩
end Go.Proofs.Ytpmldedombiadaa

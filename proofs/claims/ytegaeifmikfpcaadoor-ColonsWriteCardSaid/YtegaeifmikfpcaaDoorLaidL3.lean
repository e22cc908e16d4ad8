/-
  What the listed variables of the library, and the world's shape, give the walks of chapter 3. No condition but the row's own.
-/
import Derived.Test.YtegaeifmikfpcaaDoorW3
import Derived.Test.YtegaeifmikfpcaaDoorRows
import Derived.Test.YtegaeifmikfpcaaDoorLaidL
import Derived.Shelf.Vars
set_option linter.unusedSimpArgs false
set_option linter.unusedVariables false
namespace Go.Proofs.YtegaeifmikfpcaaDoor
open Go Go.RowKit

theorem lt_of_cell {w : World} {g o : Nat} {v : Value} (h : w.cell? ⟨g, o, none⟩ = some v) : g < w.heap.size := by
  refine Nat.lt_of_not_le fun hle => ?_
  have e : w.heap[g]? = none := Array.getElem?_eq_none hle
  simp [World.cell?, e] at h
theorem most_of {W : World} (h : W.ShapedOpen Tryd.prog) : ∃ m, W.cell? ⟨0, 0, none⟩ = some (.int .i64 m) :=
  Go.Proofs.cell_of_shapedOpen_int (zero := #[.int .i64 0]) (t := 3) h (of_decide_eq_true (by kernel_rfl)) (by kernel_rfl) rfl (by kernel_rfl) (by kernel_rfl) Tryd.underlying3
theorem err_star : "*" ++ "errors.errorString" = "*errors.errorString" := by decide
theorem row_err (u : TypeId) (h : Tryd.prog.typeName? 3 u = some "*errors.errorString") : u = 111 :=
  typeName_ptr_named (nm := "errors.errorString") (by rw [err_star]; kernel_rfl) (by kernel_rfl) (by decide) u (by rw [err_star]; exact h)
theorem sent_of {W : World} {n : String} {text : List UInt8} {r : List (String × DataW Unit)} {g : Nat} (h : laidMet Tryd.prog ((n, .iface "*errors.errorString" (.ptr (.agg [.lit (.string text)]))) :: r) W) (hg : Tryd.prog.globalNamed n = some g)
    (ht : (Tryd.prog.globals[g]?).map (·.type) = some 68) : ∃ te pe, W.cell? ⟨g, 0, none⟩ = some (.iface te pe) := by
  obtain ⟨a, s, hv, -, -, -⟩ := Go.laid_sentinel h hg ht Tryd.underlying68 row_err Tryd.underlying111 Tryd.underlying113 rfl rfl Tryd.underlying9 (by kernel_rfl) (by kernel_rfl)
  exact ⟨_, _, by simpa using World.var?_cell hg hv 0⟩
theorem kit_of {W : World} (h : laidMetH Tryd.prog [("math/bits.deBruijn32tab", Rows.laid_math_bits_deBruijn32tab), ("math/bits.deBruijn64tab", Rows.laid_math_bits_deBruijn64tab), ("internal/strconv.uint64pow10", Rows.laid_internal_strconv_uint64pow10), ("strconv.ErrRange", Rows.laid_strconv_ErrRange), ("strconv.ErrSyntax", Rows.laid_strconv_ErrSyntax)] W)
    (hs : W.ShapedOpen Tryd.prog) : Kit W.heap.size W := by
  rw [MakeChecks.laidMetH_plain _ _ _ (by kernel_rfl)] at h
  have h64 := laidMet.tail h
  have h10 := laidMet.tail h64
  have hR := laidMet.tail h10
  have hS := laidMet.tail hR
  have t64 := Lib.tabIs_of_head (g := 5) (t := 116) (e := 5) (n := 64) (k := .u8) (zs := [0, 1, 56, 2, 57, 49, 28, 3, 61, 58, 42, 50, 38, 29, 17, 4, 62, 47, 59, 36, 45, 43, 51, 22, 53, 39, 33, 30, 24, 18, 12, 5, 63, 55, 48, 27, 60, 41, 37, 16, 46, 35, 44, 21, 52, 32, 23, 11, 54, 26, 40, 15, 34, 20, 31, 10, 25, 14, 19, 9, 13, 8, 7, 6]) (by kernel_rfl) (by kernel_rfl) Tryd.underlying116 Tryd.underlying5 (by kernel_rfl) (by kernel_rfl) h64
  have c64 : W.cell? ⟨5, 15, none⟩ = some (.int .u8 4) := by
    have := World.var?_cell (by kernel_rfl : Tryd.prog.globalNamed "math/bits.deBruijn64tab" = some 5) t64 15
    simpa using this
  obtain ⟨m, cm⟩ := most_of hs
  obtain ⟨te, pe, cr⟩ := sent_of hR (by kernel_rfl : Tryd.prog.globalNamed "strconv.ErrRange" = some 2) (by kernel_rfl)
  obtain ⟨te2, pe2, cs⟩ := sent_of hS (by kernel_rfl : Tryd.prog.globalNamed "strconv.ErrSyntax" = some 1) (by kernel_rfl)
  refine ⟨?_, fun w' hb => ⟨m, (hb.cell (p := ⟨_, _, none⟩) (lt_of_cell cm)).trans cm⟩, fun w' hb => (hb.cell (p := ⟨_, _, none⟩) (lt_of_cell c64)).trans c64, fun w' hb => ⟨te2, pe2, (hb.cell (p := ⟨_, _, none⟩) (lt_of_cell cs)).trans cs⟩, fun w' hb => ⟨te, pe, (hb.cell (p := ⟨_, _, none⟩) (lt_of_cell cr)).trans cr⟩⟩
  exact Lib.tabBelow_of_tabIs (Lib.tabIs_of_head (g := 3) (t := 105) (e := 22) (n := 20) (by kernel_rfl) (by kernel_rfl) Tryd.underlying105 Tryd.underlying22 (by kernel_rfl) (by kernel_rfl) h10)
end Go.Proofs.YtegaeifmikfpcaaDoor

/-
  What the listed tables of the library give the walks. No condition but the row's own.
-/
import Derived.Test.YtegaeifmikfpcaaDoorW2c
import Derived.Test.YtegaeifmikfpcaaDoorRows
import Derived.Lib.LaidTab
import Derived.Stop.LaidErr
import Derived.LaidMore
import Derived.MakeChecks
set_option linter.unusedSimpArgs false
set_option linter.unusedVariables false
namespace Go.Proofs.YtegaeifmikfpcaaDoor
open Go

theorem tens_at {W : World} (h : laidMet Tryd.prog [("internal/strconv.uint64pow10", Rows.laid_internal_strconv_uint64pow10)] W) : Tens W.heap.size W :=
  Lib.tabBelow_of_tabIs (Lib.tabIs_of_head (g := 3) (t := 105) (e := 22) (n := 20) (by kernel_rfl) (by kernel_rfl) Tryd.underlying105 Tryd.underlying22 (by kernel_rfl) (by kernel_rfl) h)
theorem tens_of {W : World} {a b : String × DataW Unit}
    (h : laidMetH Tryd.prog [a, b, ("internal/strconv.uint64pow10", Rows.laid_internal_strconv_uint64pow10)] W) (hab : ([a, b, ("internal/strconv.uint64pow10", Rows.laid_internal_strconv_uint64pow10)].all fun x => x.2.handleName?.isNone) = true := by kernel_rfl) : Tens W.heap.size W := by
  rw [MakeChecks.laidMetH_plain _ _ _ hab] at h
  exact tens_at (laidMet.tail (laidMet.tail h))
end Go.Proofs.YtegaeifmikfpcaaDoor

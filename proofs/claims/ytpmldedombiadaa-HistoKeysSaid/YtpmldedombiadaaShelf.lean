/-
  What the library's functions hand back, by the shelf's own theorems at this program's numbers. No condition but those that stand in each.
-/
import Derived.Test.YtpmldedombiadaaProg
namespace Go.Proofs.Ytpmldedombiadaa
theorem no_shelf : True := trivial
end Go.Proofs.Ytpmldedombiadaa

/-
  No cell of these rows narrows 'for every input' (looked for: loops, veiled, ifaces, maps, wideKeys, modest, calm, conditions, laid).
  DERIVED. THE GIVEN ROWS OF THIS SEAT. 4 by the template 'for every input the law returns true; each argument reads behind the call as it read before'; 0 by the template 'total and deterministic' (their statements: YtnmcgboafdglbaaTotals.lean).
  GIVEN WITH THE SEED: the statements are not yours to turn. If you find one false, say at which input.
  Laid BY PROGRAM, IN A SANDBOX (cutbox-rows.mjs): the forced cells as the released guide's own fill.sh prints them over the translation 8fd16f1054411d28… (all of the seat's roots in one cut). By AI agents, Wed Nov 11 2026. No macro, syntax, notation, axiom, sorry.
-/
import Derived.Test.YtnmcgboafdglbaaChecked
import GoSem.Claim
import GoSem.ClaimJoined
import GoSem.ClaimMapViews
import Derived.JoinedTies
import Derived.KernelRfl
namespace Go.Proofs.Ytnmcgboafdglbaa
/- THE CELL 'sum', in the pinned program and in every row, IS THE sha256 OF THE DUMP (.gsa) THAT YtnmcgboafdglbaaProg.lean LOADS. Nothing in Lean hashes anything: it is a label: what it is worth is what the hold of that sum in a sandbox is worth. -/
noncomputable def Try.pinned : Pinned := { name := "ytnmcgboafdglbaa", sum := "8fd16f1054411d2825569af8c86f877ecaf8f44e9d7cf009ff5dae38c6cd216a", checked := Try.checked }
namespace Rows
def none {H : Type} : Left H := { results := [], args := [] }

/-- 'flocculuslaw17.LevelsTell': WHATEVER THE INPUT: true; the input reads as it did. -/
def levelsTellSpec : ChangeSpec := { name := "levelsTell", fn := fun _ => fun
  | [d1, d2, d3, d4, d5, d6] => { results := [.lit (.bool true)], args := [d1, d2, d3, d4, d5, d6] }
  | _ => none }
def levelsTellRow : OpenClaim := { program := "ytnmcgboafdglbaa", sum := "8fd16f1054411d2825569af8c86f877ecaf8f44e9d7cf009ff5dae38c6cd216a", func := "flocculus/flocculuslaw17.LevelsTell", spec := "levelsTell", apart := false }
def LevelsTellSaid : Prop := levelsTellRow.holds Try.pinned (OpenSpec.ofChange levelsTellSpec)

/-- ITS FALSE NEIGHBOUR: 'it returns false'. Refute it at one input. -/
def levelsTellWrong : ChangeSpec := { name := "levelsTell", fn := fun _ => fun
  | [d1, d2, d3, d4, d5, d6] => { results := [.lit (.bool false)], args := [d1, d2, d3, d4, d5, d6] }
  | _ => none }
def LevelsTellWrongFalsely : Prop := levelsTellRow.holds Try.pinned (OpenSpec.ofChange levelsTellWrong)

/-- 'flocculuslaw17.LevelsLeast': WHATEVER THE INPUT: true; the input reads as it did. -/
def levelsLeastSpec : ChangeSpec := { name := "levelsLeast", fn := fun _ => fun
  | [d1, d2, d3, d4, d5, d6] => { results := [.lit (.bool true)], args := [d1, d2, d3, d4, d5, d6] }
  | _ => none }
def levelsLeastRow : OpenClaim := { program := "ytnmcgboafdglbaa", sum := "8fd16f1054411d2825569af8c86f877ecaf8f44e9d7cf009ff5dae38c6cd216a", func := "flocculus/flocculuslaw17.LevelsLeast", spec := "levelsLeast", apart := false }
def LevelsLeastSaid : Prop := levelsLeastRow.holds Try.pinned (OpenSpec.ofChange levelsLeastSpec)

/-- ITS FALSE NEIGHBOUR: 'it returns false'. Refute it at one input. -/
def levelsLeastWrong : ChangeSpec := { name := "levelsLeast", fn := fun _ => fun
  | [d1, d2, d3, d4, d5, d6] => { results := [.lit (.bool false)], args := [d1, d2, d3, d4, d5, d6] }
  | _ => none }
def LevelsLeastWrongFalsely : Prop := levelsLeastRow.holds Try.pinned (OpenSpec.ofChange levelsLeastWrong)

/-- 'flocculuslaw17.LevelsOne': WHATEVER THE INPUT: true; the input reads as it did. -/
def levelsOneSpec : ChangeSpec := { name := "levelsOne", fn := fun _ => fun
  | [d1, d2, d3, d4, d5, d6] => { results := [.lit (.bool true)], args := [d1, d2, d3, d4, d5, d6] }
  | _ => none }
def levelsOneRow : OpenClaim := { program := "ytnmcgboafdglbaa", sum := "8fd16f1054411d2825569af8c86f877ecaf8f44e9d7cf009ff5dae38c6cd216a", func := "flocculus/flocculuslaw17.LevelsOne", spec := "levelsOne", apart := false }
def LevelsOneSaid : Prop := levelsOneRow.holds Try.pinned (OpenSpec.ofChange levelsOneSpec)

/-- ITS FALSE NEIGHBOUR: 'it returns false'. Refute it at one input. -/
def levelsOneWrong : ChangeSpec := { name := "levelsOne", fn := fun _ => fun
  | [d1, d2, d3, d4, d5, d6] => { results := [.lit (.bool false)], args := [d1, d2, d3, d4, d5, d6] }
  | _ => none }
def LevelsOneWrongFalsely : Prop := levelsOneRow.holds Try.pinned (OpenSpec.ofChange levelsOneWrong)

/-- 'flocculuslaw17.LevelsMore': WHATEVER THE INPUT: true; the input reads as it did. -/
def levelsMoreSpec : ChangeSpec := { name := "levelsMore", fn := fun _ => fun
  | [d1, d2, d3, d4, d5] => { results := [.lit (.bool true)], args := [d1, d2, d3, d4, d5] }
  | _ => none }
def levelsMoreRow : OpenClaim := { program := "ytnmcgboafdglbaa", sum := "8fd16f1054411d2825569af8c86f877ecaf8f44e9d7cf009ff5dae38c6cd216a", func := "flocculus/flocculuslaw17.LevelsMore", spec := "levelsMore", apart := false }
def LevelsMoreSaid : Prop := levelsMoreRow.holds Try.pinned (OpenSpec.ofChange levelsMoreSpec)

/-- ITS FALSE NEIGHBOUR: 'it returns false'. Refute it at one input. -/
def levelsMoreWrong : ChangeSpec := { name := "levelsMore", fn := fun _ => fun
  | [d1, d2, d3, d4, d5] => { results := [.lit (.bool false)], args := [d1, d2, d3, d4, d5] }
  | _ => none }
def LevelsMoreWrongFalsely : Prop := levelsMoreRow.holds Try.pinned (OpenSpec.ofChange levelsMoreWrong)

/- THE SECOND FORM. 'bulk': how many values and letters a reading holds, each counted each time it is reached (what is shared counts as often as it is met; a slice's spare places count too). A statement '..UptoSaid' is the law's where the arguments, and the package variables that the reading takes, are together of bulk at most 1048576: NARROWER than '..Said'. Prove '..Said' where nothing that the law and all that it calls make is longer than what came in: it says more and counts as full. Else prove '..UptoSaid'. A law counts once. -/
mutual
def uptoBulk {H : Type} : DataW H → Nat
  | .lit (.string bytes) => bytes.length + 1
  | .lit _ => 1
  | .nil => 1
  | .ptr d => uptoBulk d + 1
  | .slice elems spare => uptoBulkAll elems + uptoBulkAll spare + 1
  | .agg parts => uptoBulkAll parts + 1
  | .iface _ d => uptoBulk d + 1
  | .map entries => uptoBulkEntries entries + 1
  | .held _ => 1
def uptoBulkAll {H : Type} : List (DataW H) → Nat
  | [] => 0
  | d :: r => uptoBulk d + uptoBulkAll r
def uptoBulkEntries {H : Type} : List (Lit × DataW H) → Nat
  | [] => 0
  | x :: r => uptoBulkEntry x + uptoBulkEntries r
def uptoBulkEntry {H : Type} : Lit × DataW H → Nat
  | (.string bytes, d) => bytes.length + uptoBulk d + 1
  | (_, d) => uptoBulk d + 1
 end
def uptoSmall : (H : Type) → List (DataW H) → Bool := fun _ ds => decide (uptoBulkAll ds ≤ 1048576)
def OpenSpec.upto (s : _root_.Go.ChangeSpec) : _root_.Go.OpenSpec := { _root_.Go.OpenSpec.ofChange s with cond := some uptoSmall }

/-- 'flocculuslaw17.LevelsTell', WHERE WHAT IT READS IS OF BULK AT MOST 1048576: true; the input reads as it did. -/
def levelsTellUptoRow : OpenClaim := { program := "ytnmcgboafdglbaa", sum := "8fd16f1054411d2825569af8c86f877ecaf8f44e9d7cf009ff5dae38c6cd216a", func := "flocculus/flocculuslaw17.LevelsTell", spec := "levelsTell", apart := false, narrowed := true }
def LevelsTellUptoSaid : Prop := levelsTellUptoRow.holds Try.pinned (OpenSpec.upto levelsTellSpec)

/-- 'flocculuslaw17.LevelsLeast', WHERE WHAT IT READS IS OF BULK AT MOST 1048576: true; the input reads as it did. -/
def levelsLeastUptoRow : OpenClaim := { program := "ytnmcgboafdglbaa", sum := "8fd16f1054411d2825569af8c86f877ecaf8f44e9d7cf009ff5dae38c6cd216a", func := "flocculus/flocculuslaw17.LevelsLeast", spec := "levelsLeast", apart := false, narrowed := true }
def LevelsLeastUptoSaid : Prop := levelsLeastUptoRow.holds Try.pinned (OpenSpec.upto levelsLeastSpec)

/-- 'flocculuslaw17.LevelsOne', WHERE WHAT IT READS IS OF BULK AT MOST 1048576: true; the input reads as it did. -/
def levelsOneUptoRow : OpenClaim := { program := "ytnmcgboafdglbaa", sum := "8fd16f1054411d2825569af8c86f877ecaf8f44e9d7cf009ff5dae38c6cd216a", func := "flocculus/flocculuslaw17.LevelsOne", spec := "levelsOne", apart := false, narrowed := true }
def LevelsOneUptoSaid : Prop := levelsOneUptoRow.holds Try.pinned (OpenSpec.upto levelsOneSpec)

/-- 'flocculuslaw17.LevelsMore', WHERE WHAT IT READS IS OF BULK AT MOST 1048576: true; the input reads as it did. -/
def levelsMoreUptoRow : OpenClaim := { program := "ytnmcgboafdglbaa", sum := "8fd16f1054411d2825569af8c86f877ecaf8f44e9d7cf009ff5dae38c6cd216a", func := "flocculus/flocculuslaw17.LevelsMore", spec := "levelsMore", apart := false, narrowed := true }
def LevelsMoreUptoSaid : Prop := levelsMoreUptoRow.holds Try.pinned (OpenSpec.upto levelsMoreSpec)

end Rows
end Go.Proofs.Ytnmcgboafdglbaa

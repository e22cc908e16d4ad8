/-
  No cell of these rows narrows 'for every input' (looked for: loops, veiled, ifaces, maps, wideKeys, modest, calm, conditions, laid).
  DERIVED. THE GIVEN ROWS OF THIS SEAT. 4 by the template 'for every input the law returns true; each argument reads behind the call as it read before'; 0 by the template 'total and deterministic' (their statements: YtlglppfkpieabaaTotals.lean).
  GIVEN WITH THE SEED: the statements are not yours to turn. If you find one false, say at which input.
  Laid BY PROGRAM, IN A SANDBOX (cutbox-rows.mjs): the forced cells as the released guide's own fill.sh prints them over the translation 2800bbd39a9eae8d… (all of the seat's roots in one cut). By AI agents, Wed Nov 11 2026. No macro, syntax, notation, axiom, sorry.
-/
import Derived.Test.YtlglppfkpieabaaChecked
import GoSem.Claim
import GoSem.ClaimJoined
import GoSem.ClaimMapViews
import Derived.JoinedTies
import Derived.KernelRfl
namespace Go.Proofs.Ytlglppfkpieabaa
/- THE CELL 'sum', in the pinned program and in every row, IS THE sha256 OF THE DUMP (.gsa) THAT YtlglppfkpieabaaProg.lean LOADS. Nothing in Lean hashes anything: it is a label: what it is worth is what the hold of that sum in a sandbox is worth. -/
noncomputable def Try.pinned : Pinned := { name := "ytlglppfkpieabaa", sum := "2800bbd39a9eae8decf9c5143209827cca542a0a127e47b28eaa8d08e465c51a", checked := Try.checked }
namespace Rows
def none {H : Type} : Left H := { results := [], args := [] }

/-- 'flocculuslaw12.CuckooPlays': WHATEVER THE INPUT: true; the input reads as it did. -/
def cuckooPlaysSpec : ChangeSpec := { name := "cuckooPlays", fn := fun _ => fun
  | [d1, d2, d3, d4] => { results := [.lit (.bool true)], args := [d1, d2, d3, d4] }
  | _ => none }
def cuckooPlaysRow : OpenClaim := { program := "ytlglppfkpieabaa", sum := "2800bbd39a9eae8decf9c5143209827cca542a0a127e47b28eaa8d08e465c51a", func := "flocculus/flocculuslaw12.CuckooPlays", spec := "cuckooPlays", inPlace := ["slices.overlaps[flocculus/api.Route]", "internal/reflectlite.ValueOf", "internal/reflectlite.Swapper", "(internal/reflectlite.Value).Len"], unfollowed := true, recurses := true, apart := false }
def CuckooPlaysSaid : Prop := cuckooPlaysRow.holds Try.pinned (OpenSpec.ofChange cuckooPlaysSpec)

/-- ITS FALSE NEIGHBOUR: 'it returns false'. Refute it at one input. -/
def cuckooPlaysWrong : ChangeSpec := { name := "cuckooPlays", fn := fun _ => fun
  | [d1, d2, d3, d4] => { results := [.lit (.bool false)], args := [d1, d2, d3, d4] }
  | _ => none }
def CuckooPlaysWrongFalsely : Prop := cuckooPlaysRow.holds Try.pinned (OpenSpec.ofChange cuckooPlaysWrong)

/-- 'flocculuslaw12.CuckooKeeps': WHATEVER THE INPUT: true; the input reads as it did. -/
def cuckooKeepsSpec : ChangeSpec := { name := "cuckooKeeps", fn := fun _ => fun
  | [d1, d2, d3] => { results := [.lit (.bool true)], args := [d1, d2, d3] }
  | _ => none }
def cuckooKeepsRow : OpenClaim := { program := "ytlglppfkpieabaa", sum := "2800bbd39a9eae8decf9c5143209827cca542a0a127e47b28eaa8d08e465c51a", func := "flocculus/flocculuslaw12.CuckooKeeps", spec := "cuckooKeeps", inPlace := ["slices.overlaps[flocculus/api.Route]", "internal/reflectlite.ValueOf", "internal/reflectlite.Swapper", "(internal/reflectlite.Value).Len"], unfollowed := true, recurses := true, apart := false }
def CuckooKeepsSaid : Prop := cuckooKeepsRow.holds Try.pinned (OpenSpec.ofChange cuckooKeepsSpec)

/-- ITS FALSE NEIGHBOUR: 'it returns false'. Refute it at one input. -/
def cuckooKeepsWrong : ChangeSpec := { name := "cuckooKeeps", fn := fun _ => fun
  | [d1, d2, d3] => { results := [.lit (.bool false)], args := [d1, d2, d3] }
  | _ => none }
def CuckooKeepsWrongFalsely : Prop := cuckooKeepsRow.holds Try.pinned (OpenSpec.ofChange cuckooKeepsWrong)

/-- 'flocculuslaw12.CuckooGrows': WHATEVER THE INPUT: true; the input reads as it did. -/
def cuckooGrowsSpec : ChangeSpec := { name := "cuckooGrows", fn := fun _ => fun
  | [d1, d2] => { results := [.lit (.bool true)], args := [d1, d2] }
  | _ => none }
def cuckooGrowsRow : OpenClaim := { program := "ytlglppfkpieabaa", sum := "2800bbd39a9eae8decf9c5143209827cca542a0a127e47b28eaa8d08e465c51a", func := "flocculus/flocculuslaw12.CuckooGrows", spec := "cuckooGrows", inPlace := ["slices.overlaps[flocculus/api.Route]"], unfollowed := true, recurses := true, apart := false }
def CuckooGrowsSaid : Prop := cuckooGrowsRow.holds Try.pinned (OpenSpec.ofChange cuckooGrowsSpec)

/-- ITS FALSE NEIGHBOUR: 'it returns false'. Refute it at one input. -/
def cuckooGrowsWrong : ChangeSpec := { name := "cuckooGrows", fn := fun _ => fun
  | [d1, d2] => { results := [.lit (.bool false)], args := [d1, d2] }
  | _ => none }
def CuckooGrowsWrongFalsely : Prop := cuckooGrowsRow.holds Try.pinned (OpenSpec.ofChange cuckooGrowsWrong)

/-- 'flocculuslaw12.CuckooReplaces': WHATEVER THE INPUT: true; the input reads as it did. -/
def cuckooReplacesSpec : ChangeSpec := { name := "cuckooReplaces", fn := fun _ => fun
  | [d1, d2, d3, d4] => { results := [.lit (.bool true)], args := [d1, d2, d3, d4] }
  | _ => none }
def cuckooReplacesRow : OpenClaim := { program := "ytlglppfkpieabaa", sum := "2800bbd39a9eae8decf9c5143209827cca542a0a127e47b28eaa8d08e465c51a", func := "flocculus/flocculuslaw12.CuckooReplaces", spec := "cuckooReplaces", inPlace := ["slices.overlaps[flocculus/api.Route]"], unfollowed := true, recurses := true, apart := false }
def CuckooReplacesSaid : Prop := cuckooReplacesRow.holds Try.pinned (OpenSpec.ofChange cuckooReplacesSpec)

/-- ITS FALSE NEIGHBOUR: 'it returns false'. Refute it at one input. -/
def cuckooReplacesWrong : ChangeSpec := { name := "cuckooReplaces", fn := fun _ => fun
  | [d1, d2, d3, d4] => { results := [.lit (.bool false)], args := [d1, d2, d3, d4] }
  | _ => none }
def CuckooReplacesWrongFalsely : Prop := cuckooReplacesRow.holds Try.pinned (OpenSpec.ofChange cuckooReplacesWrong)

/- THE SECOND FORM. 'bulk': how many values and letters a reading holds, each counted each time it is reached (what is shared counts as often as it is met; a slice's spare places count too). A statement '..UptoSaid' is the law's where the arguments, and the package variables that the reading takes, are together of bulk at most 1048576: NARROWER than '..Said'. Prove '..Said' where nothing that the law and all that it calls make is longer than what came in: it says more and counts as full. Else prove '..UptoSaid'. A law counts once. -/
mutual
def uptoBulk {H : Type} : DataW H → Nat
  | .lit (.string bytes) => bytes.length + 1
  | .lit _ => 1
  | .nil => 1
  | .ptr d => uptoBulk d + 1
  | .slice elems spare => uptoBulkAll elems + uptoBulkAll spare + 1
  | .agg parts => uptoBulkAll parts + 1
  | .iface _ d => uptoBulk d + 1
  | .map entries => uptoBulkEntries entries + 1
  | .held _ => 1
def uptoBulkAll {H : Type} : List (DataW H) → Nat
  | [] => 0
  | d :: r => uptoBulk d + uptoBulkAll r
def uptoBulkEntries {H : Type} : List (Lit × DataW H) → Nat
  | [] => 0
  | x :: r => uptoBulkEntry x + uptoBulkEntries r
def uptoBulkEntry {H : Type} : Lit × DataW H → Nat
  | (.string bytes, d) => bytes.length + uptoBulk d + 1
  | (_, d) => uptoBulk d + 1
 end
def uptoSmall : (H : Type) → List (DataW H) → Bool := fun _ ds => decide (uptoBulkAll ds ≤ 1048576)
def OpenSpec.upto (s : _root_.Go.ChangeSpec) : _root_.Go.OpenSpec := { _root_.Go.OpenSpec.ofChange s with cond := some uptoSmall }

/-- 'flocculuslaw12.CuckooPlays', WHERE WHAT IT READS IS OF BULK AT MOST 1048576: true; the input reads as it did. -/
def cuckooPlaysUptoRow : OpenClaim := { program := "ytlglppfkpieabaa", sum := "2800bbd39a9eae8decf9c5143209827cca542a0a127e47b28eaa8d08e465c51a", func := "flocculus/flocculuslaw12.CuckooPlays", spec := "cuckooPlays", inPlace := ["slices.overlaps[flocculus/api.Route]", "internal/reflectlite.ValueOf", "internal/reflectlite.Swapper", "(internal/reflectlite.Value).Len"], unfollowed := true, recurses := true, apart := false, narrowed := true }
def CuckooPlaysUptoSaid : Prop := cuckooPlaysUptoRow.holds Try.pinned (OpenSpec.upto cuckooPlaysSpec)

/-- 'flocculuslaw12.CuckooKeeps', WHERE WHAT IT READS IS OF BULK AT MOST 1048576: true; the input reads as it did. -/
def cuckooKeepsUptoRow : OpenClaim := { program := "ytlglppfkpieabaa", sum := "2800bbd39a9eae8decf9c5143209827cca542a0a127e47b28eaa8d08e465c51a", func := "flocculus/flocculuslaw12.CuckooKeeps", spec := "cuckooKeeps", inPlace := ["slices.overlaps[flocculus/api.Route]", "internal/reflectlite.ValueOf", "internal/reflectlite.Swapper", "(internal/reflectlite.Value).Len"], unfollowed := true, recurses := true, apart := false, narrowed := true }
def CuckooKeepsUptoSaid : Prop := cuckooKeepsUptoRow.holds Try.pinned (OpenSpec.upto cuckooKeepsSpec)

/-- 'flocculuslaw12.CuckooGrows', WHERE WHAT IT READS IS OF BULK AT MOST 1048576: true; the input reads as it did. -/
def cuckooGrowsUptoRow : OpenClaim := { program := "ytlglppfkpieabaa", sum := "2800bbd39a9eae8decf9c5143209827cca542a0a127e47b28eaa8d08e465c51a", func := "flocculus/flocculuslaw12.CuckooGrows", spec := "cuckooGrows", inPlace := ["slices.overlaps[flocculus/api.Route]"], unfollowed := true, recurses := true, apart := false, narrowed := true }
def CuckooGrowsUptoSaid : Prop := cuckooGrowsUptoRow.holds Try.pinned (OpenSpec.upto cuckooGrowsSpec)

/-- 'flocculuslaw12.CuckooReplaces', WHERE WHAT IT READS IS OF BULK AT MOST 1048576: true; the input reads as it did. -/
def cuckooReplacesUptoRow : OpenClaim := { program := "ytlglppfkpieabaa", sum := "2800bbd39a9eae8decf9c5143209827cca542a0a127e47b28eaa8d08e465c51a", func := "flocculus/flocculuslaw12.CuckooReplaces", spec := "cuckooReplaces", inPlace := ["slices.overlaps[flocculus/api.Route]"], unfollowed := true, recurses := true, apart := false, narrowed := true }
def CuckooReplacesUptoSaid : Prop := cuckooReplacesUptoRow.holds Try.pinned (OpenSpec.upto cuckooReplacesSpec)

end Rows
end Go.Proofs.Ytlglppfkpieabaa

/-
  No cell of these rows narrows 'for every input' (looked for: loops, veiled, ifaces, maps, wideKeys, modest, calm, conditions, laid).
  DERIVED. THE GIVEN ROWS OF THIS SEAT. 2 by the template 'for every input the law returns true; each argument reads behind the call as it read before'; 0 by the template 'total and deterministic' (their statements: YtcfioplbbbaeoaaTotals.lean).
  GIVEN WITH THE SEED: the statements are not yours to turn. If you find one false, say at which input.
  Laid BY PROGRAM, IN A SANDBOX (cutbox-rows.mjs): the forced cells as the released guide's own fill.sh prints them over the translation 15cce6f945ec66e2… (all of the seat's roots in one cut). By AI agents, Wed Nov 11 2026. No macro, syntax, notation, axiom, sorry.
-/
import Derived.Test.YtcfioplbbbaeoaaChecked
import GoSem.Claim
import GoSem.ClaimJoined
import GoSem.ClaimMapViews
import Derived.JoinedTies
import Derived.KernelRfl
namespace Go.Proofs.Ytcfioplbbbaeoaa
/- THE CELL 'sum', in the pinned program and in every row, IS THE sha256 OF THE DUMP (.gsa) THAT YtcfioplbbbaeoaaProg.lean LOADS. Nothing in Lean hashes anything: it is a label: what it is worth is what the hold of that sum in a sandbox is worth. -/
noncomputable def Try.pinned : Pinned := { name := "ytcfioplbbbaeoaa", sum := "15cce6f945ec66e2362d9e3d995c3623c9a9ece6c4415446b37ec144195a6e76", checked := Try.checked }
namespace Rows
def none {H : Type} : Left H := { results := [], args := [] }

/-- 'flocculuslaw20.DirectTells': WHATEVER THE INPUT: true; the input reads as it did. -/
def directTellsSpec : ChangeSpec := { name := "directTells", fn := fun _ => fun
  | [d1, d2, d3] => { results := [.lit (.bool true)], args := [d1, d2, d3] }
  | _ => none }
def directTellsRow : OpenClaim := { program := "ytcfioplbbbaeoaa", sum := "15cce6f945ec66e2362d9e3d995c3623c9a9ece6c4415446b37ec144195a6e76", func := "flocculus/flocculuslaw20.DirectTells", spec := "directTells", inPlace := ["internal/reflectlite.ValueOf", "internal/reflectlite.Swapper", "(internal/reflectlite.Value).Len"], unfollowed := true, recurses := true, apart := false }
def DirectTellsSaid : Prop := directTellsRow.holds Try.pinned (OpenSpec.ofChange directTellsSpec)

/-- ITS FALSE NEIGHBOUR: 'it returns false'. Refute it at one input. -/
def directTellsWrong : ChangeSpec := { name := "directTells", fn := fun _ => fun
  | [d1, d2, d3] => { results := [.lit (.bool false)], args := [d1, d2, d3] }
  | _ => none }
def DirectTellsWrongFalsely : Prop := directTellsRow.holds Try.pinned (OpenSpec.ofChange directTellsWrong)

/-- 'flocculuslaw20.DirectNested': WHATEVER THE INPUT: true; the input reads as it did. -/
def directNestedSpec : ChangeSpec := { name := "directNested", fn := fun _ => fun
  | [d1, d2, d3] => { results := [.lit (.bool true)], args := [d1, d2, d3] }
  | _ => none }
def directNestedRow : OpenClaim := { program := "ytcfioplbbbaeoaa", sum := "15cce6f945ec66e2362d9e3d995c3623c9a9ece6c4415446b37ec144195a6e76", func := "flocculus/flocculuslaw20.DirectNested", spec := "directNested", inPlace := ["internal/reflectlite.ValueOf", "internal/reflectlite.Swapper", "(internal/reflectlite.Value).Len"], unfollowed := true, recurses := true, apart := false }
def DirectNestedSaid : Prop := directNestedRow.holds Try.pinned (OpenSpec.ofChange directNestedSpec)

/-- ITS FALSE NEIGHBOUR: 'it returns false'. Refute it at one input. -/
def directNestedWrong : ChangeSpec := { name := "directNested", fn := fun _ => fun
  | [d1, d2, d3] => { results := [.lit (.bool false)], args := [d1, d2, d3] }
  | _ => none }
def DirectNestedWrongFalsely : Prop := directNestedRow.holds Try.pinned (OpenSpec.ofChange directNestedWrong)

/- THE SECOND FORM. 'bulk': how many values and letters a reading holds, each counted each time it is reached (what is shared counts as often as it is met; a slice's spare places count too). A statement '..UptoSaid' is the law's where the arguments, and the package variables that the reading takes, are together of bulk at most 1048576: NARROWER than '..Said'. Prove '..Said' where nothing that the law and all that it calls make is longer than what came in: it says more and counts as full. Else prove '..UptoSaid'. A law counts once. -/
mutual
def uptoBulk {H : Type} : DataW H → Nat
  | .lit (.string bytes) => bytes.length + 1
  | .lit _ => 1
  | .nil => 1
  | .ptr d => uptoBulk d + 1
  | .slice elems spare => uptoBulkAll elems + uptoBulkAll spare + 1
  | .agg parts => uptoBulkAll parts + 1
  | .iface _ d => uptoBulk d + 1
  | .map entries => uptoBulkEntries entries + 1
  | .held _ => 1
def uptoBulkAll {H : Type} : List (DataW H) → Nat
  | [] => 0
  | d :: r => uptoBulk d + uptoBulkAll r
def uptoBulkEntries {H : Type} : List (Lit × DataW H) → Nat
  | [] => 0
  | x :: r => uptoBulkEntry x + uptoBulkEntries r
def uptoBulkEntry {H : Type} : Lit × DataW H → Nat
  | (.string bytes, d) => bytes.length + uptoBulk d + 1
  | (_, d) => uptoBulk d + 1
 end
def uptoSmall : (H : Type) → List (DataW H) → Bool := fun _ ds => decide (uptoBulkAll ds ≤ 1048576)
def OpenSpec.upto (s : _root_.Go.ChangeSpec) : _root_.Go.OpenSpec := { _root_.Go.OpenSpec.ofChange s with cond := some uptoSmall }

/-- 'flocculuslaw20.DirectTells', WHERE WHAT IT READS IS OF BULK AT MOST 1048576: true; the input reads as it did. -/
def directTellsUptoRow : OpenClaim := { program := "ytcfioplbbbaeoaa", sum := "15cce6f945ec66e2362d9e3d995c3623c9a9ece6c4415446b37ec144195a6e76", func := "flocculus/flocculuslaw20.DirectTells", spec := "directTells", inPlace := ["internal/reflectlite.ValueOf", "internal/reflectlite.Swapper", "(internal/reflectlite.Value).Len"], unfollowed := true, recurses := true, apart := false, narrowed := true }
def DirectTellsUptoSaid : Prop := directTellsUptoRow.holds Try.pinned (OpenSpec.upto directTellsSpec)

/-- 'flocculuslaw20.DirectNested', WHERE WHAT IT READS IS OF BULK AT MOST 1048576: true; the input reads as it did. -/
def directNestedUptoRow : OpenClaim := { program := "ytcfioplbbbaeoaa", sum := "15cce6f945ec66e2362d9e3d995c3623c9a9ece6c4415446b37ec144195a6e76", func := "flocculus/flocculuslaw20.DirectNested", spec := "directNested", inPlace := ["internal/reflectlite.ValueOf", "internal/reflectlite.Swapper", "(internal/reflectlite.Value).Len"], unfollowed := true, recurses := true, apart := false, narrowed := true }
def DirectNestedUptoSaid : Prop := directNestedUptoRow.holds Try.pinned (OpenSpec.upto directNestedSpec)

end Rows
end Go.Proofs.Ytcfioplbbbaeoaa

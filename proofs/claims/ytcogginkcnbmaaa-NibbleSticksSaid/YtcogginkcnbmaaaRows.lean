/-
  No cell of these rows narrows 'for every input' (looked for: loops, veiled, ifaces, maps, wideKeys, modest, calm, conditions, laid).
  DERIVED. THE GIVEN ROWS OF THIS SEAT. 2 by the template 'for every input the law returns true; each argument reads behind the call as it read before'; 0 by the template 'total and deterministic' (their statements: YtcogginkcnbmaaaTotals.lean).
  GIVEN WITH THE SEED: the statements are not yours to turn. If you find one false, say at which input.
  Laid BY PROGRAM, IN A SANDBOX (cutbox-rows.mjs): the forced cells as the released guide's own fill.sh prints them over the translation 6b2b59818e1e5909… (all of the seat's roots in one cut). By AI agents, Wed Nov 11 2026. No macro, syntax, notation, axiom, sorry.
-/
import Derived.Test.YtcogginkcnbmaaaChecked
import GoSem.Claim
import GoSem.ClaimJoined
import GoSem.ClaimMapViews
import Derived.JoinedTies
import Derived.KernelRfl
namespace Go.Proofs.Ytcogginkcnbmaaa
/- THE CELL 'sum', in the pinned program and in every row, IS THE sha256 OF THE DUMP (.gsa) THAT YtcogginkcnbmaaaProg.lean LOADS. Nothing in Lean hashes anything: it is a label: what it is worth is what the hold of that sum in a sandbox is worth. -/
noncomputable def Try.pinned : Pinned := { name := "ytcogginkcnbmaaa", sum := "6b2b59818e1e5909efd59805a9f025c6299755573626fe4ffe42328595f50ae6", checked := Try.checked }
namespace Rows
def none {H : Type} : Left H := { results := [], args := [] }

/-- 'flocculuslaw7.NibblePlays': WHATEVER THE INPUT: true; the input reads as it did. -/
def nibblePlaysSpec : ChangeSpec := { name := "nibblePlays", fn := fun _ => fun
  | [d1, d2] => { results := [.lit (.bool true)], args := [d1, d2] }
  | _ => none }
def nibblePlaysRow : OpenClaim := { program := "ytcogginkcnbmaaa", sum := "6b2b59818e1e5909efd59805a9f025c6299755573626fe4ffe42328595f50ae6", func := "flocculus/flocculuslaw7.NibblePlays", spec := "nibblePlays", apart := false }
def NibblePlaysSaid : Prop := nibblePlaysRow.holds Try.pinned (OpenSpec.ofChange nibblePlaysSpec)

/-- ITS FALSE NEIGHBOUR: 'it returns false'. Refute it at one input. -/
def nibblePlaysWrong : ChangeSpec := { name := "nibblePlays", fn := fun _ => fun
  | [d1, d2] => { results := [.lit (.bool false)], args := [d1, d2] }
  | _ => none }
def NibblePlaysWrongFalsely : Prop := nibblePlaysRow.holds Try.pinned (OpenSpec.ofChange nibblePlaysWrong)

/-- 'flocculuslaw7.NibbleSticks': WHATEVER THE INPUT: true; the input reads as it did. -/
def nibbleSticksSpec : ChangeSpec := { name := "nibbleSticks", fn := fun _ => fun
  | [d1, d2, d3] => { results := [.lit (.bool true)], args := [d1, d2, d3] }
  | _ => none }
def nibbleSticksRow : OpenClaim := { program := "ytcogginkcnbmaaa", sum := "6b2b59818e1e5909efd59805a9f025c6299755573626fe4ffe42328595f50ae6", func := "flocculus/flocculuslaw7.NibbleSticks", spec := "nibbleSticks", apart := false }
def NibbleSticksSaid : Prop := nibbleSticksRow.holds Try.pinned (OpenSpec.ofChange nibbleSticksSpec)

/-- ITS FALSE NEIGHBOUR: 'it returns false'. Refute it at one input. -/
def nibbleSticksWrong : ChangeSpec := { name := "nibbleSticks", fn := fun _ => fun
  | [d1, d2, d3] => { results := [.lit (.bool false)], args := [d1, d2, d3] }
  | _ => none }
def NibbleSticksWrongFalsely : Prop := nibbleSticksRow.holds Try.pinned (OpenSpec.ofChange nibbleSticksWrong)

/- THE SECOND FORM. 'bulk': how many values and letters a reading holds, each counted each time it is reached (what is shared counts as often as it is met; a slice's spare places count too). A statement '..UptoSaid' is the law's where the arguments, and the package variables that the reading takes, are together of bulk at most 1048576: NARROWER than '..Said'. Prove '..Said' where nothing that the law and all that it calls make is longer than what came in: it says more and counts as full. Else prove '..UptoSaid'. A law counts once. -/
mutual
def uptoBulk {H : Type} : DataW H → Nat
  | .lit (.string bytes) => bytes.length + 1
  | .lit _ => 1
  | .nil => 1
  | .ptr d => uptoBulk d + 1
  | .slice elems spare => uptoBulkAll elems + uptoBulkAll spare + 1
  | .agg parts => uptoBulkAll parts + 1
  | .iface _ d => uptoBulk d + 1
  | .map entries => uptoBulkEntries entries + 1
  | .held _ => 1
def uptoBulkAll {H : Type} : List (DataW H) → Nat
  | [] => 0
  | d :: r => uptoBulk d + uptoBulkAll r
def uptoBulkEntries {H : Type} : List (Lit × DataW H) → Nat
  | [] => 0
  | x :: r => uptoBulkEntry x + uptoBulkEntries r
def uptoBulkEntry {H : Type} : Lit × DataW H → Nat
  | (.string bytes, d) => bytes.length + uptoBulk d + 1
  | (_, d) => uptoBulk d + 1
 end
def uptoSmall : (H : Type) → List (DataW H) → Bool := fun _ ds => decide (uptoBulkAll ds ≤ 1048576)
def OpenSpec.upto (s : _root_.Go.ChangeSpec) : _root_.Go.OpenSpec := { _root_.Go.OpenSpec.ofChange s with cond := some uptoSmall }

/-- 'flocculuslaw7.NibblePlays', WHERE WHAT IT READS IS OF BULK AT MOST 1048576: true; the input reads as it did. -/
def nibblePlaysUptoRow : OpenClaim := { program := "ytcogginkcnbmaaa", sum := "6b2b59818e1e5909efd59805a9f025c6299755573626fe4ffe42328595f50ae6", func := "flocculus/flocculuslaw7.NibblePlays", spec := "nibblePlays", apart := false, narrowed := true }
def NibblePlaysUptoSaid : Prop := nibblePlaysUptoRow.holds Try.pinned (OpenSpec.upto nibblePlaysSpec)

/-- 'flocculuslaw7.NibbleSticks', WHERE WHAT IT READS IS OF BULK AT MOST 1048576: true; the input reads as it did. -/
def nibbleSticksUptoRow : OpenClaim := { program := "ytcogginkcnbmaaa", sum := "6b2b59818e1e5909efd59805a9f025c6299755573626fe4ffe42328595f50ae6", func := "flocculus/flocculuslaw7.NibbleSticks", spec := "nibbleSticks", apart := false, narrowed := true }
def NibbleSticksUptoSaid : Prop := nibbleSticksUptoRow.holds Try.pinned (OpenSpec.upto nibbleSticksSpec)

end Rows
end Go.Proofs.Ytcogginkcnbmaaa

/-
  DERIVED. GIVEN WITH THE SEED: THE CARDS: each row of YtegaeifmikfpcaaDoorRows.lean that lists a variable, with what it lists TIED to the program's text (the seventh form; the later family's looks); each row that meets fmt, with fmt's text TOLD by the authors' own Lean function (tested against real Go, not proved from fmt's source: count such statements apart). THE CARD IS WHAT COUNTS. Prove the row's statement (the work); the ties are given (YtegaeifmikfpcaaDoorTie.lean); close each card by the builder's one call (the guide's Derived/Test/ToyasCard.lean, 'card_holds'). Laid BY PROGRAM, IN A SANDBOX (cutbox-door.mjs). By AI agents, Wed Nov 11 2026. No macro, syntax, notation, axiom, sorry.
-/
import Derived.Test.YtegaeifmikfpcaaDoorRows
import GoSem.ClaimSeven
namespace Go.Proofs.YtegaeifmikfpcaaDoor
namespace Rows

/-- THE TIED CARD OF 'flocculuslaw3.ColonsTell'. -/
def colonsTellCard : Claim7 := { stood := { row := colonsTellRow, standIns := [], harness := (true, "eaf4a7226163972ba92fada0de9eab801952a6ca774ba0f35c2dcbb72494b665"), looks := true }, kinds := [], alts := [], laidByText := true, laidKinds := [.data, .data, .data, .sentinel, .sentinel], laidTests := true, laidLooks := .later }
def ColonsTellCardSaid : Prop := Claim7.holds Tryd.pinned (.plain (OpenSpec.ofChange colonsTellSpec)) colonsTellCard

/-- THE TIED CARD OF 'flocculuslaw3.ColonsBack'. -/
def colonsBackCard : Claim7 := { stood := { row := colonsBackRow, standIns := [], harness := (true, "eaf4a7226163972ba92fada0de9eab801952a6ca774ba0f35c2dcbb72494b665"), looks := true }, kinds := [], alts := [], laidByText := true, laidKinds := [.data, .data, .data, .sentinel, .sentinel], laidTests := true, laidLooks := .later }
def ColonsBackCardSaid : Prop := Claim7.holds Tryd.pinned (.plain (OpenSpec.ofChange colonsBackSpec)) colonsBackCard

/-- THE TIED CARD OF 'flocculuslaw3.ColonsWrite'. -/
def colonsWriteCard : Claim7 := { stood := { row := colonsWriteRow, standIns := [], harness := (true, "eaf4a7226163972ba92fada0de9eab801952a6ca774ba0f35c2dcbb72494b665"), looks := true }, kinds := [], alts := [], laidByText := true, laidKinds := [.data, .data, .data, .sentinel, .sentinel], laidTests := true, laidLooks := .later }
def ColonsWriteCardSaid : Prop := Claim7.holds Tryd.pinned (.plain (OpenSpec.ofChange colonsWriteSpec)) colonsWriteCard

/-- THE TIED CARD OF 'flocculuslaw3.ColonsWrong'. -/
def colonsWrongCard : Claim7 := { stood := { row := colonsWrongRow, standIns := [], harness := (true, "eaf4a7226163972ba92fada0de9eab801952a6ca774ba0f35c2dcbb72494b665"), looks := true }, kinds := [], alts := [], laidByText := true, laidKinds := [.data, .data, .data, .sentinel, .sentinel], laidTests := true, laidLooks := .later }
def ColonsWrongCardSaid : Prop := Claim7.holds Tryd.pinned (.plain (OpenSpec.ofChange colonsWrongSpec)) colonsWrongCard

/-- THE SECOND FORM's CARD OF 'flocculuslaw3.ColonsTell'. -/
def colonsTellUptoCard : Claim7 := { stood := { row := colonsTellUptoRow, standIns := [], harness := (true, "eaf4a7226163972ba92fada0de9eab801952a6ca774ba0f35c2dcbb72494b665"), looks := true }, kinds := [], alts := [], laidByText := true, laidKinds := [.data, .data, .data, .sentinel, .sentinel], laidTests := true, laidLooks := .later }
def ColonsTellUptoCardSaid : Prop := Claim7.holds Tryd.pinned (.plain (OpenSpec.upto colonsTellSpec)) colonsTellUptoCard

/-- THE SECOND FORM's CARD OF 'flocculuslaw3.ColonsBack'. -/
def colonsBackUptoCard : Claim7 := { stood := { row := colonsBackUptoRow, standIns := [], harness := (true, "eaf4a7226163972ba92fada0de9eab801952a6ca774ba0f35c2dcbb72494b665"), looks := true }, kinds := [], alts := [], laidByText := true, laidKinds := [.data, .data, .data, .sentinel, .sentinel], laidTests := true, laidLooks := .later }
def ColonsBackUptoCardSaid : Prop := Claim7.holds Tryd.pinned (.plain (OpenSpec.upto colonsBackSpec)) colonsBackUptoCard

/-- THE SECOND FORM's CARD OF 'flocculuslaw3.ColonsWrite'. -/
def colonsWriteUptoCard : Claim7 := { stood := { row := colonsWriteUptoRow, standIns := [], harness := (true, "eaf4a7226163972ba92fada0de9eab801952a6ca774ba0f35c2dcbb72494b665"), looks := true }, kinds := [], alts := [], laidByText := true, laidKinds := [.data, .data, .data, .sentinel, .sentinel], laidTests := true, laidLooks := .later }
def ColonsWriteUptoCardSaid : Prop := Claim7.holds Tryd.pinned (.plain (OpenSpec.upto colonsWriteSpec)) colonsWriteUptoCard

/-- THE SECOND FORM's CARD OF 'flocculuslaw3.ColonsWrong'. -/
def colonsWrongUptoCard : Claim7 := { stood := { row := colonsWrongUptoRow, standIns := [], harness := (true, "eaf4a7226163972ba92fada0de9eab801952a6ca774ba0f35c2dcbb72494b665"), looks := true }, kinds := [], alts := [], laidByText := true, laidKinds := [.data, .data, .data, .sentinel, .sentinel], laidTests := true, laidLooks := .later }
def ColonsWrongUptoCardSaid : Prop := Claim7.holds Tryd.pinned (.plain (OpenSpec.upto colonsWrongSpec)) colonsWrongUptoCard
end Rows
end Go.Proofs.YtegaeifmikfpcaaDoor

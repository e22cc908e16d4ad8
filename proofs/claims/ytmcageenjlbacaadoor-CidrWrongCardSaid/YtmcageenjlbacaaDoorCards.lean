/-
  DERIVED. GIVEN WITH THE SEED: THE CARDS: each row of YtmcageenjlbacaaDoorRows.lean that lists a variable, with what it lists TIED to the program's text (the seventh form; the later family's looks); each row that meets fmt, with fmt's text TOLD by the authors' own Lean function (tested against real Go, not proved from fmt's source: count such statements apart). THE CARD IS WHAT COUNTS. Prove the row's statement (the work); the ties are given (YtmcageenjlbacaaDoorTie.lean); close each card by the builder's one call (the guide's Derived/Test/ToyasCard.lean, 'card_holds'). Laid BY PROGRAM, IN A SANDBOX (cutbox-door.mjs). By AI agents, Wed Nov 11 2026. No macro, syntax, notation, axiom, sorry.
-/
import Derived.Test.YtmcageenjlbacaaDoorRows
import GoSem.ClaimSeven
namespace Go.Proofs.YtmcageenjlbacaaDoor
namespace Rows

/-- THE TIED CARD OF 'flocculuslaw2.CidrTells'. -/
def cidrTellsCard : Claim7 := { stood := { row := cidrTellsRow, standIns := [], harness := (true, "8221da7e40ca57f868eaa219009f80a9bb10e14dc3d03958b351b5a2117f76a3"), looks := false }, kinds := [], alts := [], laidByText := true, laidKinds := [.data, .data, .data], laidTests := true, laidLooks := .later }
def CidrTellsCardSaid : Prop := Claim7.holds Tryd.pinned (.plain (OpenSpec.ofChange cidrTellsSpec)) cidrTellsCard

/-- THE TIED CARD OF 'flocculuslaw2.CidrBack'. -/
def cidrBackCard : Claim7 := { stood := { row := cidrBackRow, standIns := [], harness := (true, "8221da7e40ca57f868eaa219009f80a9bb10e14dc3d03958b351b5a2117f76a3"), looks := false }, kinds := [], alts := [], laidByText := true, laidKinds := [.data, .data, .data], laidTests := true, laidLooks := .later }
def CidrBackCardSaid : Prop := Claim7.holds Tryd.pinned (.plain (OpenSpec.ofChange cidrBackSpec)) cidrBackCard

/-- THE TIED CARD OF 'flocculuslaw2.CidrWrong'. -/
def cidrWrongCard : Claim7 := { stood := { row := cidrWrongRow, standIns := [], harness := (true, "8221da7e40ca57f868eaa219009f80a9bb10e14dc3d03958b351b5a2117f76a3"), looks := false }, kinds := [], alts := [], laidByText := true, laidKinds := [.data, .data, .data], laidTests := true, laidLooks := .later }
def CidrWrongCardSaid : Prop := Claim7.holds Tryd.pinned (.plain (OpenSpec.ofChange cidrWrongSpec)) cidrWrongCard

/-- THE SECOND FORM's CARD OF 'flocculuslaw2.CidrTells'. -/
def cidrTellsUptoCard : Claim7 := { stood := { row := cidrTellsUptoRow, standIns := [], harness := (true, "8221da7e40ca57f868eaa219009f80a9bb10e14dc3d03958b351b5a2117f76a3"), looks := false }, kinds := [], alts := [], laidByText := true, laidKinds := [.data, .data, .data], laidTests := true, laidLooks := .later }
def CidrTellsUptoCardSaid : Prop := Claim7.holds Tryd.pinned (.plain (OpenSpec.upto cidrTellsSpec)) cidrTellsUptoCard

/-- THE SECOND FORM's CARD OF 'flocculuslaw2.CidrBack'. -/
def cidrBackUptoCard : Claim7 := { stood := { row := cidrBackUptoRow, standIns := [], harness := (true, "8221da7e40ca57f868eaa219009f80a9bb10e14dc3d03958b351b5a2117f76a3"), looks := false }, kinds := [], alts := [], laidByText := true, laidKinds := [.data, .data, .data], laidTests := true, laidLooks := .later }
def CidrBackUptoCardSaid : Prop := Claim7.holds Tryd.pinned (.plain (OpenSpec.upto cidrBackSpec)) cidrBackUptoCard

/-- THE SECOND FORM's CARD OF 'flocculuslaw2.CidrWrong'. -/
def cidrWrongUptoCard : Claim7 := { stood := { row := cidrWrongUptoRow, standIns := [], harness := (true, "8221da7e40ca57f868eaa219009f80a9bb10e14dc3d03958b351b5a2117f76a3"), looks := false }, kinds := [], alts := [], laidByText := true, laidKinds := [.data, .data, .data], laidTests := true, laidLooks := .later }
def CidrWrongUptoCardSaid : Prop := Claim7.holds Tryd.pinned (.plain (OpenSpec.upto cidrWrongSpec)) cidrWrongUptoCard
end Rows
end Go.Proofs.YtmcageenjlbacaaDoor

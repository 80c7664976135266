/-
  DERIVED. GIVEN WITH THE SEED: THE CARDS: each row of YthljaemhgkepoaaDoorRows.lean that lists a variable, with what it lists TIED to the program's text (the seventh form; the later family's looks); each row that meets fmt, with fmt's text TOLD by the authors' own Lean function (tested against real Go, not proved from fmt's source: count such statements apart). THE CARD IS WHAT COUNTS. Prove the row's statement (the work); the ties are given (YthljaemhgkepoaaDoorTie.lean); close each card by the builder's one call (the guide's Derived/Test/ToyasCard.lean, 'card_holds'). Laid BY PROGRAM, IN A SANDBOX (cutbox-door.mjs). By AI agents, Wed Nov 11 2026. No macro, syntax, notation, axiom, sorry.
-/
import Derived.Test.YthljaemhgkepoaaDoorRows
import GoSem.ClaimSeven
namespace Go.Proofs.YthljaemhgkepoaaDoor
namespace Rows

/-- THE TIED CARD OF 'triagelaw.Checks'. -/
def checksCard : Claim7 := { stood := { row := checksRow, standIns := [], harness := (true, "a5e4490ee3c09ddb94c122207a12fd35488d0cc6b79e8ca08d950f7f7f40dbc9"), looks := true }, kinds := [], alts := [], laidByText := true, laidKinds := [.handle, .sentinel, .data], laidTests := true, laidLooks := .later }
def ChecksCardSaid : Prop := Claim7.holds Tryd.pinned (.plain (OpenSpec.ofChange checksSpec)) checksCard

/-- THE TIED CARD OF 'triagelaw.Explains'. -/
def explainsCard : Claim7 := { stood := { row := explainsRow, standIns := [], harness := (true, "a5e4490ee3c09ddb94c122207a12fd35488d0cc6b79e8ca08d950f7f7f40dbc9"), looks := true }, kinds := [], alts := [], laidByText := true, laidKinds := [.handle, .sentinel, .data], laidTests := true, laidLooks := .later }
def ExplainsCardSaid : Prop := Claim7.holds Tryd.pinned (.plain (OpenSpec.ofChange explainsSpec)) explainsCard

/-- THE TIED CARD OF 'triagelaw.Runs'. -/
def runsCard : Claim7 := { stood := { row := runsRow, standIns := [], harness := (true, "a5e4490ee3c09ddb94c122207a12fd35488d0cc6b79e8ca08d950f7f7f40dbc9"), looks := true }, kinds := [], alts := [], laidByText := true, laidKinds := [.handle, .sentinel, .data], laidTests := true, laidLooks := .later }
def RunsCardSaid : Prop := Claim7.holds Tryd.pinned (.plain (OpenSpec.ofChange runsSpec)) runsCard

/-- THE TIED CARD OF 'triagelaw.Fuel'. -/
def fuelCard : Claim7 := { stood := { row := fuelRow, standIns := [], harness := (true, "a5e4490ee3c09ddb94c122207a12fd35488d0cc6b79e8ca08d950f7f7f40dbc9"), looks := true }, kinds := [], alts := [], laidByText := true, laidKinds := [.handle, .sentinel, .data], laidTests := true, laidLooks := .later }
def FuelCardSaid : Prop := Claim7.holds Tryd.pinned (.plain (OpenSpec.ofChange fuelSpec)) fuelCard

/-- THE SECOND FORM's CARD OF 'triagelaw.Checks'. -/
def checksUptoCard : Claim7 := { stood := { row := checksUptoRow, standIns := [], harness := (true, "a5e4490ee3c09ddb94c122207a12fd35488d0cc6b79e8ca08d950f7f7f40dbc9"), looks := true }, kinds := [], alts := [], laidByText := true, laidKinds := [.handle, .sentinel, .data], laidTests := true, laidLooks := .later }
def ChecksUptoCardSaid : Prop := Claim7.holds Tryd.pinned (.plain (OpenSpec.upto checksSpec)) checksUptoCard

/-- THE SECOND FORM's CARD OF 'triagelaw.Explains'. -/
def explainsUptoCard : Claim7 := { stood := { row := explainsUptoRow, standIns := [], harness := (true, "a5e4490ee3c09ddb94c122207a12fd35488d0cc6b79e8ca08d950f7f7f40dbc9"), looks := true }, kinds := [], alts := [], laidByText := true, laidKinds := [.handle, .sentinel, .data], laidTests := true, laidLooks := .later }
def ExplainsUptoCardSaid : Prop := Claim7.holds Tryd.pinned (.plain (OpenSpec.upto explainsSpec)) explainsUptoCard

/-- THE SECOND FORM's CARD OF 'triagelaw.Runs'. -/
def runsUptoCard : Claim7 := { stood := { row := runsUptoRow, standIns := [], harness := (true, "a5e4490ee3c09ddb94c122207a12fd35488d0cc6b79e8ca08d950f7f7f40dbc9"), looks := true }, kinds := [], alts := [], laidByText := true, laidKinds := [.handle, .sentinel, .data], laidTests := true, laidLooks := .later }
def RunsUptoCardSaid : Prop := Claim7.holds Tryd.pinned (.plain (OpenSpec.upto runsSpec)) runsUptoCard

/-- THE SECOND FORM's CARD OF 'triagelaw.Fuel'. -/
def fuelUptoCard : Claim7 := { stood := { row := fuelUptoRow, standIns := [], harness := (true, "a5e4490ee3c09ddb94c122207a12fd35488d0cc6b79e8ca08d950f7f7f40dbc9"), looks := true }, kinds := [], alts := [], laidByText := true, laidKinds := [.handle, .sentinel, .data], laidTests := true, laidLooks := .later }
def FuelUptoCardSaid : Prop := Claim7.holds Tryd.pinned (.plain (OpenSpec.upto fuelSpec)) fuelUptoCard
end Rows
end Go.Proofs.YthljaemhgkepoaaDoor

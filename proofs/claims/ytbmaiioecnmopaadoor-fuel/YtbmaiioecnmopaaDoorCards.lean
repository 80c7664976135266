/-
  DERIVED. GIVEN WITH THE SEED: THE CARDS: each row of YtbmaiioecnmopaaDoorRows.lean that lists a variable, with what it lists TIED to the program's text (the seventh form; the later family's looks); each row that meets fmt, with fmt's text TOLD by the authors' own Lean function (tested against real Go, not proved from fmt's source: count such statements apart). THE CARD IS WHAT COUNTS. Prove the row's statement (the work); the ties are given (YtbmaiioecnmopaaDoorTie.lean); close each card by the builder's one call (the guide's Derived/Test/ToyasCard.lean, 'card_holds'). Laid BY PROGRAM, IN A SANDBOX (cutbox-door.mjs). By AI agents, Wed Nov 11 2026. No macro, syntax, notation, axiom, sorry.
-/
import Derived.Test.YtbmaiioecnmopaaDoorRows
import GoSem.ClaimSeven
namespace Go.Proofs.YtbmaiioecnmopaaDoor
namespace Rows

/-- THE TIED CARD OF 'triagelaw.Checks'. -/
def checksCard : Claim7 := { stood := { row := checksRow, standIns := [], harness := (true, "0e52d9d7aca8b39287a9c98bea23beb791bc619df83a69d7d488c6ce6d7e8bc7"), looks := true }, kinds := [], alts := [], laidByText := true, laidKinds := [.handle, .sentinel, .data], laidTests := true, laidLooks := .later }
def ChecksCardSaid : Prop := Claim7.holds Tryd.pinned (.plain (OpenSpec.ofChange checksSpec)) checksCard

/-- THE TIED CARD OF 'triagelaw.Explains'. -/
def explainsCard : Claim7 := { stood := { row := explainsRow, standIns := [], harness := (true, "0e52d9d7aca8b39287a9c98bea23beb791bc619df83a69d7d488c6ce6d7e8bc7"), looks := true }, kinds := [], alts := [], laidByText := true, laidKinds := [.handle, .sentinel, .data], laidTests := true, laidLooks := .later }
def ExplainsCardSaid : Prop := Claim7.holds Tryd.pinned (.plain (OpenSpec.ofChange explainsSpec)) explainsCard

/-- THE TIED CARD OF 'triagelaw.Runs'. -/
def runsCard : Claim7 := { stood := { row := runsRow, standIns := [], harness := (true, "0e52d9d7aca8b39287a9c98bea23beb791bc619df83a69d7d488c6ce6d7e8bc7"), looks := true }, kinds := [], alts := [], laidByText := true, laidKinds := [.handle, .sentinel, .data], laidTests := true, laidLooks := .later }
def RunsCardSaid : Prop := Claim7.holds Tryd.pinned (.plain (OpenSpec.ofChange runsSpec)) runsCard

/-- THE TIED CARD OF 'triagelaw.Fuel'. -/
def fuelCard : Claim7 := { stood := { row := fuelRow, standIns := [], harness := (true, "0e52d9d7aca8b39287a9c98bea23beb791bc619df83a69d7d488c6ce6d7e8bc7"), looks := true }, kinds := [], alts := [], laidByText := true, laidKinds := [.handle, .sentinel, .data], laidTests := true, laidLooks := .later }
def FuelCardSaid : Prop := Claim7.holds Tryd.pinned (.plain (OpenSpec.ofChange fuelSpec)) fuelCard

/-- THE TIED CARD OF 'triagelaw.Sorts'. -/
def sortsCard : Claim7 := { stood := { row := sortsRow, standIns := [], harness := (true, "0e52d9d7aca8b39287a9c98bea23beb791bc619df83a69d7d488c6ce6d7e8bc7"), looks := true }, kinds := [], alts := [], laidByText := true, laidKinds := [.handle, .sentinel, .data], laidTests := true, laidLooks := .later }
def SortsCardSaid : Prop := Claim7.holds Tryd.pinned (.plain (OpenSpec.ofChange sortsSpec)) sortsCard

/-- THE TIED CARD OF 'triagelaw.Packs'. -/
def packsCard : Claim7 := { stood := { row := packsRow, standIns := [], harness := (true, "0e52d9d7aca8b39287a9c98bea23beb791bc619df83a69d7d488c6ce6d7e8bc7"), looks := true }, kinds := [], alts := [], laidByText := true, laidKinds := [.handle, .sentinel, .data], laidTests := true, laidLooks := .later }
def PacksCardSaid : Prop := Claim7.holds Tryd.pinned (.plain (OpenSpec.ofChange packsSpec)) packsCard

/-- THE TIED CARD OF 'triagelaw.Unpacks'. -/
def unpacksCard : Claim7 := { stood := { row := unpacksRow, standIns := [], harness := (true, "0e52d9d7aca8b39287a9c98bea23beb791bc619df83a69d7d488c6ce6d7e8bc7"), looks := true }, kinds := [], alts := [], laidByText := true, laidKinds := [.handle, .sentinel, .data], laidTests := true, laidLooks := .later }
def UnpacksCardSaid : Prop := Claim7.holds Tryd.pinned (.plain (OpenSpec.ofChange unpacksSpec)) unpacksCard

/-- THE TIED CARD OF 'triagelaw.Bursts'. -/
def burstsCard : Claim7 := { stood := { row := burstsRow, standIns := [], harness := (true, "0e52d9d7aca8b39287a9c98bea23beb791bc619df83a69d7d488c6ce6d7e8bc7"), looks := true }, kinds := [], alts := [], laidByText := true, laidKinds := [.handle, .sentinel, .data], laidTests := true, laidLooks := .later }
def BurstsCardSaid : Prop := Claim7.holds Tryd.pinned (.plain (OpenSpec.ofChange burstsSpec)) burstsCard

/-- THE SECOND FORM's CARD OF 'triagelaw.Checks'. -/
def checksUptoCard : Claim7 := { stood := { row := checksUptoRow, standIns := [], harness := (true, "0e52d9d7aca8b39287a9c98bea23beb791bc619df83a69d7d488c6ce6d7e8bc7"), looks := true }, kinds := [], alts := [], laidByText := true, laidKinds := [.handle, .sentinel, .data], laidTests := true, laidLooks := .later }
def ChecksUptoCardSaid : Prop := Claim7.holds Tryd.pinned (.plain (OpenSpec.upto checksSpec)) checksUptoCard

/-- THE SECOND FORM's CARD OF 'triagelaw.Explains'. -/
def explainsUptoCard : Claim7 := { stood := { row := explainsUptoRow, standIns := [], harness := (true, "0e52d9d7aca8b39287a9c98bea23beb791bc619df83a69d7d488c6ce6d7e8bc7"), looks := true }, kinds := [], alts := [], laidByText := true, laidKinds := [.handle, .sentinel, .data], laidTests := true, laidLooks := .later }
def ExplainsUptoCardSaid : Prop := Claim7.holds Tryd.pinned (.plain (OpenSpec.upto explainsSpec)) explainsUptoCard

/-- THE SECOND FORM's CARD OF 'triagelaw.Runs'. -/
def runsUptoCard : Claim7 := { stood := { row := runsUptoRow, standIns := [], harness := (true, "0e52d9d7aca8b39287a9c98bea23beb791bc619df83a69d7d488c6ce6d7e8bc7"), looks := true }, kinds := [], alts := [], laidByText := true, laidKinds := [.handle, .sentinel, .data], laidTests := true, laidLooks := .later }
def RunsUptoCardSaid : Prop := Claim7.holds Tryd.pinned (.plain (OpenSpec.upto runsSpec)) runsUptoCard

/-- THE SECOND FORM's CARD OF 'triagelaw.Fuel'. -/
def fuelUptoCard : Claim7 := { stood := { row := fuelUptoRow, standIns := [], harness := (true, "0e52d9d7aca8b39287a9c98bea23beb791bc619df83a69d7d488c6ce6d7e8bc7"), looks := true }, kinds := [], alts := [], laidByText := true, laidKinds := [.handle, .sentinel, .data], laidTests := true, laidLooks := .later }
def FuelUptoCardSaid : Prop := Claim7.holds Tryd.pinned (.plain (OpenSpec.upto fuelSpec)) fuelUptoCard

/-- THE SECOND FORM's CARD OF 'triagelaw.Sorts'. -/
def sortsUptoCard : Claim7 := { stood := { row := sortsUptoRow, standIns := [], harness := (true, "0e52d9d7aca8b39287a9c98bea23beb791bc619df83a69d7d488c6ce6d7e8bc7"), looks := true }, kinds := [], alts := [], laidByText := true, laidKinds := [.handle, .sentinel, .data], laidTests := true, laidLooks := .later }
def SortsUptoCardSaid : Prop := Claim7.holds Tryd.pinned (.plain (OpenSpec.upto sortsSpec)) sortsUptoCard

/-- THE SECOND FORM's CARD OF 'triagelaw.Packs'. -/
def packsUptoCard : Claim7 := { stood := { row := packsUptoRow, standIns := [], harness := (true, "0e52d9d7aca8b39287a9c98bea23beb791bc619df83a69d7d488c6ce6d7e8bc7"), looks := true }, kinds := [], alts := [], laidByText := true, laidKinds := [.handle, .sentinel, .data], laidTests := true, laidLooks := .later }
def PacksUptoCardSaid : Prop := Claim7.holds Tryd.pinned (.plain (OpenSpec.upto packsSpec)) packsUptoCard

/-- THE SECOND FORM's CARD OF 'triagelaw.Unpacks'. -/
def unpacksUptoCard : Claim7 := { stood := { row := unpacksUptoRow, standIns := [], harness := (true, "0e52d9d7aca8b39287a9c98bea23beb791bc619df83a69d7d488c6ce6d7e8bc7"), looks := true }, kinds := [], alts := [], laidByText := true, laidKinds := [.handle, .sentinel, .data], laidTests := true, laidLooks := .later }
def UnpacksUptoCardSaid : Prop := Claim7.holds Tryd.pinned (.plain (OpenSpec.upto unpacksSpec)) unpacksUptoCard

/-- THE SECOND FORM's CARD OF 'triagelaw.Bursts'. -/
def burstsUptoCard : Claim7 := { stood := { row := burstsUptoRow, standIns := [], harness := (true, "0e52d9d7aca8b39287a9c98bea23beb791bc619df83a69d7d488c6ce6d7e8bc7"), looks := true }, kinds := [], alts := [], laidByText := true, laidKinds := [.handle, .sentinel, .data], laidTests := true, laidLooks := .later }
def BurstsUptoCardSaid : Prop := Claim7.holds Tryd.pinned (.plain (OpenSpec.upto burstsSpec)) burstsUptoCard
end Rows
end Go.Proofs.YtbmaiioecnmopaaDoor

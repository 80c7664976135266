/-
  DERIVED. GIVEN WITH THE SEED: THE CARDS: each row of YtbmaiioecnmopabGreatDoorRows.lean that lists a variable, with what it lists TIED to the program's text (the seventh form; the later family's looks); each row that meets fmt, with fmt's text TOLD by the authors' own Lean function (tested against real Go, not proved from fmt's source: count such statements apart). THE CARD IS WHAT COUNTS. Prove the row's statement (the work); the ties are given (YtbmaiioecnmopabGreatDoorTie.lean); close each card by the builder's one call (the guide's Derived/Test/ToyasCard.lean, 'card_holds'). Laid BY PROGRAM, IN A SANDBOX (cutbox-door.mjs). By AI agents, Wed Nov 11 2026. No macro, syntax, notation, axiom, sorry.
-/
import Derived.Test.YtbmaiioecnmopabGreatDoorRows
import GoSem.ClaimSeven
namespace Go.Proofs.YtbmaiioecnmopabGreatDoor
namespace Rows

/-- THE TIED CARD OF 'triagelaw.Replays'. -/
def replaysCard : Claim7 := { stood := { row := replaysRow, standIns := [], harness := (true, "917ce2d02163ce113cb5fa2bc3654b2e774c3d51201bd72834628ad5b6a23b15"), looks := true }, kinds := [], alts := [], goes := true, laidByText := true, laidKinds := [.handle, .sentinel, .data], laidTests := true, laidLooks := .later }
def ReplaysCardSaid : Prop := Claim7.holds Tryz.pinned (.plain (OpenSpec.ofChange replaysSpec)) replaysCard

/-- THE TIED CARD OF 'triagelaw.Triages'. -/
def triagesCard : Claim7 := { stood := { row := triagesRow, standIns := [], harness := (true, "917ce2d02163ce113cb5fa2bc3654b2e774c3d51201bd72834628ad5b6a23b15"), looks := true }, kinds := [], alts := [], goes := true, laidByText := true, laidKinds := [.handle, .sentinel, .data], laidTests := true, laidLooks := .later }
def TriagesCardSaid : Prop := Claim7.holds Tryz.pinned (.plain (OpenSpec.ofChange triagesSpec)) triagesCard

/-- THE TIED CARD OF 'triagelaw.Own'. -/
def ownCard : Claim7 := { stood := { row := ownRow, standIns := [], harness := (true, "917ce2d02163ce113cb5fa2bc3654b2e774c3d51201bd72834628ad5b6a23b15"), looks := true }, kinds := [], alts := [], goes := true, laidByText := true, laidKinds := [.handle, .sentinel, .data], laidTests := true, laidLooks := .later }
def OwnCardSaid : Prop := Claim7.holds Tryz.pinned (.plain (OpenSpec.ofChange ownSpec)) ownCard

/-- THE SECOND FORM's CARD OF 'triagelaw.Replays'. -/
def replaysUptoCard : Claim7 := { stood := { row := replaysUptoRow, standIns := [], harness := (true, "917ce2d02163ce113cb5fa2bc3654b2e774c3d51201bd72834628ad5b6a23b15"), looks := true }, kinds := [], alts := [], goes := true, laidByText := true, laidKinds := [.handle, .sentinel, .data], laidTests := true, laidLooks := .later }
def ReplaysUptoCardSaid : Prop := Claim7.holds Tryz.pinned (.plain (OpenSpec.upto replaysSpec)) replaysUptoCard

/-- THE SECOND FORM's CARD OF 'triagelaw.Triages'. -/
def triagesUptoCard : Claim7 := { stood := { row := triagesUptoRow, standIns := [], harness := (true, "917ce2d02163ce113cb5fa2bc3654b2e774c3d51201bd72834628ad5b6a23b15"), looks := true }, kinds := [], alts := [], goes := true, laidByText := true, laidKinds := [.handle, .sentinel, .data], laidTests := true, laidLooks := .later }
def TriagesUptoCardSaid : Prop := Claim7.holds Tryz.pinned (.plain (OpenSpec.upto triagesSpec)) triagesUptoCard

/-- THE SECOND FORM's CARD OF 'triagelaw.Own'. -/
def ownUptoCard : Claim7 := { stood := { row := ownUptoRow, standIns := [], harness := (true, "917ce2d02163ce113cb5fa2bc3654b2e774c3d51201bd72834628ad5b6a23b15"), looks := true }, kinds := [], alts := [], goes := true, laidByText := true, laidKinds := [.handle, .sentinel, .data], laidTests := true, laidLooks := .later }
def OwnUptoCardSaid : Prop := Claim7.holds Tryz.pinned (.plain (OpenSpec.upto ownSpec)) ownUptoCard
end Rows
end Go.Proofs.YtbmaiioecnmopabGreatDoor

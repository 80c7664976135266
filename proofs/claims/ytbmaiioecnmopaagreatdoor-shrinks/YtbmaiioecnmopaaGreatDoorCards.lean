/-
  DERIVED. GIVEN WITH THE SEED: THE CARDS: each row of YtbmaiioecnmopaaGreatDoorRows.lean that lists a variable, with what it lists TIED to the program's text (the seventh form; the later family's looks); each row that meets fmt, with fmt's text TOLD by the authors' own Lean function (tested against real Go, not proved from fmt's source: count such statements apart). THE CARD IS WHAT COUNTS. Prove the row's statement (the work); the ties are given (YtbmaiioecnmopaaGreatDoorTie.lean); close each card by the builder's one call (the guide's Derived/Test/ToyasCard.lean, 'card_holds'). Laid BY PROGRAM, IN A SANDBOX (cutbox-door.mjs). By AI agents, Wed Nov 11 2026. No macro, syntax, notation, axiom, sorry.
-/
import Derived.Test.YtbmaiioecnmopaaGreatDoorRows
import GoSem.ClaimSeven
namespace Go.Proofs.YtbmaiioecnmopaaGreatDoor
namespace Rows

/-- THE TIED CARD OF 'triagelaw.Parts'. -/
def partsCard : Claim7 := { stood := { row := partsRow, standIns := [], harness := (true, "2307ac39286fe7613aa49e624536348d44d7391369b635da594d82d6ae6993fb"), looks := true }, kinds := [], alts := [], laidByText := true, laidKinds := [.handle, .sentinel, .data], laidTests := true, laidLooks := .later }
def PartsCardSaid : Prop := Claim7.holds Tryz.pinned (.plain (OpenSpec.ofChange partsSpec)) partsCard

/-- THE TIED CARD OF 'triagelaw.Shrinks'. -/
def shrinksCard : Claim7 := { stood := { row := shrinksRow, standIns := [], harness := (true, "2307ac39286fe7613aa49e624536348d44d7391369b635da594d82d6ae6993fb"), looks := true }, kinds := [], alts := [], laidByText := true, laidKinds := [.handle, .sentinel, .data], laidTests := true, laidLooks := .later }
def ShrinksCardSaid : Prop := Claim7.holds Tryz.pinned (.plain (OpenSpec.ofChange shrinksSpec)) shrinksCard

/-- THE TIED CARD OF 'triagelaw.Trims'. -/
def trimsCard : Claim7 := { stood := { row := trimsRow, standIns := [], harness := (true, "2307ac39286fe7613aa49e624536348d44d7391369b635da594d82d6ae6993fb"), looks := true }, kinds := [], alts := [], laidByText := true, laidKinds := [.handle, .sentinel, .data], laidTests := true, laidLooks := .later }
def TrimsCardSaid : Prop := Claim7.holds Tryz.pinned (.plain (OpenSpec.ofChange trimsSpec)) trimsCard

/-- THE TIED CARD OF 'triagelaw.Covers'. -/
def coversCard : Claim7 := { stood := { row := coversRow, standIns := [], harness := (true, "2307ac39286fe7613aa49e624536348d44d7391369b635da594d82d6ae6993fb"), looks := true }, kinds := [], alts := [], laidByText := true, laidKinds := [.handle, .sentinel, .data], laidTests := true, laidLooks := .later }
def CoversCardSaid : Prop := Claim7.holds Tryz.pinned (.plain (OpenSpec.ofChange coversSpec)) coversCard

/-- THE SECOND FORM's CARD OF 'triagelaw.Parts'. -/
def partsUptoCard : Claim7 := { stood := { row := partsUptoRow, standIns := [], harness := (true, "2307ac39286fe7613aa49e624536348d44d7391369b635da594d82d6ae6993fb"), looks := true }, kinds := [], alts := [], laidByText := true, laidKinds := [.handle, .sentinel, .data], laidTests := true, laidLooks := .later }
def PartsUptoCardSaid : Prop := Claim7.holds Tryz.pinned (.plain (OpenSpec.upto partsSpec)) partsUptoCard

/-- THE SECOND FORM's CARD OF 'triagelaw.Shrinks'. -/
def shrinksUptoCard : Claim7 := { stood := { row := shrinksUptoRow, standIns := [], harness := (true, "2307ac39286fe7613aa49e624536348d44d7391369b635da594d82d6ae6993fb"), looks := true }, kinds := [], alts := [], laidByText := true, laidKinds := [.handle, .sentinel, .data], laidTests := true, laidLooks := .later }
def ShrinksUptoCardSaid : Prop := Claim7.holds Tryz.pinned (.plain (OpenSpec.upto shrinksSpec)) shrinksUptoCard

/-- THE SECOND FORM's CARD OF 'triagelaw.Trims'. -/
def trimsUptoCard : Claim7 := { stood := { row := trimsUptoRow, standIns := [], harness := (true, "2307ac39286fe7613aa49e624536348d44d7391369b635da594d82d6ae6993fb"), looks := true }, kinds := [], alts := [], laidByText := true, laidKinds := [.handle, .sentinel, .data], laidTests := true, laidLooks := .later }
def TrimsUptoCardSaid : Prop := Claim7.holds Tryz.pinned (.plain (OpenSpec.upto trimsSpec)) trimsUptoCard

/-- THE SECOND FORM's CARD OF 'triagelaw.Covers'. -/
def coversUptoCard : Claim7 := { stood := { row := coversUptoRow, standIns := [], harness := (true, "2307ac39286fe7613aa49e624536348d44d7391369b635da594d82d6ae6993fb"), looks := true }, kinds := [], alts := [], laidByText := true, laidKinds := [.handle, .sentinel, .data], laidTests := true, laidLooks := .later }
def CoversUptoCardSaid : Prop := Claim7.holds Tryz.pinned (.plain (OpenSpec.upto coversSpec)) coversUptoCard
end Rows
end Go.Proofs.YtbmaiioecnmopaaGreatDoor

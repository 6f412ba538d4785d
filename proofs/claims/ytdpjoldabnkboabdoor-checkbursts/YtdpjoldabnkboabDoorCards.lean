/-
  DERIVED. GIVEN WITH THE SEED: THE CARDS: each row of YtdpjoldabnkboabDoorRows.lean that lists a variable, with what it lists TIED to the program's text (the seventh form; the later family's looks); each row that meets fmt, with fmt's text TOLD by the authors' own Lean function (tested against real Go, not proved from fmt's source: count such statements apart). THE CARD IS WHAT COUNTS. Prove the row's statement (the work); the ties are given (YtdpjoldabnkboabDoorTie.lean); close each card by the builder's one call (the guide's Derived/Test/ToyasCard.lean, 'card_holds'). Laid BY PROGRAM, IN A SANDBOX (cutbox-door.mjs). By AI agents, Wed Nov 11 2026. No macro, syntax, notation, axiom, sorry.
-/
import Derived.Test.YtdpjoldabnkboabDoorRows
import GoSem.ClaimSeven
namespace Go.Proofs.YtdpjoldabnkboabDoor
namespace Rows

/-- THE TIED CARD OF 'slabvaultlaw02.CheckBursts'. -/
def checkBurstsCard : Claim7 := { stood := { row := checkBurstsRow, standIns := [], harness := (true, "3e3ab183c2ea3eb577baa4ba23b90402672d8c5fdf4a21acfa55c8f5edfe652e"), looks := false }, kinds := [], alts := [], laidByText := true, laidKinds := [.data], laidTests := true, laidLooks := .later }
def CheckBurstsCardSaid : Prop := Claim7.holds Tryd.pinned (.plain (OpenSpec.ofChange checkBurstsSpec)) checkBurstsCard

/-- THE SECOND FORM's CARD OF 'slabvaultlaw02.CheckBursts'. -/
def checkBurstsUptoCard : Claim7 := { stood := { row := checkBurstsUptoRow, standIns := [], harness := (true, "3e3ab183c2ea3eb577baa4ba23b90402672d8c5fdf4a21acfa55c8f5edfe652e"), looks := false }, kinds := [], alts := [], laidByText := true, laidKinds := [.data], laidTests := true, laidLooks := .later }
def CheckBurstsUptoCardSaid : Prop := Claim7.holds Tryd.pinned (.plain (OpenSpec.upto checkBurstsSpec)) checkBurstsUptoCard
end Rows
end Go.Proofs.YtdpjoldabnkboabDoor

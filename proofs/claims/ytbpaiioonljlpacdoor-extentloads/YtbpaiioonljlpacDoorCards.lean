/-
  DERIVED. GIVEN WITH THE SEED: THE CARDS: each row of YtbpaiioonljlpacDoorRows.lean that lists a variable, with what it lists TIED to the program's text (the seventh form; the later family's looks); each row that meets fmt, with fmt's text TOLD by the authors' own Lean function (tested against real Go, not proved from fmt's source: count such statements apart). THE CARD IS WHAT COUNTS. Prove the row's statement (the work); the ties are given (YtbpaiioonljlpacDoorTie.lean); close each card by the builder's one call (the guide's Derived/Test/ToyasCard.lean, 'card_holds'). Laid BY PROGRAM, IN A SANDBOX (cutbox-door.mjs). By AI agents, Wed Nov 11 2026. No macro, syntax, notation, axiom, sorry.
-/
import Derived.Test.YtbpaiioonljlpacDoorRows
import GoSem.ClaimSeven
namespace Go.Proofs.YtbpaiioonljlpacDoor
namespace Rows

/-- THE TIED CARD OF 'slabvaultlaw05.ExtentLoads'. -/
def extentLoadsCard : Claim7 := { stood := { row := extentLoadsRow, standIns := [], harness := (true, "6d8c78306c23807768e2369250e47536c9e55282453eaf7e1f3b9e1021c256c6"), looks := false }, kinds := [], alts := [], laidByText := true, laidKinds := [.data], laidTests := true, laidLooks := .later }
def ExtentLoadsCardSaid : Prop := Claim7.holds Tryd.pinned (.plain (OpenSpec.ofChange extentLoadsSpec)) extentLoadsCard

/-- THE SECOND FORM's CARD OF 'slabvaultlaw05.ExtentLoads'. -/
def extentLoadsUptoCard : Claim7 := { stood := { row := extentLoadsUptoRow, standIns := [], harness := (true, "6d8c78306c23807768e2369250e47536c9e55282453eaf7e1f3b9e1021c256c6"), looks := false }, kinds := [], alts := [], laidByText := true, laidKinds := [.data], laidTests := true, laidLooks := .later }
def ExtentLoadsUptoCardSaid : Prop := Claim7.holds Tryd.pinned (.plain (OpenSpec.upto extentLoadsSpec)) extentLoadsUptoCard
end Rows
end Go.Proofs.YtbpaiioonljlpacDoor

/-
  DERIVED. GIVEN WITH THE SEED: THE CARDS: each row of YtkiccnedmejnaacDoorRows.lean that lists a variable, with what it lists TIED to the program's text (the seventh form; the later family's looks); each row that meets fmt, with fmt's text TOLD by the authors' own Lean function (tested against real Go, not proved from fmt's source: count such statements apart). THE CARD IS WHAT COUNTS. Prove the row's statement (the work); the ties are given (YtkiccnedmejnaacDoorTie.lean); close each card by the builder's one call (the guide's Derived/Test/ToyasCard.lean, 'card_holds'). Laid BY PROGRAM, IN A SANDBOX (cutbox-door.mjs). By AI agents, Wed Nov 11 2026. No macro, syntax, notation, axiom, sorry.
-/
import Derived.Test.YtkiccnedmejnaacDoorRows
import GoSem.ClaimSeven
namespace Go.Proofs.YtkiccnedmejnaacDoor
namespace Rows

/-- THE TIED CARD OF 'slabvaultlaw06.HeapAgain'. -/
def heapAgainCard : Claim7 := { stood := { row := heapAgainRow, standIns := [], harness := (true, "b907bf511b7a70ca9ed55a42bb862e10c143ad2dfa6387bba299177b86f5c35e"), looks := false }, kinds := [], alts := [], laidByText := true, laidKinds := [.data], laidTests := true, laidLooks := .later }
def HeapAgainCardSaid : Prop := Claim7.holds Tryd.pinned (.plain (OpenSpec.ofChange heapAgainSpec)) heapAgainCard

/-- THE SECOND FORM's CARD OF 'slabvaultlaw06.HeapAgain'. -/
def heapAgainUptoCard : Claim7 := { stood := { row := heapAgainUptoRow, standIns := [], harness := (true, "b907bf511b7a70ca9ed55a42bb862e10c143ad2dfa6387bba299177b86f5c35e"), looks := false }, kinds := [], alts := [], laidByText := true, laidKinds := [.data], laidTests := true, laidLooks := .later }
def HeapAgainUptoCardSaid : Prop := Claim7.holds Tryd.pinned (.plain (OpenSpec.upto heapAgainSpec)) heapAgainUptoCard
end Rows
end Go.Proofs.YtkiccnedmejnaacDoor

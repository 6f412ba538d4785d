/-
  The law's own examples hold (lives). No conditions.
-/
import Derived.Test.YtbhcnpkioamjlaaWalkD
namespace Go.Proofs.Ytbhcnpkioamjlaa
open Go.RowKit
set_option linter.unusedVariables false
set_option maxRecDepth 100000

end Go.Proofs.Ytbhcnpkioamjlaa

/-
  Walks of octet's functions that make memory: room, digitPlace, layDigits. Conditions: lengths within the machine's bounds.
-/
import Derived.Test.YtbhcnpkioamjlaaWalkA
import Derived.Test.YtbhcnpkioamjlaaMem
import Derived.Deep.RegionWith
namespace Go.Proofs.Ytbhcnpkioamjlaa
open Go.RowKit
set_option linter.unusedVariables false
set_option maxRecDepth 100000


end Go.Proofs.Ytbhcnpkioamjlaa

/-
  Walks of octet's functions that make memory: room, digitPlace, layDigits. Conditions: lengths within the machine's bounds.
-/
import Derived.Test.YtbhcnpkioamjlabWalkA
import Derived.Test.YtbhcnpkioamjlabMem
import Derived.Deep.RegionWith
namespace Go.Proofs.Ytbhcnpkioamjlab
open Go.RowKit
set_option linter.unusedVariables false
set_option maxRecDepth 100000


end Go.Proofs.Ytbhcnpkioamjlab

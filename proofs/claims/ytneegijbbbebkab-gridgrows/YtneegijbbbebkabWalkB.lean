/-
  Walks of octet's functions that make memory: room, digitPlace, layDigits. Conditions: lengths within the machine's bounds.
-/
import Derived.Test.YtneegijbbbebkabWalkA
import Derived.Test.YtneegijbbbebkabMem
import Derived.Deep.RegionWith
namespace Go.Proofs.Ytneegijbbbebkab
open Go.RowKit
set_option linter.unusedVariables false
set_option maxRecDepth 100000


end Go.Proofs.Ytneegijbbbebkab

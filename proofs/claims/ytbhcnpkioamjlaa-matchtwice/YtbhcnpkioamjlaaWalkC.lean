/-
  Walks of octet's Put, readDigits, isPlace, Get, Swap. Conditions: lengths within the machine's bounds.
-/
import Derived.Test.YtbhcnpkioamjlaaWalkB
namespace Go.Proofs.Ytbhcnpkioamjlaa
open Go.RowKit
set_option linter.unusedVariables false
set_option maxRecDepth 100000

/-- A place in bytes, or right behind the last. -/
def pOk (n : Nat) (at_ : Int) : Bool := decide (0 ≤ at_) && decide (at_ ≤ n)
end Go.Proofs.Ytbhcnpkioamjlaa

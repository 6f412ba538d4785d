/-
  What the proofs of this layer's laws open their arguments with. No conditions but the form's own reach.
-/
import Derived.Test.YtelfjgnmbikofaaBLives
import Derived.Test.YtelfjgnmbikofaaRows
import Derived.ProofKit
import Derived.OpenShut
import Derived.SizedLaws
namespace Go.Proofs.Ytelfjgnmbikofaa
open Go.ChangeShapes Go.WideShapes Go.ChangeAt Go.RowKit
set_option linter.unusedVariables false
set_option maxRecDepth 100000

theorem Try.ownKnob0 : ownKnob Try.prog.godebug = none := by kernel_rfl
theorem Try.laidOut0 : laidOutB Try.prog = true := by kernel_rfl
end Go.Proofs.Ytelfjgnmbikofaa

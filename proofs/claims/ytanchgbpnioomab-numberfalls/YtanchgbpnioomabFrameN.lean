/-
  What the frames of proofs over plain numbers want. No conditions.
-/
import Derived.Test.YtanchgbpnioomabNWiden
import Derived.ProofKit
import Derived.OpenShut
import Derived.SizedLaws
namespace Go.Proofs.Ytanchgbpnioomab
open Go.ChangeShapes Go.WideShapes Go.ChangeAt Go.RowKit
set_option maxRecDepth 100000

theorem Try.ownKnob0 : ownKnob Try.prog.godebug = none := by kernel_rfl
theorem Try.laidOut0 : laidOutB Try.prog = true := by kernel_rfl
end Go.Proofs.Ytanchgbpnioomab

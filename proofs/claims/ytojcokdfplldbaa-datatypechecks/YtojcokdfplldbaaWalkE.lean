/-
  The law's own examples hold (lives). No conditions.
-/
import Derived.Test.YtojcokdfplldbaaWalkD
namespace Go.Proofs.Ytojcokdfplldbaa
open Go.RowKit
set_option linter.unusedVariables false
set_option maxRecDepth 100000

theorem lives_put (w : World) : Calls Try.prog 43 #[.slice none 0 0, .int .i64 2, .bool true, .int .u64 258] w fun e w' =>
    e = .returned (.tuple #[.slice (some ⟨w.heap.size, 0, none⟩) 2 2, .int .i64 0]) ∧ Bs w' (.slice (some ⟨w.heap.size, 0, none⟩) 2 2) [1, 2] ∧ Below w.heap.size w w' := by
  refine (put_yes (.slice none 0 0) [] 258 2 true w (Bs.nil w) (by simp) (by decide) (by decide) (by decide)).mono fun e w' ⟨h1, h2, h3⟩ => ⟨h1, ?_, h3⟩
  have e : [] ++ dig2 true 258 2 = [1, 2] := by decide
  rw [e] at h2
  exact h2.whole
end Go.Proofs.Ytojcokdfplldbaa

/-
  What is packed has at most a byte more: the law's walk; that of bytes that are all alike, and of a row that stands twice. No conditions.
-/
import Derived.Test.YtgodoogmbdgeoabMPkX
namespace Go.Proofs.Ytgodoogmbdgeoab
open Go.RowKit
set_option linter.unusedVariables false
set_option maxRecDepth 100000

theorem TlP.open {w w' : World} {er : Int} {R : List Int} {e : Ending} (h : TlP w er R e w') : ∃ ao k cap, e = .returned (.tuple #[.slice ao k cap, .int .i64 er]) ∧ R.length = k ∧ Own w' w.heap.size (.slice ao k cap) R ∧ Below w.heap.size w w' := by
  obtain ⟨x, rfl, ho, hb⟩ := h
  obtain ⟨ao, cap, rfl, _, _⟩ := id ho.opened
  exact ⟨ao, _, cap, rfl, rfl, ho, hb⟩
end Go.Proofs.Ytgodoogmbdgeoab

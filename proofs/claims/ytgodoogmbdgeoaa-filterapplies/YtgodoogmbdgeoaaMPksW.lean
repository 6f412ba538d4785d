/-
  Any bytes are packed as the document says: the law's walk. No conditions.
-/
import Derived.Test.YtgodoogmbdgeoaaMRefTk
import Derived.Test.YtgodoogmbdgeoaaMUnpW
namespace Go.Proofs.Ytgodoogmbdgeoaa
open Go.RowKit
set_option linter.unusedVariables false
set_option maxRecDepth 100000

theorem Own.ltM {w : World} {B : Nat} {v : Value} {l : List Int} (h : Own w B v l) : ∀ k, v.ownBlock = some k → B ≤ k ∧ k < w.heap.size := fun k hk => World.ownsRow.lt h k hk
theorem Own.setOtherM {w : World} {B p o : Nat} {v x : Value} {l : List Int} (h : Own w B v l) (hp : p < B) : Own (w.setCell ⟨p, o, none⟩ x) B v l := by
  have h' : w.ownsRow B 5 1 v l.length (bcells l) := h
  have hb : w.grownBy (w.setCell ⟨p, o, none⟩ x) (some p) := ⟨rfl, rfl, rfl, by simp [World.setCell], fun k hk hne => Below.heap_setCell _ _ _ _ (fun e => hne (by rw [e]))⟩
  refine World.ownsRow.kept h' hb ?_
  cases hx : v.ownBlock with
  | none => exact .inl rfl
  | some k => exact .inr (fun e => by have := (h.ltM k hx).1; have : k = p := Option.some.inj e; omega)
end Go.Proofs.Ytgodoogmbdgeoaa

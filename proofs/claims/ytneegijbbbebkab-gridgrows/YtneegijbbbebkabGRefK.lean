/-
  The document's Clip. Conditions: lengths are such as memory bears.
-/
import Derived.Test.YtneegijbbbebkabGRefC
import Derived.Deep.RegionHeldLaw
namespace Go.Proofs.Ytneegijbbbebkab
open Go.RowKit Go.Shelf
set_option linter.unusedVariables false
set_option maxRecDepth 100000

theorem clip_ref {n s c : Int} (hn : 0 ≤ n) (hs : 1 ≤ s) (hc : 0 ≤ c) : (if c ≤ n / s then c * s else n) = (if c ≤ n ∧ c * s < n then c * s else n) := by
  have h1 : c ≤ n / s ↔ c * s ≤ n := Int.le_ediv_iff_mul_le (by omega)
  have h2 := Int.mul_le_mul_of_nonneg_left hs hc
  by_cases h : c ≤ n / s
  · have h3 := h1.1 h
    rw [if_pos h]
    by_cases h4 : c * s < n
    · rw [if_pos ⟨by omega, h4⟩]
    · rw [if_neg (by omega)]; omega
  · have h3 : ¬ c * s ≤ n := fun e => h (h1.2 e)
    rw [if_neg h, if_neg (by omega)]
theorem take_snoc {α : Type} {l : List α} {i : Nat} {x : α} (h : l[i]? = some x) : l.take (i + 1) = l.take i ++ [x] := by
  rw [List.take_add_one, h]; rfl
end Go.Proofs.Ytneegijbbbebkab

/-
  A place within bytes, whatever number is asked; a byte of the call's own slice, read and written. No conditions.
-/
import Derived.Test.YtgodoogmbdgeoabSealWalk
import Derived.Test.YtgodoogmbdgeoabFrame
namespace Go.Proofs.Ytgodoogmbdgeoab
open Go.ChangeShapes Go.WideShapes Go.ChangeAt Go.RowKit
set_option linter.unusedVariables false
set_option maxRecDepth 100000

/-- A place within n, whatever number is asked. -/
theorem place_any (a : Int) (n : Nat) (h : 1 ≤ n) : ∃ k : Nat, k < n ∧ (a.tmod (n : Int) + (n : Int)).tmod (n : Int) = (k : Int) ∧ -(n : Int) ≤ a.tmod (n : Int) ∧ a.tmod (n : Int) < (n : Int) := by
  have hp : (0 : Int) < (n : Int) := by omega
  have h1 : a.tmod (n : Int) < (n : Int) := Int.tmod_lt_of_pos a hp
  have h2 : -(n : Int) ≤ a.tmod (n : Int) := by
    have e := Int.tmod_eq_emod (a := a) (b := (n : Int))
    have := Int.emod_nonneg a (show (n : Int) ≠ 0 by omega)
    rw [e]
    split
    · omega
    · simp only [Int.natAbs_natCast]; omega
  have h3 := Int.emod_nonneg (a.tmod (n : Int) + (n : Int)) (show (n : Int) ≠ 0 by omega)
  have h4 := Int.emod_lt_of_pos (a.tmod (n : Int) + (n : Int)) hp
  refine ⟨((a.tmod (n : Int) + (n : Int)) % (n : Int)).toNat, by omega, ?_, h2, h1⟩
  rw [Int.tmod_eq_emod_of_nonneg (by omega)]
  omega
theorem Own.stored {w : World} {B g n cap : Nat} {l : List Int} (h : Own w B (.slice (some ⟨g, 0, none⟩) n cap) l) (hl : l.length = n) (j : Nat) (u : Int) :
    Own (w.setCell ⟨g, j, none⟩ (.int .u8 u)) B (.slice (some ⟨g, 0, none⟩) n cap) (l.set j u) ∧ w.grownBy (w.setCell ⟨g, j, none⟩ (.int .u8 u)) (some g) := by
  have h' : w.ownsRow B 5 1 (.slice (some ⟨g, 0, none⟩) n cap) n (bcells l) := by have := h; unfold Own at this; rwa [hl] at this
  obtain ⟨h1, h2⟩ := h'.stored j (.int .u8 u)
  refine ⟨?_, h2⟩
  unfold Own
  rw [List.length_set, hl]
  have e : bcells (l.set j u) = (bcells l).set j (.int .u8 u) := by simp [bcells, List.map_set]
  rw [e]; exact h1
theorem Own.cell {w : World} {B g n cap : Nat} {l : List Int} (h : Own w B (.slice (some ⟨g, 0, none⟩) n cap) l) (hl : l.length = n) (j : Nat) (hj : j < n) : w.cell? ⟨g, j, none⟩ = some (.int .u8 (l.getD j 0)) ∧ w.frozen? ⟨g, j, none⟩ = false := by
  have h' : w.ownsRow B 5 1 (.slice (some ⟨g, 0, none⟩) n cap) n (bcells l) := by have := h; unfold Own at this; rwa [hl] at this
  refine ⟨?_, h'.frozenAt j⟩
  rw [h'.cellAt j (by omega)]
  simp [bcells, List.getD, hl, hj]

theorem byt_set {l : List Int} (h : Byt l) (j : Nat) {x : Int} (hx : 0 ≤ x ∧ x ≤ 255) : Byt (l.set j x) := fun i => by
  by_cases e : j = i
  · subst e
    by_cases hj : j < l.length
    · have : (l.set j x).getD j 0 = x := by simp [List.getD, hj]
      rw [this]; exact hx
    · have : (l.set j x).getD j 0 = 0 := by rw [List.getD, List.getElem?_eq_none (by simp; omega)]; rfl
      rw [this]; omega
  · have : (l.set j x).getD i 0 = l.getD i 0 := by simp [List.getD, List.getElem?_set_ne e]
    rw [this]; exact h i

end Go.Proofs.Ytgodoogmbdgeoab

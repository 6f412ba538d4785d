/-
  Any bytes are unpacked as the document says: the law's walk. No conditions.
-/
import Derived.Test.YtgodoogmbdgeoaaMRefV
namespace Go.Proofs.Ytgodoogmbdgeoaa
open Go.RowKit
set_option linter.unusedVariables false
set_option maxRecDepth 100000

theorem Own.storedM {w : World} {B g n cap : Nat} {l : List Int} (h : Own w B (.slice (some ⟨g, 0, none⟩) n cap) l) (hl : l.length = n) (j : Nat) (u : Int) :
    Own (w.setCell ⟨g, j, none⟩ (.int .u8 u)) B (.slice (some ⟨g, 0, none⟩) n cap) (l.set j u) := by
  have h' : w.ownsRow B 5 1 (.slice (some ⟨g, 0, none⟩) n cap) n (bcells l) := by have := h; unfold Own at this; rwa [hl] at this
  obtain ⟨h1, h2⟩ := h'.stored j (.int .u8 u)
  unfold Own
  rw [List.length_set, hl]
  have e : bcells (l.set j u) = (bcells l).set j (.int .u8 u) := by simp [bcells, List.map_set]
  rw [e]; exact h1
theorem Own.cellM {w : World} {B g n cap : Nat} {l : List Int} (h : Own w B (.slice (some ⟨g, 0, none⟩) n cap) l) (hl : l.length = n) (j : Nat) (hj : j < n) : w.cell? ⟨g, j, none⟩ = some (.int .u8 (l.getD j 0)) ∧ w.frozen? ⟨g, j, none⟩ = false := by
  have h' : w.ownsRow B 5 1 (.slice (some ⟨g, 0, none⟩) n cap) n (bcells l) := by have := h; unfold Own at this; rwa [hl] at this
  refine ⟨?_, h'.frozenAt j⟩
  rw [h'.cellAt j (by omega)]
  simp [bcells, List.getD, hl, hj]
theorem unE_err (l : List Int) (m : Nat) : (unE l m).2 = 0 ∨ (unE l m).2 = 3 ∨ (unE l m).2 = 5 := by
  rcases un_most l m with h | h
  · exact .inl h.1
  · rcases h.2 with h | h
    · exact .inr (.inl h)
    · exact .inr (.inr h)
theorem unA_err (l : List Int) (most : Int) : 0 ≤ (unA l most).2 ∧ (unA l most).2 ≤ 5 := by
  unfold unA
  split
  · simp
  · have := unE_err l most.toNat
    omega
theorem unA_len (l : List Int) (most : Int) : (unA l most).1.length ≤ 65536 := by
  unfold unA
  split
  · simp
  · rename_i h
    rcases un_most l most.toNat with h1 | h1
    · have := h1.2; omega
    · rw [h1.1]; simp
theorem own_drewN {w : World} {B : Nat} {v : Value} {l : List Int} (h : Own w B v l) (k : Nat) : Own (w.drewN k) B v l := h.below (below_drewN (Below.refl _ _) k)
end Go.Proofs.Ytgodoogmbdgeoaa

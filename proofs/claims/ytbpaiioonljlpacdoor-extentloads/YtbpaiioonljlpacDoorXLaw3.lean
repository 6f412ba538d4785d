/-
  The walks of the laws' own functions: lent, kept, spoil. Conditions: the numbers are ints, the list's length is one that memory bears.
-/
import Derived.Test.YtbpaiioonljlpacDoorXLaw2
namespace Go.Proofs.YtbpaiioonljlpacDoor
open Go.RowKit Go.Sort Go.Shelf Go.Lib
set_option linter.unusedVariables false
set_option maxRecDepth 100000

/-- A slice that was lent: one more lies behind its end. -/
def Lent (w : World) (B : Nat) (v : Value) (l : List Ext) : Prop :=
  ∃ g cap, v = .slice (some ⟨g, 0, none⟩) l.length cap ∧ B ≤ g ∧ Xs w (.slice (some ⟨g, 0, none⟩) (l.length + 1) cap) (l ++ [(-9, -9)])
theorem Lent.below {w w' : World} {B : Nat} {v : Value} {l : List Ext} (h : Lent w B v l) (hb : Below w.heap.size w w') : Lent w' B v l := by
  obtain ⟨g, cap, rfl, hB, hx⟩ := h
  exact ⟨g, cap, rfl, hB, hx.below hb⟩
theorem Lent.xs {w : World} {B : Nat} {v : Value} {l : List Ext} (h : Lent w B v l) : Xs w v l := by
  obtain ⟨g, cap, rfl, hB, ao, cap', hv, hc, hn, hcell⟩ := h
  injection hv with e1 e2 e3
  subst e1; subst e3
  refine ⟨_, _, rfl, by simp at hc; omega, hn, fun ad ha j u hj => hcell ad ha j u ?_⟩
  rw [ecells_append, List.getElem?_append_left (by rw [ecells_length]; exact ecells_get hj)]
  exact hj
theorem Lent.grown {w w' : World} {B : Nat} {v : Value} {l : List Ext} {r : Option Nat} (h : Lent w B v l) (hg : w.grownBy w' r) (hr : ∀ k, r = some k → v.ownBlock ≠ some k) : Lent w' B v l := by
  obtain ⟨g, cap, rfl, hB, hx⟩ := h
  refine ⟨g, cap, rfl, hB, ?_⟩
  obtain ⟨ao, cap', hv, hc, hn, hcell⟩ := hx
  have hv' := hv
  injection hv with e1 e2 e3
  subst e1
  refine ⟨_, cap', hv', hc, hn, fun ad ha j u hj => ?_⟩
  have hc0 := hcell ad ha j u hj
  obtain rfl := Option.some.inj ha
  rw [addr_addX] at hc0 ⊢
  have hlt := World.block_lt_of_cell? w _ hc0
  exact (World.cell?_of_block (w := w) (a := ⟨g, 0 + j, none⟩) (hg.block g hlt (fun e => hr g e.symm rfl))).trans hc0

end Go.Proofs.YtbpaiioonljlpacDoor

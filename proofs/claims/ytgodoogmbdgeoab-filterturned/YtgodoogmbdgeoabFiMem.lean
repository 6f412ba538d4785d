/-
  Filters in memory: a slice that reads as a list of them. No conditions.
-/
import Derived.Test.YtgodoogmbdgeoabFiM
import Derived.Test.YtgodoogmbdgeoabMem
namespace Go.Proofs.Ytgodoogmbdgeoab
open Go.RowKit
set_option linter.unusedVariables false
set_option maxRecDepth 100000

def encF (x : Fil) : List Value := [.int .i64 x.1, .int .i64 x.2]
def fcells (l : List Fil) : List Value := l.flatMap encF
theorem fcells_length (l : List Fil) : (fcells l).length = l.length * 2 := by
  induction l with
  | nil => rfl
  | cons r l ih => simp [fcells, encF] at ih ⊢; omega
theorem fcells_at (l : List Fil) : ∀ (i : Nat), i < l.length → (fcells l)[i * 2]? = some (.int .i64 (l.getD i (0, 0)).1) ∧ (fcells l)[i * 2 + 1]? = some (.int .i64 (l.getD i (0, 0)).2) := by
  induction l with
  | nil => intro i h; simp at h
  | cons x l ih =>
    intro i h
    cases i with
    | zero => simp [fcells, encF]
    | succ i =>
      obtain ⟨h1, h2⟩ := ih i (by simpa using h)
      rw [show (i + 1) * 2 = i * 2 + 2 by omega]
      exact ⟨by simpa [fcells, encF] using h1, by simpa [fcells, encF] using h2⟩
theorem fcells_get {l : List Fil} {j : Nat} {u : Value} (h : (fcells l)[j]? = some u) : j < l.length * 2 := by
  have := (List.getElem?_eq_some_iff.1 h).1
  rwa [fcells_length] at this
theorem fcells_one (l : List Fil) : ∀ u ∈ fcells l, u.oneCell' = true := by
  intro u hu
  simp only [fcells, List.mem_flatMap] at hu
  obtain ⟨r, hr, hu⟩ := hu
  simp [encF] at hu
  rcases hu with rfl | rfl <;> rfl
theorem addr_addF (g o i : Nat) : (⟨g, o, none⟩ : Addr).add i = ⟨g, o + i, none⟩ := by unfold Addr.add; split <;> simp_all
/-- A slice that reads as filters. -/
def Fls (w : World) (v : Value) (l : List Fil) : Prop :=
  ∃ ao cap, v = .slice ao l.length cap ∧ l.length ≤ cap ∧ (ao = none → cap = 0) ∧ ∀ ad, ao = some ad → ∀ j u, (fcells l)[j]? = some u → w.cell? (ad.add j) = some u
theorem Fls.keep {w w' : World} {v : Value} {l : List Fil} (h : Fls w v l) (hk : ∀ p x, w.cell? p = some x → w'.cell? p = some x) : Fls w' v l := by
  obtain ⟨ao, cap, hv, hc, hn, hcell⟩ := h
  exact ⟨ao, cap, hv, hc, hn, fun ad ha j u hj => hk _ _ (hcell ad ha j u hj)⟩
theorem Fls.below {w w' : World} {v : Value} {l : List Fil} (h : Fls w v l) (hb : Below w.heap.size w w') : Fls w' v l :=
  h.keep fun p x hx => (hb.cell (World.block_lt_of_cell? w p hx)).trans hx
theorem Fls.nil (w : World) : Fls w (.slice none 0 0) [] := ⟨none, 0, rfl, Nat.le_refl _, fun _ => rfl, fun _ h => by cases h⟩
/-- Its shape, and its cells one by one. -/
theorem Fls.opened {w : World} {v : Value} {l : List Fil} (h : Fls w v l) :
    ∃ ao cap, v = .slice ao l.length cap ∧ l.length ≤ cap ∧ ∀ i, i < l.length → ∃ b off, ao = some ⟨b, off, none⟩ ∧
      w.cell? ⟨b, off + i * 2, none⟩ = some (.int .i64 (l.getD i (0, 0)).1) ∧ w.cell? ⟨b, off + i * 2 + 1, none⟩ = some (.int .i64 (l.getD i (0, 0)).2) ∧ b < w.heap.size := by
  obtain ⟨ao, cap, rfl, hc, hn, hcell⟩ := h
  refine ⟨ao, cap, rfl, hc, fun i hi => ?_⟩
  cases ao with
  | none => have := hn rfl; omega
  | some ad =>
    obtain ⟨b, off, spot⟩ := ad
    obtain ⟨e1, e2⟩ := fcells_at l i hi
    have h1 := hcell _ rfl _ _ e1
    have h2 := hcell _ rfl _ _ e2
    have h0 := hcell _ rfl _ _ (fcells_at l 0 (by omega)).1
    have hspot : spot = none := by simpa [Addr.add] using World.cell?_spot h0
    subst hspot
    rw [addr_addF] at h1 h2
    exact ⟨b, off, rfl, h1, h2, World.block_lt_of_cell? w _ h1⟩
end Go.Proofs.Ytgodoogmbdgeoab

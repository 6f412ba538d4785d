/-
  The walk of extent.Take. Conditions: the numbers are ints, the list's length is one that memory bears.
-/
import Derived.Test.YtkiccnedmejnaabDoorXConcat
namespace Go.Proofs.YtkiccnedmejnaabDoor
open Go.RowKit Go.Sort Go.Shelf Go.Lib
set_option linter.unusedVariables false
set_option maxRecDepth 100000

/-- The first that has so many bytes; the list without them. -/
def tIdx (l : List Ext) (n : Int) : Nat := l.findIdx fun x => decide (n ≤ x.2)
def cutL (l : List Ext) (i : Nat) (n : Int) : List Ext := l.take i ++ ((if n < (l.getD i (0, 0)).2 then [((l.getD i (0, 0)).1 + n, (l.getD i (0, 0)).2 - n)] else []) ++ l.drop (i + 1))
def tOk (l : List Ext) (n : Int) : Bool := decide (1 ≤ n) && goodB l 4194304
def takeErr (l : List Ext) (n : Int) : Int := if tOk l n = true then (if tIdx l n < l.length then 0 else 7) else 2
def takeAt (l : List Ext) (n : Int) : Int := if takeErr l n = 0 then (l.getD (tIdx l n) (0, 0)).1 else 0
def takeList (l : List Ext) (n : Int) : List Ext := if takeErr l n = 0 then cutL l (tIdx l n) n else []

theorem tIdx_at {l : List Ext} {n : Int} {k : Nat} (hk : k < l.length) (h : ∀ j, j < k → (l.getD j (0, 0)).2 < n) (hn : n ≤ (l.getD k (0, 0)).2) : tIdx l n = k := by
  unfold tIdx
  rw [List.findIdx_eq hk]
  refine ⟨?_, fun j hj => ?_⟩
  · simpa [List.getD, hk] using hn
  · have := h j hj
    simp [List.getD, show j < l.length by omega] at this
    simpa using this
theorem tIdx_none {l : List Ext} {n : Int} (h : ∀ j, j < l.length → (l.getD j (0, 0)).2 < n) : tIdx l n = l.length := by
  unfold tIdx
  rw [List.findIdx_eq_length]
  intro x hx
  obtain ⟨j, hj, rfl⟩ := List.getElem_of_mem hx
  have := h j hj
  simp [List.getD, hj] at this
  simpa using this
theorem take_found {l : List Ext} {n : Int} {k : Nat} (ho : tOk l n = true) (hk : k < l.length) (h : ∀ j, j < k → (l.getD j (0, 0)).2 < n) (hn : n ≤ (l.getD k (0, 0)).2) :
    takeErr l n = 0 ∧ takeAt l n = (l.getD k (0, 0)).1 ∧ takeList l n = cutL l k n := by
  have e := tIdx_at hk h hn
  have e0 : takeErr l n = 0 := by unfold takeErr; rw [if_pos ho, e, if_pos hk]
  unfold takeAt takeList
  rw [e0, e]
  exact ⟨rfl, rfl, rfl⟩
theorem take_full {l : List Ext} {n : Int} (ho : tOk l n = true) (h : ∀ j, j < l.length → (l.getD j (0, 0)).2 < n) : takeErr l n = 7 ∧ takeAt l n = 0 ∧ takeList l n = [] := by
  have e := tIdx_none h
  have e0 : takeErr l n = 7 := by unfold takeErr; rw [if_pos ho, e, if_neg (by omega)]
  unfold takeAt takeList
  rw [e0]
  exact ⟨rfl, rfl, rfl⟩
theorem take_arg {l : List Ext} {n : Int} (ho : tOk l n = false) : takeErr l n = 2 ∧ takeAt l n = 0 ∧ takeList l n = [] := by
  have e0 : takeErr l n = 2 := by unfold takeErr; rw [ho]; rfl
  unfold takeAt takeList
  rw [e0]
  exact ⟨rfl, rfl, rfl⟩
theorem cut_same {l : List Ext} {k : Nat} {n : Int} (h : (l.getD k (0, 0)).2 = n) : cutL l k n = l.take k ++ l.drop (k + 1) := by
  unfold cutL; rw [if_neg (by omega)]; rfl
theorem cut_set {l : List Ext} {k : Nat} {n : Int} (hk : k < l.length) (h : n < (l.getD k (0, 0)).2) : cutL l k n = l.set k ((l.getD k (0, 0)).1 + n, (l.getD k (0, 0)).2 - n) := by
  unfold cutL; rw [if_pos h, List.set_eq_take_append_cons_drop, if_pos hk]; rfl
theorem lt_snoc {l : List Ext} {n : Int} {k : Nat} (h : ∀ j, j < k → (l.getD j (0, 0)).2 < n) (hk : (l.getD k (0, 0)).2 < n) : ∀ j, j < k + 1 → (l.getD j (0, 0)).2 < n := by
  intro j hj
  by_cases e : j = k
  · subst e; exact hk
  · exact h j (by omega)

/-- A part of a slice. -/
theorem ecells_take (l : List Ext) (k : Nat) : ecells (l.take k) = (ecells l).take (k * 2) := by
  induction l generalizing k with
  | nil => simp [ecells]
  | cons x l ih =>
    cases k with
    | zero => simp [ecells]
    | succ k => have := ih k; rw [show (k + 1) * 2 = k * 2 + 2 by omega]; simpa [ecells, encE] using this
theorem ecells_drop (l : List Ext) (k : Nat) : ecells (l.drop k) = (ecells l).drop (k * 2) := by
  induction l generalizing k with
  | nil => simp [ecells]
  | cons x l ih =>
    cases k with
    | zero => simp [ecells]
    | succ k => have := ih k; rw [show (k + 1) * 2 = k * 2 + 2 by omega]; simpa [ecells, encE] using this
theorem Xs.first {w : World} {b off n cap : Nat} {l : List Ext} (h : Xs w (.slice (some ⟨b, off, none⟩) n cap) l) {k : Nat} (hk : k ≤ l.length) : Xs w (.slice (some ⟨b, off, none⟩) k cap) (l.take k) := by
  obtain ⟨ao, cap', hv, hc, hn, hcell⟩ := h
  injection hv with e1 e2 e3
  subst e1; subst e3
  have hl : (l.take k).length = k := by rw [List.length_take]; omega
  refine ⟨_, _, by rw [hl], by omega, hn, fun ad ha j u hj => hcell ad ha j u ?_⟩
  rw [ecells_take] at hj
  by_cases h2 : j < k * 2
  · rwa [List.getElem?_take_of_lt h2] at hj
  · rw [List.getElem?_take_eq_none (by omega)] at hj; cases hj
theorem Xs.rest {w : World} {b off n cap : Nat} {l : List Ext} (h : Xs w (.slice (some ⟨b, off, none⟩) n cap) l) {k : Nat} (hk : k ≤ l.length) {ao : Option Addr} (hao : k < l.length → ao = some ⟨b, off + k * 2, none⟩) (hno : ao ≠ none) : Xs w (.slice ao (n - k) (cap - k)) (l.drop k) := by
  obtain ⟨ao', cap', hv, hc, hn, hcell⟩ := h
  injection hv with e1 e2 e3
  subst e1; subst e3; subst e2
  have hl : (l.drop k).length = l.length - k := List.length_drop
  refine ⟨ao, _, by rw [hl], by omega, fun e => absurd e hno, fun ad ha j u hj => ?_⟩
  rw [ecells_drop, List.getElem?_drop] at hj
  have hlt : k * 2 + j < l.length * 2 := ecells_get hj
  rw [hao (by omega)] at ha
  obtain rfl := Option.some.inj ha
  have := hcell _ rfl _ _ hj
  rw [addr_addX] at this ⊢
  rwa [Nat.add_assoc]
theorem newPair (w : World) (h : Nat) (a b : Value) (T : TypeId) (hh : h = w.heap.size) : (w.alloc (.cells #[a, b] T)).cell? ⟨h, 0, none⟩ = some a ∧ (w.alloc (.cells #[a, b] T)).cell? ⟨h, 1, none⟩ = some b := by
  subst hh; exact cells_pairX (heap_alloc_new w _)
theorem newPairD (w : World) (h : Nat) (a b : Value) (T : TypeId) (hh : h = w.heap.size) : (w.alloc (.cells #[a, b] T)).drew.cell? ⟨h, 0, none⟩ = some a ∧ (w.alloc (.cells #[a, b] T)).drew.cell? ⟨h, 1, none⟩ = some b := newPair w h a b T hh
theorem own_free {w : World} {B : Nat} {T : TypeId} {g n cap : Nat} {l : List Ext} (h : OwnX w B T (.slice (some ⟨g, 0, none⟩) n cap) l) : ∀ j, w.frozen? ⟨g, j, none⟩ = false := by
  obtain ⟨a', c', hv, _, _, hs⟩ := h.shape
  injection hv with e1
  rcases hs with ⟨h, _⟩ | ⟨g', h, _, _, hf⟩
  · rw [← e1] at h; cases h
  · rw [h] at e1; injection e1 with e1; injection e1 with e1; subst e1; exact hf
theorem set_set_ext {l : List Ext} {k : Nat} (hk : k < l.length) {a s : Int} : (l.set k (a, (l.getD k (0, 0)).2)).set k (((l.set k (a, (l.getD k (0, 0)).2)).getD k (0, 0)).1, s) = l.set k (a, s) := by
  rw [List.set_set]
  congr 2
  simp [List.getD, hk]
theorem cutL_length (l : List Ext) (i : Nat) (n : Int) (hi : i < l.length) : (cutL l i n).length ≤ l.length := by
  unfold cutL
  rw [List.length_append, List.length_append, List.length_take, List.length_drop]
  split <;> simp <;> omega
theorem takeList_length (l : List Ext) (n : Int) : (takeList l n).length ≤ l.length := by
  unfold takeList
  split
  · rename_i h
    have : tIdx l n < l.length := by
      unfold takeErr at h
      split at h
      · split at h
        · assumption
        · omega
      · omega
    exact cutL_length l _ n this
  · simp
end Go.Proofs.YtkiccnedmejnaabDoor

/-
  The walk of joined: a list in order becomes a good list, in a row of its own. Conditions: each of the list may be and has a byte, they stand in order.
-/
import Derived.Test.YtdalkjenjnalbaaDoorXInOrder
import Derived.Test.YtdalkjenjnalbaaDoorTail
import Derived.Shelf.SlSortCmp.QuietGrown
import Derived.BigRegion
namespace Go.Proofs.YtdalkjenjnalbaaDoor
open Go.RowKit Go.Sort Go.Shelf Go.Lib
set_option linter.unusedVariables false
set_option maxRecDepth 100000

theorem joinL_fit {l : List Ext} (h : ∀ x ∈ l, fitB x = true) (ho : InOrd l) : ∀ y ∈ joinL l, fitB y = true := by
  intro y hy
  have h1 : ∀ x ∈ l, 1 ≤ x.2 := fun x hx => (fitB_iff.1 (h x hx)).2.1
  obtain ⟨s, c⟩ := joinL_sep h1 ho
  have hy2 := s.1 y hy
  obtain ⟨a, ha, a1, a2⟩ := (c y.1).1 ⟨y, hy, Int.le_refl _, by omega⟩
  obtain ⟨b, hb, b1, b2⟩ := (c (y.1 + y.2 - 1)).1 ⟨y, hy, by omega, by omega⟩
  have ha' := fitB_iff.1 (h a ha)
  have hb' := fitB_iff.1 (h b hb)
  rw [fitB_iff]; omega
theorem ord_take {l : List Ext} (h : InOrd l) (k : Nat) : InOrd (l.take k) := List.Pairwise.sublist (List.take_sublist k l) h
theorem fit_take {l : List Ext} (h : ∀ x ∈ l, fitB x = true) (k : Nat) : ∀ x ∈ l.take k, fitB x = true := fun x hx => h x (List.take_subset k l hx)
theorem getD_snoc (o : List Ext) (c : Ext) : (o ++ [c]).getD o.length (0, 0) = c := by simp [List.getD]

/-- A round's three ways. -/
theorem joinL_step {l : List Ext} {k : Nat} (hk : k < l.length) : joinL (l.take (k + 1)) = jstep (joinL (l.take k)) (l.getD k (0, 0)) := by
  rw [take_snoc l hk, joinL_snoc]
theorem set_snoc (o : List Ext) (c d : Ext) : (o ++ [c]).set o.length d = o ++ [d] := by simp

theorem below_grow (w : World) (n : Nat) (os : Array Obj) : Below w.heap.size w (grow (w.drewN n) os) :=
  ⟨rfl, rfl, rfl, by simp, fun k hk => heap_grow_old _ _ (by simpa using hk)⟩
theorem end_grown (a b : Int) (w : World) (ha : 0 ≤ a) (hb : 0 ≤ b) (hab : a + b ≤ 9223372036854775807) :
    Calls Tryd.prog 66 #[.agg #[.int .i64 a, .int .i64 b]] w fun e w' => e = .returned (.int .i64 (a + b)) ∧ ∃ q os', w' = grow (w.drewN q) os' :=
  (end_eq a b w ha hb hab).mono fun e w' ⟨h1, h2⟩ => ⟨h1, 0, _, h2.trans (alloc_eq_grow _ _)⟩

end Go.Proofs.YtdalkjenjnalbaaDoor

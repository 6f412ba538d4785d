/-
  The walks of Normal and of slices.Clone. Conditions: the numbers are ints, the list's length is one that memory bears.
-/
import Derived.Test.YtdalkjenjnalbaaDoorXJoined
namespace Go.Proofs.YtdalkjenjnalbaaDoor
open Go.RowKit Go.Sort Go.Shelf Go.Lib
set_option linter.unusedVariables false
set_option maxRecDepth 100000

/-- What Normal tells. -/
def sortE (l : List Ext) : List Ext := (l.filter fitB).mergeSort fun x y => decide (x.1 ≤ y.1)
def normL (l : List Ext) : List Ext := joinL (sortE l)
def normErr (l : List Ext) : Int := if 65536 < l.length then 3 else if l.all mayB = true then 0 else 2
def normList (l : List Ext) : List Ext := if normErr l = 0 then normL l else []
theorem sortE_perm (l : List Ext) : (sortE l).Perm (l.filter fitB) := List.mergeSort_perm _ _
theorem sortE_ord (l : List Ext) : InOrd (sortE l) := by
  have h := List.pairwise_mergeSort (le := fun x y : Ext => decide (x.1 ≤ y.1)) (fun a b c h1 h2 => by simp at *; omega) (fun a b => by simp; omega) (l.filter fitB)
  exact h.imp (fun h => by simpa using h)
theorem fit_filter (l : List Ext) : ∀ x ∈ l.filter fitB, fitB x = true := fun x hx => (List.mem_filter.1 hx).2
theorem fit_perm {l m : List Ext} (h : m.Perm (l.filter fitB)) : ∀ x ∈ m, fitB x = true := fun x hx => fit_filter l x (h.mem_iff.1 hx)
theorem fit_one {m : List Ext} (h : ∀ x ∈ m, fitB x = true) : ∀ x ∈ m, 1 ≤ x.2 := fun x hx => (fitB_iff.1 (h x hx)).2.1
/-- However it is sorted. -/
theorem joinL_sorted {l m : List Ext} (h : m.Perm (l.filter fitB)) (ho : InOrd m) : joinL m = normL l :=
  joinL_eq (fit_one (fit_perm h)) ho (fit_one (fit_perm (sortE_perm l))) (sortE_ord l) fun b => (cov_perm h).trans (cov_perm (sortE_perm l)).symm

end Go.Proofs.YtdalkjenjnalbaaDoor

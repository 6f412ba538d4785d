/-
  The law's own next, counts and wide. Conditions: lengths are such as memory bears.
-/
import Derived.Test.YtneegijbbbebkabGCovM
namespace Go.Proofs.Ytneegijbbbebkab
open Go.RowKit Go.Shelf
set_option linter.unusedVariables false
set_option maxRecDepth 100000

/-- The digits when the last ones have come round. -/
def Tj (S : List Nat) (m j : Nat) : List Nat := S.take j ++ List.replicate (m - j) 0
theorem Tj_length {S : List Nat} {m j : Nat} (hS : S.length = m) (hj : j ≤ m) : (Tj S m j).length = m := by
  rw [Tj, List.length_append, List.length_take, List.length_replicate]; omega
theorem Tj_all {S : List Nat} {m : Nat} (hS : S.length = m) : Tj S m m = S := by
  rw [Tj, List.take_of_length_le (by omega), Nat.sub_self]; simp
theorem Tj_at {S : List Nat} {m j t : Nat} (hS : S.length = m) (hj : j < m) (ht : S[j]? = some t) : (Tj S m (j + 1))[j]? = some t := by
  rw [Tj, List.getElem?_append_left (by rw [List.length_take]; omega), List.getElem?_take_of_lt (by omega), ht]
theorem Tj_set {S : List Nat} {m j : Nat} (v : Nat) (hS : S.length = m) (hj : j < m) : (Tj S m (j + 1)).set j v = S.take j ++ v :: List.replicate (m - (j + 1)) 0 := by
  have h1 : S.take (j + 1) = S.take j ++ [S[j]'(by omega)] := by rw [List.take_add_one, List.getElem?_eq_getElem (by omega)]; rfl
  have h2 : (S.take j).length = j := by rw [List.length_take]; omega
  rw [Tj, h1, List.append_assoc, List.set_append_right _ _ (by omega), h2, Nat.sub_self]
  rfl
theorem Tj_set0 {S : List Nat} {m j : Nat} (hS : S.length = m) (hj : j < m) : (Tj S m (j + 1)).set j 0 = Tj S m j := by
  rw [Tj_set 0 hS hj, Tj, show m - j = (m - (j + 1)) + 1 by omega, List.replicate_succ]
theorem inc_at {L S : List Nat} {j n t : Nat} (hL : L[j]? = some n) (hS : S[j]? = some t) (hn : inc (L.drop (j + 1)) (S.drop (j + 1)) = none) : inc (L.drop j) (S.drop j) = if t + 1 < n then some ((t + 1) :: List.replicate (L.length - (j + 1)) 0) else none := by
  obtain ⟨h1, rfl⟩ := List.getElem?_eq_some_iff.1 hL
  obtain ⟨h2, rfl⟩ := List.getElem?_eq_some_iff.1 hS
  rw [List.drop_eq_getElem_cons h1, List.drop_eq_getElem_cons h2, inc, hn, List.length_drop]
def NxP (w : World) (g : Nat) (L S : List Nat) (e : Ending) (w' : World) : Prop := ∃ b T, e = .returned (.bool b) ∧ inc L S = (if b = true then some T else none) ∧ RI w' g (toI T) ∧ Kp (· = g) w w'
theorem nx_no {w w' : World} {g : Nat} {L S T : List Nat} (h : inc L S = none) (hr : RI w' g (toI T)) (hk : Kp (· = g) w w') : NxP w g L S (.returned (.bool false)) w' := ⟨false, T, rfl, by rw [h]; rfl, hr, hk⟩
end Go.Proofs.Ytneegijbbbebkab

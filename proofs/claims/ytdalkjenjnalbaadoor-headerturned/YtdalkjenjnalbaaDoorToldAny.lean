/-
  Any byte of what is sealed, turned, is told.
-/
import Derived.Test.YtdalkjenjnalbaaDoorTold
namespace Go.Proofs.YtdalkjenjnalbaaDoor
open Go.RowKit
set_option linter.unusedVariables false
set_option maxRecDepth 100000

theorem num4 (a b c d : Int) : num [a, b, c, d] 4 = a + 256 * (b + 256 * (c + 256 * d)) := by
  rw [show (4 : Nat) = 3 + 1 from rfl, num_cons, show (3 : Nat) = 2 + 1 from rfl, num_cons, show (2 : Nat) = 1 + 1 from rfl, num_cons, show (1 : Nat) = 0 + 1 from rfl, num_cons, show num [] 0 = 0 from rfl]
  omega
theorem num_set4 (T : List Int) (hT : T.length = 4) (j : Nat) (t : Int) (hj : j < 4) (hne : T.getD j 0 ≠ t) : num T 4 ≠ num (T.set j t) 4 := by
  obtain ⟨a, b, c, d, rfl⟩ : ∃ a b c d, T = [a, b, c, d] := by
    match T, hT with
    | [a, b, c, d], _ => exact ⟨a, b, c, d, rfl⟩
  rcases (show j = 0 ∨ j = 1 ∨ j = 2 ∨ j = 3 by omega) with rfl | rfl | rfl | rfl
  · have h : a ≠ t := hne
    rw [show [a, b, c, d].set 0 t = [t, b, c, d] from rfl, num4, num4]; omega
  · have h : b ≠ t := hne
    rw [show [a, b, c, d].set 1 t = [a, t, c, d] from rfl, num4, num4]; omega
  · have h : c ≠ t := hne
    rw [show [a, b, c, d].set 2 t = [a, b, t, d] from rfl, num4, num4]; omega
  · have h : d ≠ t := hne
    rw [show [a, b, c, d].set 3 t = [a, b, c, t] from rfl, num4, num4]; omega
theorem unErr_set_seal (l : List Int) (j : Nat) (t : Int) (hj : j < 4) (hne : (digs (crcN l) 4).getD j 0 ≠ t) : unErr (l ++ (digs (crcN l) 4).set j t) = 5 := by
  rw [unErr_of _ _ (by rw [List.length_set, digs_length]), if_neg]
  intro h
  exact num_set4 _ (digs_length _ 4) j t hj hne ((num_crc l).trans h)
/-- Any byte of what is sealed, turned. -/
theorem unErr_any (l : List Int) (k p t : Nat) (h : k < (sealN l).length) (hp : (p : Int) = (sealN l).getD k 0) (hp2 : p < 256) (ht : t < 256) (hne : p ≠ t) : unErr ((sealN l).set k (t : Int)) = 5 := by
  by_cases hk : k < l.length
  · refine unErr_set l k p t hk ?_ hp2 ht hne
    rw [hp, sealN, List.getD, List.getElem?_append_left hk]; rfl
  · rw [sealN_length] at h
    have e : (sealN l).set k (t : Int) = l ++ (digs (crcN l) 4).set (k - l.length) (t : Int) := by
      unfold sealN; rw [List.set_append_right _ _ (by omega)]
    rw [e]
    refine unErr_set_seal l (k - l.length) t (by omega) ?_
    rw [sealN, List.getD, List.getElem?_append_right (by omega)] at hp
    rw [List.getD, ← hp]
    omega

end Go.Proofs.YtdalkjenjnalbaaDoor

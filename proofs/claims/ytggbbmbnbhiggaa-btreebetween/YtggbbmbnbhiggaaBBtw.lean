/-
  A child's items lie between the two items about it. No conditions.
-/
import Derived.Test.YtggbbmbnbhiggaaBSub
namespace Go.Proofs.Ytggbbmbnbhiggaa
open Go.RowKit
set_option linter.unusedVariables false

theorem mem_preL : ∀ (L : List It) (K : List (List It)), L.length = K.length → ∀ x ∈ L, x ∈ pre L K
  | [], _, _, x, hx => by cases hx
  | y :: L, [], h, x, hx => by simp at h
  | y :: L, k :: K, h, x, hx => by
    show x ∈ k ++ y :: pre L K
    rcases List.mem_cons.1 hx with rfl | h1
    · exact List.mem_append_right _ List.mem_cons_self
    · exact List.mem_append_right _ (List.mem_cons_of_mem _ (mem_preL L K (by simpa using h) x h1))
/-- The items of the child at place k lie between those of the node about it. -/
theorem btw {L : List It} {K : List (List It)} (hl : K.length = L.length + 1) (hr : Rise (il L K)) {k : Nat} {c : List It} (hc : K[k]? = some c) : ∀ y ∈ c, (∀ j x, L[j]? = some x → j + 1 = k → cmpN x.1 y.1 < 0) ∧ (∀ x, L[k]? = some x → cmpN y.1 x.1 < 0) := by
  obtain ⟨h5, h6⟩ := List.getElem?_eq_some_iff.1 hc
  have e1 : K = K.take k ++ c :: K.drop (k + 1) := by rw [← h6, List.getElem_cons_drop, List.take_append_drop]
  have e2 := il_mid (L.take k) (K.take k) c (L.drop k) (K.drop (k + 1)) (by rw [List.length_take, List.length_take]; omega)
  rw [List.take_append_drop, ← e1] at e2
  rw [e2] at hr
  have a1 := List.pairwise_append.1 hr
  have a2 := List.pairwise_append.1 a1.2.1
  intro y hy
  refine ⟨fun j x hx hj => ?_, fun x hx => ?_⟩
  · have hm : x ∈ L.take k := by
      have h7 := (List.getElem?_eq_some_iff.1 hx).1
      have h8 : (L.take k)[j]? = some x := by rw [List.getElem?_take_of_lt (by omega)]; exact hx
      exact List.mem_of_getElem? h8
    exact a1.2.2 x (mem_preL _ _ (by rw [List.length_take, List.length_take]; omega) x hm) y (List.mem_append_left _ hy)
  · obtain ⟨h7, h8⟩ := List.getElem?_eq_some_iff.1 hx
    have hm : x ∈ post (L.drop k) (K.drop (k + 1)) := by
      rw [← List.getElem_cons_drop h7, ← List.getElem_cons_drop (show k + 1 < K.length by omega), h8]
      exact List.mem_cons_self
    exact a2.2.2 y hy x hm
end Go.Proofs.Ytggbbmbnbhiggaa

/-
  The document's capped product along a list, in plain words. No conditions.
-/
import Derived.Test.YtnikbcljonbpcaaSRefM
namespace Go.Proofs.Ytnikbcljonbpcaa
set_option linter.unusedVariables false

theorem capP_min (a b : Int) (ha : 1 ≤ a) (hb : 1 ≤ b) : capP a b = min (a * b) 4097 := by
  rw [capP, if_neg (by omega)]
  split
  · rename_i h
    have h1 : 1 * b ≤ a * b := Int.mul_le_mul_of_nonneg_right ha (by omega)
    have h2 : a * 1 ≤ a * b := Int.mul_le_mul_of_nonneg_left hb (by omega)
    omega
  · rfl
theorem capP_cap (a b : Int) (ha : 1 ≤ a) (hb : 1 ≤ b) : capP (min a 4097) (min b 4097) = min (a * b) 4097 := by
  have h1 : 1 * b ≤ a * b := Int.mul_le_mul_of_nonneg_right ha (by omega)
  have h2 : a * 1 ≤ a * b := Int.mul_le_mul_of_nonneg_left hb (by omega)
  by_cases ha4 : 4096 < a
  · rw [capP, if_neg (by omega), if_pos (by omega)]; omega
  · by_cases hb4 : 4096 < b
    · rw [capP, if_neg (by omega), if_pos (by omega)]; omega
    · have e1 : min a 4097 = a := by omega
      have e2 : min b 4097 = b := by omega
      rw [e1, e2, capP_min a b ha hb]
/-- One dimension more. -/
theorem cap_step (p c b : Int) (hp : 1 ≤ p) (hc : 1 ≤ c) (hb : 1 ≤ b) : capP (min p 4097) (capP c b) = min (p * (c * b)) 4097 := by
  have h1 : 1 * b ≤ c * b := Int.mul_le_mul_of_nonneg_right hc (by omega)
  rw [capP_min c b hc hb, capP_cap p (c * b) hp (by omega)]
theorem cnts_take_step {A : List Ax} {i : Nat} {a : Ax} (h : A[i]? = some a) : prd (cnts (A.take (i + 1))) = prd (cnts (A.take i)) * (a.ct * a.bl) := by
  rw [List.take_add_one, h, cnts_append, prd_append]
  simp [cnts, prd]
theorem cnts_take_pos {A : List Ax} (h : ∀ a ∈ A, 1 ≤ a.ct ∧ 1 ≤ a.bl) (i : Nat) : 1 ≤ prd (cnts (A.take i)) := by
  have h1 : ∀ x ∈ cnts (A.take i), 1 ≤ x := fun x hx => by
    rw [cnts, List.mem_flatMap] at hx
    obtain ⟨a, ha, hx⟩ := hx
    have := h a (List.mem_of_mem_take ha)
    simp at hx
    rcases hx with hx | hx <;> omega
  exact prd_pos (fun x hx => by have := h1 x hx; omega) (fun hx => by have := h1 0 hx; omega)
theorem cnts_zero {A : List Ax} {i : Nat} {a : Ax} (h : A[i]? = some a) (h0 : a.ct = 0 ∨ a.bl = 0) : prd (cnts A) = 0 := by
  refine prd_zero ?_
  rw [cnts, List.mem_flatMap]
  refine ⟨a, List.mem_of_getElem? h, ?_⟩
  simp
  omega
/-- How many the document tells: at most one more than may be. -/
def selN (D : List Int) (s : Sel) : Int := min (slN D s) 4097
end Go.Proofs.Ytnikbcljonbpcaa

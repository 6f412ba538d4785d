/-
  The document's tuples in plain words: a line along each dimension, each tuple that there is with each number of the line. No conditions.
-/
import Derived.Test.YtnikbcljonbpcaaSPlM
namespace Go.Proofs.Ytnikbcljonbpcaa
open Go.RowKit Go.Shelf
set_option linter.unusedVariables false
set_option maxRecDepth 100000

/-- The numbers along a dimension. -/
def lineA (a : Ax) : List Int := (List.range (lenA a)).map (atA a)
/-- The tuples along the first dimensions. -/
def outT (A : List Ax) (d : Nat) : List (List Int) := (List.range (prdN ((A.take d).map lenA))).map (tupA (A.take d))
theorem tupA_snoc (A : List Ax) (a : Ax) (i k : Nat) (hi : i < prdN (A.map lenA)) (hk : k < lenA a) : tupA (A ++ [a]) (i * lenA a + k) = tupA A i ++ [atA a k] := by
  have hK : i * lenA a + k < prdN (A.map lenA ++ [lenA a]) := by
    rw [prdN_append]
    have h1 : (i + 1) * lenA a ≤ prdN (A.map lenA) * lenA a := Nat.mul_le_mul_right _ hi
    rw [Nat.succ_mul] at h1
    simp only [prdN, Nat.mul_one]
    omega
  have e1 : (i * lenA a + k) / lenA a = i := by
    rw [Nat.mul_comm, Nat.mul_add_div (by omega), Nat.div_eq_of_lt hk, Nat.add_zero]
  have e2 : (i * lenA a + k) % lenA a = k := by
    rw [Nat.mul_comm, Nat.mul_add_mod, Nat.mod_eq_of_lt hk]
  rw [tupA, List.map_append, List.map_cons, List.map_nil, dig_snoc _ _ _ hK, e1, e2, List.zip_append (by rw [dig_length, List.length_map])]
  simp [tupA]
theorem range_mul_add (p n k : Nat) (f : Nat → List Int) : (List.range (p * n + (k + 1))).map f = (List.range (p * n + k)).map f ++ [f (p * n + k)] := by
  rw [show p * n + (k + 1) = (p * n + k) + 1 by omega, List.range_succ, List.map_append]
  rfl
theorem outT_zero (A : List Ax) : outT A 0 = [[]] := by
  simp [outT, prdN, tupA, dig]
theorem outT_all {A : List Ax} {d : Nat} (h : A.length ≤ d) : outT A d = (List.range (prdN (A.map lenA))).map (tupA A) := by
  rw [outT, List.take_of_length_le h]
theorem outT_len (A : List Ax) (d : Nat) : (outT A d).length = prdN ((A.take d).map lenA) := by rw [outT, List.length_map, List.length_range]
theorem outT_succ_len {A : List Ax} {d : Nat} {a : Ax} (h : A[d]? = some a) : prdN ((A.take (d + 1)).map lenA) = prdN ((A.take d).map lenA) * lenA a := by
  rw [List.take_add_one, h, List.map_append, prdN_append]
  simp [prdN]
/-- The tuples of one dimension more, as far as they are laid. -/
def moreT (A : List Ax) (d j : Nat) : List (List Int) := (List.range j).map (tupA (A.take (d + 1)))
theorem moreT_zero (A : List Ax) (d : Nat) : moreT A d 0 = [] := rfl
theorem moreT_len (A : List Ax) (d j : Nat) : (moreT A d j).length = j := by rw [moreT, List.length_map, List.length_range]
theorem moreT_step {A : List Ax} {d : Nat} {a : Ax} (h : A[d]? = some a) {i k : Nat} {t : List Int} {x : Int} (ht : (outT A d)[i]? = some t) (hx : (lineA a)[k]? = some x) : moreT A d (i * lenA a + k + 1) = moreT A d (i * lenA a + k) ++ [t ++ [x]] := by
  have hi : i < prdN ((A.take d).map lenA) := by rw [← outT_len]; exact (List.getElem?_eq_some_iff.1 ht).1
  have hk : k < lenA a := by
    have := (List.getElem?_eq_some_iff.1 hx).1
    rwa [lineA, List.length_map, List.length_range] at this
  have e1 : tupA (A.take d) i = t := by
    rw [outT, List.getElem?_map, List.getElem?_range hi] at ht
    simpa using ht
  have e2 : atA a k = x := by
    rw [lineA, List.getElem?_map, List.getElem?_range hk] at hx
    simpa using hx
  rw [moreT, List.range_succ, List.map_append, moreT, List.map_cons, List.map_nil, ← e1, ← e2, ← tupA_snoc _ _ _ _ hi hk, List.take_add_one, h]
  rfl
theorem moreT_all {A : List Ax} {d : Nat} {a : Ax} (h : A[d]? = some a) : moreT A d (prdN ((A.take d).map lenA) * lenA a) = outT A (d + 1) := by
  rw [moreT, outT, outT_succ_len h]
theorem outT_tlen {A : List Ax} {d : Nat} (hd : d ≤ A.length) {t : List Int} (h : t ∈ outT A d) : t.length = d := by
  rw [outT, List.mem_map] at h
  obtain ⟨k, _, rfl⟩ := h
  rw [tupA, List.length_map, List.length_zip, dig_length, List.length_map, List.length_take]
  omega
theorem lineA_len (a : Ax) : (lineA a).length = lenA a := by rw [lineA, List.length_map, List.length_range]
/-- A line as far as it is laid. -/
def lineT (a : Ax) (j : Nat) : List Int := (List.range j).map (atA a)
theorem lineT_zero (a : Ax) : lineT a 0 = [] := rfl
theorem lineT_len (a : Ax) (j : Nat) : (lineT a j).length = j := by rw [lineT, List.length_map, List.length_range]
theorem lineT_step (a : Ax) (j : Nat) : lineT a (j + 1) = lineT a j ++ [atA a j] := by
  rw [lineT, List.range_succ, List.map_append]; rfl
theorem lineT_all (a : Ax) : lineT a (lenA a) = lineA a := rfl
theorem atA_step (a : Ax) (i j : Nat) (b : Nat) (hb : (b : Int) = a.bl) (hj : j < b) : atA a (i * b + j) = a.st + (i : Int) * a.sd + (j : Int) := by
  have e1 : (i * b + j) / b = i := by rw [Nat.mul_comm, Nat.mul_add_div (by omega), Nat.div_eq_of_lt hj, Nat.add_zero]
  have e2 : (i * b + j) % b = j := by rw [Nat.mul_comm, Nat.mul_add_mod, Nat.mod_eq_of_lt hj]
  unfold atA
  rw [← hb, ← Int.natCast_ediv, ← Int.natCast_emod, e1, e2]
theorem prdN_take_le {L : List Nat} (h : ∀ x ∈ L, 0 < x) (d : Nat) : prdN (L.take d) ≤ prdN L ∧ 0 < prdN (L.take d) := by
  have h1 := prdN_append (L.take d) (L.drop d)
  rw [List.take_append_drop] at h1
  have h2 := prdN_pos (L := L.drop d) (fun x hx => h x (List.mem_of_mem_drop hx))
  have h3 := prdN_pos (L := L.take d) (fun x hx => h x (List.mem_of_mem_take hx))
  have h4 := Nat.mul_le_mul_left (prdN (L.take d)) h2
  rw [h1]
  omega
end Go.Proofs.Ytnikbcljonbpcaa

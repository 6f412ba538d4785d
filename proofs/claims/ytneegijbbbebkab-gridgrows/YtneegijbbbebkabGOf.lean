/-
  Of: in which chunk a tuple lies, and where. Conditions: lengths are such as memory bears.
-/
import Derived.Test.YtneegijbbbebkabGRefK
namespace Go.Proofs.Ytneegijbbbebkab
open Go.RowKit Go.Shelf
set_option linter.unusedVariables false
set_option maxRecDepth 100000

def divL (a b : List Int) : List Int := List.zipWith (· / ·) a b
def modL (a b : List Int) : List Int := List.zipWith (· % ·) a b
theorem divL_at {a b : List Int} {i : Nat} {x y : Int} (hx : a[i]? = some x) (hy : b[i]? = some y) : (divL a b)[i]? = some (x / y) := by rw [divL, List.getElem?_zipWith, hx, hy]
theorem modL_at {a b : List Int} {i : Nat} {x y : Int} (hx : a[i]? = some x) (hy : b[i]? = some y) : (modL a b)[i]? = some (x % y) := by rw [modL, List.getElem?_zipWith, hx, hy]
theorem divL_length {a b : List Int} {n : Nat} (ha : a.length = n) (hb : b.length = n) : (divL a b).length = n := by rw [divL, List.length_zipWith]; omega
theorem modL_length {a b : List Int} {n : Nat} (ha : a.length = n) (hb : b.length = n) : (modL a b).length = n := by rw [modL, List.length_zipWith]; omega
def ofE (A S : List Int) : Int := if A.length ≤ 4 ∧ okB A.length A = true ∧ shB A.length S = true then 0 else 2
def OfP (w : World) (A S : List Int) (e : Ending) (w' : World) : Prop := ∃ u v, e = .returned (.tuple #[u, v, .int .i64 (ofE A S)]) ∧ Is w' u (if ofE A S = 0 then divL A S else []) ∧ Is w' v (if ofE A S = 0 then modL A S else []) ∧ Below w.heap.size w w'
theorem ofP_no {w w' : World} {A S : List Int} (h : ofE A S = 2) (hb : Below w.heap.size w w') : OfP w A S (.returned (.tuple #[.slice none 0 0, .slice none 0 0, .int .i64 2])) w' := ⟨_, _, by rw [h], by rw [h]; exact is_nil _, by rw [h]; exact is_nil _, hb⟩
theorem of_i64 {A S : List Int} (ha : ∀ x ∈ A, 0 ≤ x ∧ x ≤ 9223372036854775807) (hs : ∀ x ∈ S, 1 ≤ x ∧ x ≤ 1048576) : (∀ x ∈ divL A S, I64 x) ∧ ∀ x ∈ modL A S, I64 x := by
  refine ⟨fun x hx => ?_, fun x hx => ?_⟩
  all_goals
    obtain ⟨i, hi⟩ := List.getElem?_of_mem hx
    first | rw [divL, List.getElem?_zipWith] at hi | rw [modL, List.getElem?_zipWith] at hi
    cases h1 : A[i]? with
    | none => rw [h1] at hi; simp at hi
    | some a =>
      cases h2 : S[i]? with
      | none => rw [h1, h2] at hi; simp at hi
      | some s =>
        rw [h1, h2] at hi
        have p1 := ha a (List.mem_of_getElem? h1)
        have p2 := hs s (List.mem_of_getElem? h2)
        have q0 := Int.ediv_nonneg (show 0 ≤ a by omega) (show 0 ≤ s by omega)
        have q1 := Int.ediv_le_self s (show 0 ≤ a by omega)
        have q2 := Int.emod_nonneg a (show s ≠ 0 by omega)
        have q3 := Int.emod_lt_of_pos a (show 0 < s by omega)
        simp only [Option.some.injEq] at hi
        exact ⟨by omega, by omega⟩
end Go.Proofs.Ytneegijbbbebkab

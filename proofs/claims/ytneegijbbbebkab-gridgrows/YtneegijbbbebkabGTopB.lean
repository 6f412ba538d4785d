/-
  Clip of the program. Conditions: lengths are such as memory bears.
-/
import Derived.Test.YtneegijbbbebkabGTopA
namespace Go.Proofs.Ytneegijbbbebkab
open Go.RowKit Go.Shelf
set_option linter.unusedVariables false
set_option maxRecDepth 100000

/-- What Clip tells. -/
def cpE (D S C : List Int) : Int := if fitE D S ≠ 0 then fitE D S else if okB D.length C = true then 0 else 2
def CpP (w : World) (D S C : List Int) (e : Ending) (w' : World) : Prop := ∃ u v, e = .returned (.tuple #[u, v, .int .i64 (cpE D S C)]) ∧ Is w' u (if cpE D S C = 0 then clS D S C else []) ∧ Is w' v (if cpE D S C = 0 then clB D S C else []) ∧ Below w.heap.size w w'
theorem clip_i64 {D S C : List Int} (hd : ∀ x ∈ D, 0 ≤ x ∧ x ≤ 1048576) (hl : S.length = D.length) (hc : C.length = D.length) (ps : ∀ x ∈ S, 1 ≤ x) (pc : ∀ x ∈ C, 0 ≤ x) : (∀ x ∈ clS D S C, I64 x ∧ 0 ≤ x ∧ x ≤ 1048576) ∧ ∀ x ∈ clB D S C, I64 x ∧ 0 ≤ x ∧ x ≤ 1048576 := by
  obtain ⟨_, bx2⟩ := clip_box (r := D.length) rfl hl hc (fun x hx => (hd x hx).1) ps pc
  refine ⟨fun x hx => ?_, fun x hx => ?_⟩
  · obtain ⟨i, hi⟩ := List.getElem?_of_mem hx
    have hil := (List.getElem?_eq_some_iff.1 hi).1
    rw [bx2.s] at hil
    have h8 := bx2.fit i _ x _ (List.getElem?_eq_getElem (by rw [bx2.d]; exact hil)) hi (List.getElem?_eq_getElem (by rw [bx2.x]; exact hil))
    have h7 := hd _ (List.getElem_mem (show i < D.length by rw [bx2.d]; exact hil))
    exact ⟨⟨by omega, by omega⟩, by omega, by omega⟩
  · obtain ⟨i, hi⟩ := List.getElem?_of_mem hx
    have hil := (List.getElem?_eq_some_iff.1 hi).1
    rw [bx2.x] at hil
    have h8 := bx2.fit i _ _ x (List.getElem?_eq_getElem (by rw [bx2.d]; exact hil)) (List.getElem?_eq_getElem (by rw [bx2.s]; exact hil)) hi
    have h7 := hd _ (List.getElem_mem (show i < D.length by rw [bx2.d]; exact hil))
    exact ⟨⟨by omega, by omega⟩, by omega, by omega⟩
theorem is_nil (w : World) : Is w (.slice none 0 0) [] := ⟨by simp, by simp, none, 0, rfl, Nat.le_refl _, fun i x h => by simp at h⟩
end Go.Proofs.Ytneegijbbbebkab

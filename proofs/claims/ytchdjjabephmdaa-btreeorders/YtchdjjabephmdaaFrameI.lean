/-
  An argument that is a slice of numbers, opened. No conditions but the form's own reach.
-/
import Derived.Test.YtchdjjabephmdaaBOrd
import Derived.Test.YtchdjjabephmdaaFrameB
namespace Go.Proofs.Ytchdjjabephmdaa
open Go.ChangeShapes Go.WideShapes Go.ChangeAt Go.RowKit
set_option linter.unusedVariables false
set_option maxRecDepth 100000

theorem Try.cellsI7 : Try.prog.cellsOf 3 = 1 := by kernel_rfl
theorem Try.bytesI7 : Try.prog.bytesOf 3 = 8 := by kernel_rfl
theorem ints_arg {H : Type} {enc : TypeId × Value → H} {W : World} {base : Nat} {v : Value} {d : DataW H} {p : List MemPlace} {ts : List TypeId} {ds : List (DataW H)}
    (hok : Value.okWide Try.prog W .any base 47 v) (h : DataW.Trod enc Try.prog W 0 (fun _ => true) true 47 v d p)
    (hsz : (DataW.weightsEach Try.prog ts ds).all (· ≤ reachBytes) = true) (j : Nat) (ht : ts[j]? = some 47) (hd : ds[j]? = some d) :
    ∃ l, Cs W v l ∧ l.length ≤ 140737488351232 := by
  obtain ⟨a0, len, cap, rfl⟩ := okWide_slice Try.underlying47 hok
  obtain ⟨fuel, hf⟩ := h
  rcases open_ints Try.underlying47 Try.underlying3 Try.cellsI7 hf with ⟨hcs, hx⟩ | ⟨x, l, c, zs, hcs, _, hl, hm, hz, hx, hcell, hwz⟩
  · simp [Value.cells] at hcs
    obtain ⟨rfl, rfl, rfl⟩ := hcs
    exact ⟨[], ⟨none, 0, rfl, Nat.le_refl _, fun i x hi => by simp at hi⟩, by simp⟩
  · simp [Value.cells] at hcs
    obtain ⟨rfl, rfl, rfl⟩ := hcs
    simp only [if_true] at hz
    have hlen : (zs.take len).length = len := by simp; omega
    have hb : len ≤ 140737488351232 := by
      simp only [Prod.mk.injEq] at hx
      obtain ⟨rfl, rfl⟩ := hx
      have := sized_slice hsz (j := j) (t := 47) (e := 3) ht hd Try.underlying47
      rw [Try.bytesI7] at this
      simp only [lits, List.length_map, List.length_take, List.length_drop, reachBytes] at this
      omega
    refine ⟨zs.take len, ⟨some x, cap, by rw [hlen], by omega, fun i y hi => ?_⟩, by omega⟩
    have hil : i < len := by have := (List.getElem?_eq_some_iff.1 hi).1; omega
    have h0 := hcell i (by omega)
    obtain ⟨g, off, sp⟩ := x
    have h00 := hcell 0 (by omega)
    have hsp : sp = none := by simpa [Addr.add] using World.cell?_spot h00
    subst hsp
    rw [addG] at h0
    refine ⟨g, off, rfl, ?_⟩
    rw [h0]
    rw [List.getElem?_take_of_lt hil] at hi
    obtain ⟨h3, h4⟩ := List.getElem?_eq_some_iff.1 hi
    subst h4
    simp [List.getD, h3]
end Go.Proofs.Ytchdjjabephmdaa

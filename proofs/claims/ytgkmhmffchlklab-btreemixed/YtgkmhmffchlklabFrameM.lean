/-
  An argument that is a slice of names, opened. No conditions but the form's own reach.
-/
import Derived.Test.YtgkmhmffchlklabMxA
import Derived.Test.YtgkmhmffchlklabFrameB
import Derived.SliceStrings
namespace Go.Proofs.Ytgkmhmffchlklab
open Go.ChangeShapes Go.WideShapes Go.ChangeAt Go.RowKit
set_option linter.unusedVariables false
set_option maxRecDepth 100000

theorem Try.cellsS7 : Try.prog.cellsOf 9 = 1 := by kernel_rfl
theorem Try.bytesS7 : Try.prog.bytesOf 9 = 16 := by kernel_rfl
theorem strs_weight {H : Type} (P : Program) (e : TypeId) : ∀ (l : List ByteArray) {s : ByteArray}, s ∈ l → s.size ∈ DataW.weightsAll P e (strs (H := H) l)
  | [], s, h => by cases h
  | a :: l, s, h => by
    rw [show strs (H := H) (a :: l) = .lit (.string a.data.toList) :: strs l from rfl, DataW.weightsAll]
    rcases List.mem_cons.1 h with rfl | h
    · exact List.mem_append_left _ (by simp [DataW.weights])
    · exact List.mem_append_right _ (strs_weight P e l h)
theorem strs_arg {H : Type} {enc : TypeId × Value → H} {W : World} {base : Nat} {v : Value} {d : DataW H} {p : List MemPlace} {ts : List TypeId} {ds : List (DataW H)}
    (hok : Value.okWide Try.prog W .any base 29 v) (h : DataW.Trod enc Try.prog W 0 (fun _ => true) true 29 v d p)
    (hsz : (DataW.weightsEach Try.prog ts ds).all (· ≤ reachBytes) = true) (j : Nat) (ht : ts[j]? = some 29) (hd : ds[j]? = some d) :
    ∃ l, Ss W v l ∧ l.length ≤ 140737488351232 ∧ ∀ s ∈ l, s.size ≤ 281474976710656 := by
  obtain ⟨a0, len, cap, rfl⟩ := okWide_slice Try.underlying29 hok
  obtain ⟨fuel, hf⟩ := h
  rcases open_strings Try.underlying29 Try.underlying9 Try.cellsS7 hf with ⟨hcs, hx⟩ | ⟨x, l, c, ss, hcs, _, hl, hm, hz, hx, hcell, hwz⟩
  · simp [Value.cells] at hcs
    obtain ⟨rfl, rfl, rfl⟩ := hcs
    exact ⟨[], ⟨none, 0, rfl, fun i x hi => by simp at hi⟩, by simp, fun s hs => by cases hs⟩
  · simp [Value.cells] at hcs
    obtain ⟨rfl, rfl, rfl⟩ := hcs
    simp only [if_true] at hz
    have hlen : (ss.take len).length = len := by simp; omega
    simp only [Prod.mk.injEq] at hx
    obtain ⟨rfl, rfl⟩ := hx
    have hb : len ≤ 140737488351232 := by
      have := sized_slice hsz (j := j) (t := 29) (e := 9) ht hd Try.underlying29
      rw [Try.bytesS7] at this
      simp only [strs, List.length_map, List.length_take, List.length_drop, reachBytes] at this
      omega
    refine ⟨ss.take len, ⟨some x, cap, by rw [hlen], fun i y hi => ?_⟩, by omega, fun s hs => ?_⟩
    · have hil : i < len := by have := (List.getElem?_eq_some_iff.1 hi).1; omega
      have h0 := hcell i (by omega)
      obtain ⟨g, off, sp⟩ := x
      have h00 := hcell 0 (by omega)
      have hsp : sp = none := by simpa [Addr.add] using World.cell?_spot h00
      subst hsp
      rw [addG] at h0
      refine ⟨g, off, rfl, ?_⟩
      rw [h0]
      rw [List.getElem?_take_of_lt hil] at hi
      obtain ⟨h3, h4⟩ := List.getElem?_eq_some_iff.1 hi
      subst h4
      simp [List.getD, h3]
    · have := List.all_eq_true.1 hsz s.size (DataW.weights_mem_each ht hd _ ?_)
      · have h9 := of_decide_eq_true this
        simp only [reachBytes] at h9
        omega
      · rw [DataW.weights, Try.underlying29]
        exact List.mem_cons_of_mem _ (List.mem_append_left _ (strs_weight _ _ _ hs))
end Go.Proofs.Ytgkmhmffchlklab

/-
  Arguments that are bytes, and numbers without a sign, opened. No conditions but the form's own reach.
-/
import Derived.Test.YtneegijbbbebkabFrameCs
namespace Go.Proofs.Ytneegijbbbebkab
open Go.ChangeShapes Go.WideShapes Go.ChangeAt Go.RowKit
set_option linter.unusedVariables false
set_option maxRecDepth 100000

theorem bytes_arg {H : Type} {enc : TypeId × Value → H} {W : World} {base : Nat} {v : Value} {d : DataW H} {p : List MemPlace} {ts : List TypeId} {ds : List (DataW H)}
    (hok : Value.okWide Try.prog W .any base 22 v) (h : DataW.Trod enc Try.prog W 0 (fun _ => true) true 22 v d p)
    (hsz : (DataW.weightsEach Try.prog ts ds).all (· ≤ reachBytes) = true) (j : Nat) (ht : ts[j]? = some 22) (hd : ds[j]? = some d) :
    ∃ l, Bs W v l ∧ Byt l ∧ l.length ≤ 140737488351232 := by
  obtain ⟨a0, len, cap, rfl⟩ := okWide_slice Try.underlying22 hok
  obtain ⟨fuel, hf⟩ := h
  rcases open_ints Try.underlying22 Try.underlying5 Try.cells5g hf with ⟨hcs, hx⟩ | ⟨x, l, c, zs, hcs, _, hl, hm, hz, hx, hcell, hwz⟩
  · simp [Value.cells] at hcs
    obtain ⟨rfl, rfl, rfl⟩ := hcs
    exact ⟨[], Bs.nil _, fun i => by simp, by simp⟩
  · simp [Value.cells] at hcs
    obtain ⟨rfl, rfl, rfl⟩ := hcs
    simp only [if_true] at hz
    have hlen : (zs.take len).length = len := by simp; omega
    have hb : len ≤ 140737488351232 := by
      simp only [Prod.mk.injEq] at hx
      obtain ⟨rfl, rfl⟩ := hx
      have := sized_slice hsz (j := j) (t := 22) (e := 5) ht hd Try.underlying22
      rw [Try.bytes5g] at this
      simp only [lits, List.length_map, List.length_take, List.length_drop, reachBytes] at this
      omega
    refine ⟨zs.take len, ⟨some x, cap, by rw [hlen], by omega, (fun h => by cases h), ?_⟩, ?_, by omega⟩
    · intro ad ha i hi
      obtain rfl := Option.some.inj ha
      rw [hcell i (by omega)]
      simp [List.getD, show i < len by omega]
    · intro i
      by_cases hi : i < len
      · have e : (zs.take len).getD i 0 = zs[i]'(by omega) := by simp [List.getD, hi, show i < zs.length by omega]
        rw [e]
        exact bounds_u8 (hwz _ (List.getElem_mem _))
      · have e : (zs.take len).getD i 0 = 0 := by
          rw [List.getD, List.getElem?_eq_none (by omega)]; rfl
        rw [e]; omega


/-- A slice that reads as numbers without a sign. -/
def Us (w : World) (v : Value) (l : List Int) : Prop := l.length ≤ 17592186043904 ∧ (∀ x ∈ l, 0 ≤ x ∧ x < 18446744073709551616) ∧ ∃ ao cap, v = .slice ao l.length cap ∧ l.length ≤ cap ∧ ∀ (i : Nat) (x : Int), l[i]? = some x → ∃ g off, ao = some ⟨g, off, none⟩ ∧ w.cell? ⟨g, off + i, none⟩ = some (.int .u64 x)
theorem Us.below {w w' : World} {v : Value} {l : List Int} (h : Us w v l) (hb : Below w.heap.size w w') : Us w' v l := by
  obtain ⟨h1, h2, ao, cap, e, h3, h4⟩ := h
  refine ⟨h1, h2, ao, cap, e, h3, fun i x hi => ?_⟩
  obtain ⟨g, off, ea, hc⟩ := h4 i x hi
  exact ⟨g, off, ea, (hb.cell (World.block_lt_of_cell? _ _ hc)).trans hc⟩
theorem Us.at {w : World} {ao : Option Addr} {n cap : Nat} {l : List Int} (h : Us w (.slice ao n cap) l) {i : Nat} (hi : i < n) : ∃ g o x, ao = some ⟨g, o, none⟩ ∧ l[i]? = some x ∧ (0 ≤ x ∧ x < 18446744073709551616) ∧ w.cell? ⟨g, o + i, none⟩ = some (.int .u64 x) := by
  obtain ⟨h1, h2, ao', cap', e, h3, h4⟩ := h
  injection e with e1 e2 e3
  subst e1 e2 e3
  obtain ⟨g, off, ea, hc⟩ := h4 i _ (List.getElem?_eq_getElem hi)
  exact ⟨g, off, _, ea, List.getElem?_eq_getElem hi, h2 _ (List.getElem_mem _), hc⟩
theorem Us.open {w : World} {v : Value} {l : List Int} (h : Us w v l) : ∃ ao n cap, v = .slice ao n cap ∧ l.length = n ∧ n ≤ cap ∧ n ≤ 17592186043904 := by
  obtain ⟨h1, h2, ao, cap, e, h3, h4⟩ := h
  exact ⟨ao, l.length, cap, e, rfl, h3, h1⟩
theorem Try.cellsU : Try.prog.cellsOf 33 = 1 := by kernel_rfl
theorem Try.bytesU : Try.prog.bytesOf 33 = 8 := by kernel_rfl
theorem u64_of_wf {n : Int} (h : (Lit.int .u64 n).wf = true) : 0 ≤ n ∧ n < 18446744073709551616 := by
  simp [Lit.wf, IntKind.min, IntKind.max, IntKind.bits, IntKind.signed] at h
  exact ⟨by omega, by omega⟩
theorem uis_arg {H : Type} {enc : TypeId × Value → H} {W : World} {base : Nat} {v : Value} {d : DataW H} {p : List MemPlace} {ts : List TypeId} {ds : List (DataW H)}
    (hok : Value.okWide Try.prog W .any base 32 v) (h : DataW.Trod enc Try.prog W 0 (fun _ => true) true 32 v d p)
    (hsz : (DataW.weightsEach Try.prog ts ds).all (· ≤ reachBytes) = true) (j : Nat) (ht : ts[j]? = some 32) (hd : ds[j]? = some d) :
    ∃ l, Us W v l := by
  obtain ⟨a0, len, cap, rfl⟩ := okWide_slice Try.underlying32 hok
  obtain ⟨fuel, hf⟩ := h
  rcases open_ints Try.underlying32 Try.underlying33 Try.cellsU hf with ⟨hcs, hx⟩ | ⟨x, l, c, zs, hcs, _, hl, hm, hz, hx, hcell, hwz⟩
  · simp [Value.cells] at hcs
    obtain ⟨rfl, rfl, rfl⟩ := hcs
    exact ⟨[], by simp, by simp, none, 0, rfl, Nat.le_refl _, fun i x h => by simp at h⟩
  · simp [Value.cells] at hcs
    obtain ⟨rfl, rfl, rfl⟩ := hcs
    simp only [if_true] at hz
    have hlen : (zs.take len).length = len := by simp; omega
    have hb : len ≤ 17592186043904 := by
      simp only [Prod.mk.injEq] at hx
      obtain ⟨rfl, rfl⟩ := hx
      have := sized_slice hsz (j := j) (t := 32) (e := 33) ht hd Try.underlying32
      rw [Try.bytesU] at this
      simp only [lits, List.length_map, List.length_take, List.length_drop, reachBytes] at this
      omega
    refine ⟨zs.take len, by omega, fun y hy => u64_of_wf (hwz y (List.take_subset _ _ hy)), some x, cap, by rw [hlen], by omega, fun i y hi => ?_⟩
    have hil : i < len := by have := (List.getElem?_eq_some_iff.1 hi).1; omega
    have h0 := hcell i (by omega)
    obtain ⟨g, off, sp⟩ := x
    have h00 := hcell 0 (by omega)
    have hsp : sp = none := by simpa [Addr.add] using World.cell?_spot h00
    subst hsp
    rw [addG] at h0
    refine ⟨g, off, rfl, ?_⟩
    rw [h0]
    rw [List.getElem?_take_of_lt hil] at hi
    obtain ⟨h3, h4⟩ := List.getElem?_eq_some_iff.1 hi
    subst h4
    simp [List.getD, h3]
end Go.Proofs.Ytneegijbbbebkab

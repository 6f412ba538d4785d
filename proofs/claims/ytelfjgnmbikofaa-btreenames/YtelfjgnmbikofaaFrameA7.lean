/-
  An argument that is a list of acts, opened: numbers and names, with their lengths. No conditions but the form's own reach.
-/
import Derived.Test.YtelfjgnmbikofaaBPlay
import Derived.Test.YtelfjgnmbikofaaFrameB
import Derived.Lib.SmallJoins
import Derived.Deep.Slices
import Derived.Deep.Strs
namespace Go.Proofs.Ytelfjgnmbikofaa
open Go.ChangeShapes Go.WideShapes Go.ChangeAt Go.RowKit Go.Deep Go.Joins
set_option linter.unusedVariables false
set_option maxRecDepth 100000

theorem Try.cellsA7 : Try.prog.cellsOf 33 = 3 := by kernel_rfl
theorem Try.bytesA7 : Try.prog.bytesOf 33 = 32 := by kernel_rfl
theorem Try.cellsAI : Try.prog.cellsOf 3 = 1 := by kernel_rfl
theorem Try.cellsAS : Try.prog.cellsOf 9 = 1 := by kernel_rfl
theorem Try.cellsAU : Try.prog.cellsOf 31 = 1 := by kernel_rfl
theorem weights_allX {H : Type} {P : Program} {e : TypeId} : ∀ {l : List (DataW H)} {d : DataW H}, d ∈ l → ∀ n ∈ d.weights P e, n ∈ DataW.weightsAll P e l
  | x :: l, d, hd, n, hn => by
    simp only [DataW.weightsAll, List.mem_append]
    rcases List.mem_cons.1 hd with h | h
    · subst h; exact .inl hn
    · exact .inr (weights_allX h n hn)
theorem acts7_arg {H : Type} {enc : TypeId × Value → H} {W : World} {base : Nat} {v : Value} {d : DataW H} {p : List MemPlace} {ts : List TypeId} {ds : List (DataW H)}
    (hok : Value.okWide Try.prog W .any base 22 v) (h : DataW.Trod enc Try.prog W 0 (fun _ => true) true 22 v d p)
    (hsz : (DataW.weightsEach Try.prog ts ds).all (· ≤ reachBytes) = true) (j : Nat) (ht : ts[j]? = some 22) (hd : ds[j]? = some d) :
    ∃ qs, As7 W v qs ∧ qs.length ≤ 140737488351232 := by
  obtain ⟨a0, len, cap, rfl⟩ := okWide_slice Try.underlying22 hok
  obtain ⟨fuel, hf⟩ := h
  rcases open_slice Try.underlying22 hf with ⟨hcs, hx⟩ | ⟨a, len', cap', m, n, D, Pl, hcs, _, hl, hm, hmm, hx, hrow⟩
  · simp [Value.cells] at hcs
    obtain ⟨rfl, rfl, rfl⟩ := hcs
    exact ⟨[], ⟨none, 0, rfl, fun i a h => by simp at h⟩, by simp⟩
  · simp [Value.cells] at hcs
    obtain ⟨rfl, rfl, rfl⟩ := hcs
    simp only [if_true] at hmm
    rw [Try.cellsA7] at hrow
    simp only [Prod.mk.injEq] at hx
    obtain ⟨rfl, _⟩ := hx
    have hb : len ≤ 140737488351232 := by
      have := sized_slice hsz (j := j) (t := 22) (e := 33) ht hd Try.underlying22
      rw [Try.bytesA7] at this
      simp only [List.length_map, List.length_range, reachBytes] at this
      omega
    have hwD : ∀ i, i < len → ∀ q ∈ (D i).weights Try.prog 33, q ≤ reachBytes := fun i hi q hq => by
      have h1 : q ∈ DataW.weightsAll Try.prog 33 ((List.range len).map D) := weights_allX (List.mem_map.2 ⟨i, List.mem_range.2 hi, rfl⟩) q hq
      have := List.all_eq_true.1 hsz q (DataW.weights_mem_each ht hd q (by simp only [DataW.weights, Try.underlying22, List.mem_cons, List.mem_append]; exact .inr (.inl h1)))
      simpa using this
    have each : ∀ i, i < len → ∃ q : A7, q.2.1.size ≤ 281474976710656 ∧ ∃ g o, a = ⟨g, o, none⟩ ∧ W.cell? ⟨g, o + i * 3, none⟩ = some (.int .i64 q.1) ∧ W.cell? ⟨g, o + i * 3 + 1, none⟩ = some (.string q.2.1) ∧ W.cell? ⟨g, o + i * 3 + 2, none⟩ = some (.int .u64 q.2.2) := by
      intro i hi
      obtain ⟨cs', h1, h2⟩ := hrow i (by omega)
      obtain ⟨_, hlen, hcell⟩ := World.cells?_some h1
      obtain ⟨y0, y1, y2, k, hDi, _, g0, g1, g2⟩ := trod_struct3 Try.underlying33 h2
      match cs', hlen with
      | [v0, v1, v2], _ =>
        simp [Try.cellsAI, Try.cellsAS, Try.cellsAU] at g0 g1 g2
        obtain ⟨k0, e0, _, w0⟩ := DataW.trod_int Try.underlying3 g0
        obtain ⟨s1, e1, z1, w1⟩ := DataW.trod_string Try.underlying9 g1
        obtain ⟨k2, e2, _, w2⟩ := DataW.trod_int Try.underlying31 g2
        have hs1 : s1.size ≤ 281474976710656 := by
          have e : D i = .agg [y0.1, y1.1, y2.1] := by simpa using congrArg Prod.fst hDi
          have h9 := hwD i hi s1.size (by
            rw [e]
            simp only [DataW.weights, Try.underlying33]
            refine DataW.weights_mem_each (j := 1) (t := 9) (d := y1.1) rfl rfl _ ?_
            rw [z1]
            simp [DataW.weights])
          simp only [reachBytes] at h9
          omega
        simp at e0 e1 e2
        subst e0 e1 e2
        have c0 := hcell 0 (by omega)
        have c1 := hcell 1 (by omega)
        have c2 := hcell 2 (by omega)
        obtain ⟨g, o, spot⟩ := a
        have hspot : spot = none := by
          obtain ⟨cs0, h10, _⟩ := hrow 0 (by omega)
          obtain ⟨_, hlen0, hcell0⟩ := World.cells?_some h10
          have h00 := hcell0 0 (by omega)
          rw [List.getElem?_eq_getElem (show 0 < cs0.length by omega)] at h00
          have := World.cell?_spot h00
          simpa [Addr.add] using this
        subst hspot
        rw [addG, addG] at c0 c1 c2
        exact ⟨(k0, s1, k2), hs1, g, o, rfl, by simpa using c0, by simpa using c1, by simpa using c2⟩
    have hch : ∃ f : Nat → A7, ∀ i, i < len → (f i).2.1.size ≤ 281474976710656 ∧ ∃ g o, a = ⟨g, o, none⟩ ∧ W.cell? ⟨g, o + i * 3, none⟩ = some (.int .i64 (f i).1) ∧ W.cell? ⟨g, o + i * 3 + 1, none⟩ = some (.string (f i).2.1) ∧ W.cell? ⟨g, o + i * 3 + 2, none⟩ = some (.int .u64 (f i).2.2) :=
      ⟨fun i => if h : i < len then Classical.choose (each i h) else (0, ByteArray.empty, 0), fun i hi => by simp only [dif_pos hi]; exact Classical.choose_spec (each i hi)⟩
    obtain ⟨f, hf⟩ := hch
    refine ⟨(List.range len).map f, ⟨some a, cap, by simp, fun i q hq => ?_⟩, by simpa using hb⟩
    have hi : i < len := by
      have := (List.getElem?_eq_some_iff.1 hq).1
      simpa using this
    have hq' : f i = q := by simpa [hi] using hq
    subst hq'
    obtain ⟨h1, g, o, rfl, h2⟩ := hf i hi
    exact ⟨h1, g, o, rfl, h2⟩
end Go.Proofs.Ytelfjgnmbikofaa

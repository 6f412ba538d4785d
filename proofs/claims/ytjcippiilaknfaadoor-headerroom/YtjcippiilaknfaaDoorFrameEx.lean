/-
  An argument that is a slice of extents, opened: it reads as a list of pairs of ints within the machine's bounds. No conditions but the form's own reach. (In the seat of header.)
-/
import Derived.Test.YtjcippiilaknfaaDoorXGood
import Derived.Test.YtjcippiilaknfaaDoorFrame
import Derived.ProofKit
import Derived.OpenShut
import Derived.SizedLaws
import Derived.Deep.SlicePairs
namespace Go.Proofs.YtjcippiilaknfaaDoor
open Go.ChangeShapes Go.WideShapes Go.ChangeAt Go.RowKit Go.Deep
set_option linter.unusedVariables false
set_option maxRecDepth 100000

theorem Tryd.bytesX : Tryd.prog.bytesOf 49 = 16 := by kernel_rfl
theorem Tryd.cellsX : Tryd.prog.cellsOf 49 = 2 := by kernel_rfl
theorem Tryd.cellsI : Tryd.prog.cellsOf 3 = 1 := by kernel_rfl

theorem xs_arg {H : Type} {enc : TypeId × Value → H} {W : World} {base : Nat} {v : Value} {d : DataW H} {p : List MemPlace} {ts : List TypeId} {ds : List (DataW H)}
    (hok : Value.okWide Tryd.prog W .any base 34 v) (h : DataW.Trod enc Tryd.prog W 0 (fun _ => true) true 34 v d p)
    (hsz : (DataW.weightsEach Tryd.prog ts ds).all (· ≤ reachBytes) = true) (j : Nat) (ht : ts[j]? = some 34) (hd : ds[j]? = some d) :
    ∃ l, Xs W v l ∧ EWs l ∧ l.length ≤ 8796093021952 := by
  obtain ⟨a0, len, cap, rfl⟩ := okWide_slice Tryd.underlying34 hok
  obtain ⟨fuel, hf⟩ := h
  rcases open_slice_pairs Tryd.underlying34 Tryd.underlying49 Tryd.cellsX rfl rfl Tryd.cellsI Tryd.cellsI hf with ⟨hcs, hx⟩ | ⟨a, len', cap', m, n, V0, V1, D0, D1, P0, P1, hcs, _, hl, hm, hmm, hx, hrow⟩
  · simp [Value.cells] at hcs
    obtain ⟨rfl, rfl, rfl⟩ := hcs
    exact ⟨[], Xs.nil _, (fun x hx => by cases hx), by simp⟩
  · simp [Value.cells] at hcs
    obtain ⟨rfl, rfl, rfl⟩ := hcs
    simp only [if_true] at hmm
    have each : ∀ i, i < len → ∃ q : Ext, EW q ∧ W.cell? (a.add (i * 2)) = some (.int .i64 q.1) ∧ W.cell? (a.add (i * 2 + 1)) = some (.int .i64 q.2) := by
      intro i hi
      obtain ⟨g1, g2, g3, g4⟩ := hrow i (by omega)
      obtain ⟨k0, e0, _, w0⟩ := DataW.trod_int Tryd.underlying3 g3
      obtain ⟨k1, e1, _, w1⟩ := DataW.trod_int Tryd.underlying3 g4
      simp at e0 e1
      rw [e0] at g1
      rw [e1] at g2
      exact ⟨(k0, k1), ⟨bounds_i64 w0, bounds_i64 w1⟩, g1, g2⟩
    obtain ⟨q, hq⟩ := choose_lt each
    have hlen : ((List.range len).map q).length = len := by simp
    have hget : ∀ i, i < len → ((List.range len).map q).getD i (0, 0) = q i := fun i hi => by simp [List.getD, hi]
    have hb : len ≤ 8796093021952 := by
      simp only [Prod.mk.injEq] at hx
      obtain ⟨rfl, rfl⟩ := hx
      have := sized_slice hsz (j := j) (t := 34) (e := 49) ht hd Tryd.underlying34
      rw [Tryd.bytesX] at this
      simp only [List.length_map, List.length_range, reachBytes] at this
      omega
    refine ⟨(List.range len).map q, ⟨some a, cap, by rw [hlen], by omega, (fun h => by cases h), ?_⟩, ?_, by omega⟩
    · intro ad ha jj u hj
      obtain rfl := Option.some.inj ha
      have hlt := ecells_get hj
      rw [hlen] at hlt
      have hi : jj / 2 < len := by omega
      obtain ⟨e1, e2⟩ := ecells_at ((List.range len).map q) (jj / 2) (by rw [hlen]; exact hi)
      rw [hget _ hi] at e1 e2
      rcases Nat.mod_two_eq_zero_or_one jj with h | h
      · rw [show jj / 2 * 2 = jj by omega] at e1
        rw [e1] at hj
        obtain rfl := Option.some.inj hj
        have := (hq _ hi).2.1
        rwa [show jj / 2 * 2 = jj by omega] at this
      · rw [show jj / 2 * 2 + 1 = jj by omega] at e2
        rw [e2] at hj
        obtain rfl := Option.some.inj hj
        have := (hq _ hi).2.2
        rwa [show jj / 2 * 2 + 1 = jj by omega] at this
    · intro x hx2
      obtain ⟨i, hi, rfl⟩ := List.mem_map.1 hx2
      exact (hq i (List.mem_range.1 hi)).1

end Go.Proofs.YtjcippiilaknfaaDoor

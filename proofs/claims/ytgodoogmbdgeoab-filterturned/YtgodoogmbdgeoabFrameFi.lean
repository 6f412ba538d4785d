/-
  An argument that is a slice of filters, opened: it reads as a list of pairs of ints. No conditions but the form's own reach.
-/
import Derived.Test.YtgodoogmbdgeoabFiMem
import Derived.Test.YtgodoogmbdgeoabFrame
import Derived.Deep.SlicePairs
namespace Go.Proofs.Ytgodoogmbdgeoab
open Go.ChangeShapes Go.WideShapes Go.ChangeAt Go.RowKit Go.Deep
set_option linter.unusedVariables false

theorem Try.bytesFi : Try.prog.bytesOf 26 = 16 := by kernel_rfl
theorem Try.cellsFi : Try.prog.cellsOf 26 = 2 := by kernel_rfl
theorem Try.cellsFk : Try.prog.cellsOf 24 = 1 := by kernel_rfl
theorem Try.cellsFw : Try.prog.cellsOf 3 = 1 := by kernel_rfl
theorem fils_arg {H : Type} {enc : TypeId × Value → H} {W : World} {base : Nat} {v : Value} {d : DataW H} {p : List MemPlace} {ts : List TypeId} {ds : List (DataW H)}
    (hok : Value.okWide Try.prog W .any base 22 v) (h : DataW.Trod enc Try.prog W 0 (fun _ => true) true 22 v d p)
    (hsz : (DataW.weightsEach Try.prog ts ds).all (· ≤ reachBytes) = true) (j : Nat) (ht : ts[j]? = some 22) (hd : ds[j]? = some d) :
    ∃ l, Fls W v l ∧ l.length ≤ 8796093021952 := by
  obtain ⟨a0, len, cap, rfl⟩ := okWide_slice Try.underlying22 hok
  obtain ⟨fuel, hf⟩ := h
  rcases open_slice_pairs Try.underlying22 Try.underlying26 Try.cellsFi rfl rfl Try.cellsFk Try.cellsFw hf with ⟨hcs, hx⟩ | ⟨a, len', cap', m, n, V0, V1, D0, D1, P0, P1, hcs, _, hl, hm, hmm, hx, hrow⟩
  · simp [Value.cells] at hcs
    obtain ⟨rfl, rfl, rfl⟩ := hcs
    exact ⟨[], Fls.nil _, by simp⟩
  · simp [Value.cells] at hcs
    obtain ⟨rfl, rfl, rfl⟩ := hcs
    simp only [if_true] at hmm
    have each : ∀ i, i < len → ∃ q : Fil, W.cell? (a.add (i * 2)) = some (.int .i64 q.1) ∧ W.cell? (a.add (i * 2 + 1)) = some (.int .i64 q.2) := by
      intro i hi
      obtain ⟨g1, g2, g3, g4⟩ := hrow i (by omega)
      obtain ⟨k0, e0, _, w0⟩ := DataW.trod_int Try.underlying24 g3
      obtain ⟨k1, e1, _, w1⟩ := DataW.trod_int Try.underlying3 g4
      simp at e0 e1
      rw [e0] at g1
      rw [e1] at g2
      exact ⟨(k0, k1), g1, g2⟩
    obtain ⟨q, hq⟩ := choose_lt each
    have hlen : ((List.range len).map q).length = len := by simp
    have hget : ∀ i, i < len → ((List.range len).map q).getD i (0, 0) = q i := fun i hi => by simp [List.getD, hi]
    have hb : len ≤ 8796093021952 := by
      simp only [Prod.mk.injEq] at hx
      obtain ⟨rfl, rfl⟩ := hx
      have := sized_slice hsz (j := j) (t := 22) (e := 26) ht hd Try.underlying22
      rw [Try.bytesFi] at this
      simp only [List.length_map, List.length_range, reachBytes] at this
      omega
    refine ⟨(List.range len).map q, ⟨some a, cap, by rw [hlen], by omega, (fun h => by cases h), ?_⟩, by omega⟩
    intro ad ha jj u hj
    obtain rfl := Option.some.inj ha
    have hlt := fcells_get hj
    rw [hlen] at hlt
    have hi : jj / 2 < len := by omega
    obtain ⟨e1, e2⟩ := fcells_at ((List.range len).map q) (jj / 2) (by rw [hlen]; exact hi)
    rw [hget _ hi] at e1 e2
    rcases Nat.mod_two_eq_zero_or_one jj with h | h
    · rw [show jj / 2 * 2 = jj by omega] at e1
      rw [e1] at hj
      obtain rfl := Option.some.inj hj
      have := (hq _ hi).1
      rwa [show jj / 2 * 2 = jj by omega] at this
    · rw [show jj / 2 * 2 + 1 = jj by omega] at e2
      rw [e2] at hj
      obtain rfl := Option.some.inj hj
      have := (hq _ hi).2
      rwa [show jj / 2 * 2 + 1 = jj by omega] at this
end Go.Proofs.Ytgodoogmbdgeoab

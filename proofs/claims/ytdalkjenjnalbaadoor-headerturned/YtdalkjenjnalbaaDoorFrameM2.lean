/-
  An argument that is a slice of extents, opened: it reads as a list of pairs of ints within the machine's bounds. No conditions but the form's own reach. (In the seat of header.)
  An argument that is a list of messages, opened: kinds and bytes, with their lengths. No conditions but the form's own reach.
  Messages as an argument: nil ones have no room. No conditions.
-/
import Derived.Test.YtdalkjenjnalbaaDoorXGood
import Derived.Test.YtdalkjenjnalbaaDoorFrame
import Derived.ProofKit
import Derived.OpenShut
import Derived.SizedLaws
import Derived.Deep.SlicePairs
import Derived.Test.YtdalkjenjnalbaaDoorEMem
import Derived.Lib.SmallJoins
import Derived.Deep.Slices
import Derived.Deep.Strs
namespace Go.Proofs.YtdalkjenjnalbaaDoor
open Go.ChangeShapes Go.WideShapes Go.ChangeAt Go.RowKit Go.Deep
set_option linter.unusedVariables false
set_option maxRecDepth 100000

theorem Tryd.bytesX : Tryd.prog.bytesOf 49 = 16 := by kernel_rfl
theorem Tryd.cellsX : Tryd.prog.cellsOf 49 = 2 := by kernel_rfl
theorem Tryd.cellsI : Tryd.prog.cellsOf 3 = 1 := by kernel_rfl

theorem xs_arg {H : Type} {enc : TypeId × Value → H} {W : World} {base : Nat} {v : Value} {d : DataW H} {p : List MemPlace} {ts : List TypeId} {ds : List (DataW H)}
    (hok : Value.okWide Tryd.prog W .any base 34 v) (h : DataW.Trod enc Tryd.prog W 0 (fun _ => true) true 34 v d p)
    (hsz : (DataW.weightsEach Tryd.prog ts ds).all (· ≤ reachBytes) = true) (j : Nat) (ht : ts[j]? = some 34) (hd : ds[j]? = some d) :
    ∃ l, Xs W v l ∧ EWs l ∧ l.length ≤ 8796093021952 := by
  obtain ⟨a0, len, cap, rfl⟩ := okWide_slice Tryd.underlying34 hok
  obtain ⟨fuel, hf⟩ := h
  rcases open_slice_pairs Tryd.underlying34 Tryd.underlying49 Tryd.cellsX rfl rfl Tryd.cellsI Tryd.cellsI hf with ⟨hcs, hx⟩ | ⟨a, len', cap', m, n, V0, V1, D0, D1, P0, P1, hcs, _, hl, hm, hmm, hx, hrow⟩
  · simp [Value.cells] at hcs
    obtain ⟨rfl, rfl, rfl⟩ := hcs
    exact ⟨[], Xs.nil _, (fun x hx => by cases hx), by simp⟩
  · simp [Value.cells] at hcs
    obtain ⟨rfl, rfl, rfl⟩ := hcs
    simp only [if_true] at hmm
    have each : ∀ i, i < len → ∃ q : Ext, EW q ∧ W.cell? (a.add (i * 2)) = some (.int .i64 q.1) ∧ W.cell? (a.add (i * 2 + 1)) = some (.int .i64 q.2) := by
      intro i hi
      obtain ⟨g1, g2, g3, g4⟩ := hrow i (by omega)
      obtain ⟨k0, e0, _, w0⟩ := DataW.trod_int Tryd.underlying3 g3
      obtain ⟨k1, e1, _, w1⟩ := DataW.trod_int Tryd.underlying3 g4
      simp at e0 e1
      rw [e0] at g1
      rw [e1] at g2
      exact ⟨(k0, k1), ⟨bounds_i64 w0, bounds_i64 w1⟩, g1, g2⟩
    obtain ⟨q, hq⟩ := choose_lt each
    have hlen : ((List.range len).map q).length = len := by simp
    have hget : ∀ i, i < len → ((List.range len).map q).getD i (0, 0) = q i := fun i hi => by simp [List.getD, hi]
    have hb : len ≤ 8796093021952 := by
      simp only [Prod.mk.injEq] at hx
      obtain ⟨rfl, rfl⟩ := hx
      have := sized_slice hsz (j := j) (t := 34) (e := 49) ht hd Tryd.underlying34
      rw [Tryd.bytesX] at this
      simp only [List.length_map, List.length_range, reachBytes] at this
      omega
    refine ⟨(List.range len).map q, ⟨some a, cap, by rw [hlen], by omega, (fun h => by cases h), ?_⟩, ?_, by omega⟩
    · intro ad ha jj u hj
      obtain rfl := Option.some.inj ha
      have hlt := ecells_get hj
      rw [hlen] at hlt
      have hi : jj / 2 < len := by omega
      obtain ⟨e1, e2⟩ := ecells_at ((List.range len).map q) (jj / 2) (by rw [hlen]; exact hi)
      rw [hget _ hi] at e1 e2
      rcases Nat.mod_two_eq_zero_or_one jj with h | h
      · rw [show jj / 2 * 2 = jj by omega] at e1
        rw [e1] at hj
        obtain rfl := Option.some.inj hj
        have := (hq _ hi).2.1
        rwa [show jj / 2 * 2 = jj by omega] at this
      · rw [show jj / 2 * 2 + 1 = jj by omega] at e2
        rw [e2] at hj
        obtain rfl := Option.some.inj hj
        have := (hq _ hi).2.2
        rwa [show jj / 2 * 2 + 1 = jj by omega] at this
    · intro x hx2
      obtain ⟨i, hi, rfl⟩ := List.mem_map.1 hx2
      exact (hq i (List.mem_range.1 hi)).1

end Go.Proofs.YtdalkjenjnalbaaDoor

namespace Go.Proofs.YtdalkjenjnalbaaDoor
open Go.ChangeShapes Go.WideShapes Go.ChangeAt Go.RowKit Go.Deep Go.Joins
set_option linter.unusedVariables false
set_option maxRecDepth 100000

theorem Tryd.bytesMs : Tryd.prog.bytesOf 56 = 32 := by kernel_rfl
theorem Tryd.cellsBy : Tryd.prog.cellsOf 31 = 1 := by kernel_rfl
theorem Tryd.cellsHA : Tryd.prog.cellsOf 56 = 2 := by kernel_rfl
theorem Tryd.cellsHI : Tryd.prog.cellsOf 3 = 1 := by kernel_rfl
theorem Tryd.bytesU8 : Tryd.prog.bytesOf 5 = 1 := by kernel_rfl
theorem weights_allX {H : Type} {P : Program} {e : TypeId} : ∀ {l : List (DataW H)} {d : DataW H}, d ∈ l → ∀ n ∈ d.weights P e, n ∈ DataW.weightsAll P e l
  | x :: l, d, hd, n, hn => by
    simp only [DataW.weightsAll, List.mem_append]
    rcases List.mem_cons.1 hd with h | h
    · subst h; exact .inl hn
    · exact .inr (weights_allX h n hn)
/-- A cell that holds a slice of bytes, with its reach. -/
theorem bytes_cellX {H : Type} {enc : TypeId × Value → H} {W : World} {v : Value} {y : DataW H × List MemPlace} {n : Nat}
    (h : DataW.trod enc Tryd.prog W 0 (fun _ => true) true n 31 [v] = some y) (hw : ∀ q ∈ y.1.weights Tryd.prog 31, q ≤ reachBytes) : ∃ l, Bs W v l ∧ Byt l ∧ l.length ≤ 140737488351232 := by
  rcases open_ints Tryd.underlying31 Tryd.underlying5 Tryd.cells5 h with ⟨hcs, hx⟩ | ⟨x, len, cap, zs, hcs, _, hl, hm, hz, hx, hcell, hwz⟩
  · simp at hcs
    subst hcs
    exact ⟨[], Bs.nil _, fun i => by simp, by simp⟩
  · simp at hcs
    subst hcs
    simp only [if_true] at hz
    have hlen : (zs.take len).length = len := by simp; omega
    have hq : len ≤ 140737488351232 := by
      subst hx
      have := hw (((lits (H := H) .u8 (zs.take len)).length + (lits (H := H) .u8 (zs.drop len)).length) * Tryd.prog.bytesOf 5) (by simp [DataW.weights, Tryd.underlying31])
      rw [Tryd.bytesU8] at this
      simp only [lits, List.length_map, List.length_take, List.length_drop, reachBytes] at this
      omega
    refine ⟨zs.take len, ⟨some x, cap, by rw [hlen], by omega, (fun h => by cases h), ?_⟩, ?_, by omega⟩
    · intro ad ha i hi
      obtain rfl := Option.some.inj ha
      rw [hcell i (by omega)]
      simp [List.getD, show i < len by omega]
    · intro i
      by_cases hi : i < len
      · have e : (zs.take len).getD i 0 = zs[i]'(by omega) := by simp [List.getD, hi, show i < zs.length by omega]
        rw [e]
        exact bounds_u8 (hwz _ (List.getElem_mem _))
      · have e : (zs.take len).getD i 0 = 0 := by
          rw [List.getD, List.getElem?_eq_none (by omega)]; rfl
        rw [e]; omega
theorem msgs_arg {H : Type} {enc : TypeId × Value → H} {W : World} {base : Nat} {v : Value} {d : DataW H} {p : List MemPlace} {ts : List TypeId} {ds : List (DataW H)}
    (hok : Value.okWide Tryd.prog W .any base 22 v) (h : DataW.Trod enc Tryd.prog W 0 (fun _ => true) true 22 v d p)
    (hsz : (DataW.weightsEach Tryd.prog ts ds).all (· ≤ reachBytes) = true) (j : Nat) (ht : ts[j]? = some 22) (hd : ds[j]? = some d) :
    ∃ l, Ms W v l ∧ MOk l ∧ l.length ≤ 4398046510976 := by
  obtain ⟨a0, len, cap, rfl⟩ := okWide_slice Tryd.underlying22 hok
  obtain ⟨fuel, hf⟩ := h
  rcases open_slice Tryd.underlying22 hf with ⟨hcs, hx⟩ | ⟨a, len', cap', m, n, D, Pl, hcs, _, hl, hm, hmm, hx, hrow⟩
  · simp [Value.cells] at hcs
    obtain ⟨rfl, rfl, rfl⟩ := hcs
    exact ⟨[], ⟨none, 0, rfl, Nat.le_refl _, fun i a h => by simp at h⟩, (fun m hm => by cases hm), by simp⟩
  · simp [Value.cells] at hcs
    obtain ⟨rfl, rfl, rfl⟩ := hcs
    simp only [if_true] at hmm
    rw [Tryd.cellsHA] at hrow
    simp only [Prod.mk.injEq] at hx
    obtain ⟨rfl, _⟩ := hx
    have hb : len ≤ 4398046510976 := by
      have := sized_slice hsz (j := j) (t := 22) (e := 56) ht hd Tryd.underlying22
      rw [Tryd.bytesMs] at this
      simp only [List.length_map, List.length_range, reachBytes] at this
      omega
    have hwD : ∀ i, i < len → ∀ q ∈ (D i).weights Tryd.prog 56, q ≤ reachBytes := fun i hi q hq => by
      have h1 : q ∈ DataW.weightsAll Tryd.prog 56 ((List.range len).map D) := weights_allX (List.mem_map.2 ⟨i, List.mem_range.2 hi, rfl⟩) q hq
      have := List.all_eq_true.1 hsz q (DataW.weights_mem_each ht hd q (by simp only [DataW.weights, Tryd.underlying22, List.mem_cons, List.mem_append]; exact .inr (.inl h1)))
      simpa using this
    have each : ∀ i, i < len → ∃ q : Msg, ((-9223372036854775808 ≤ q.1 ∧ q.1 ≤ 9223372036854775807) ∧ q.2.2.length ≤ 140737488351232 ∧ Byt q.2.2) ∧ Bs W q.2.1 q.2.2 ∧ ∃ g o, a = ⟨g, o, none⟩ ∧ W.cell? ⟨g, o + i * 2, none⟩ = some (.int .i64 q.1) ∧ W.cell? ⟨g, o + i * 2 + 1, none⟩ = some q.2.1 := by
      intro i hi
      obtain ⟨cs', h1, h2⟩ := hrow i (by omega)
      obtain ⟨_, hlen, hcell⟩ := World.cells?_some h1
      obtain ⟨y0, y1, k, hDi, _, g0, g1⟩ := trod_struct2 Tryd.underlying56 h2
      match cs', hlen with
      | [v0, v1], _ =>
        simp [Tryd.cellsHI, Tryd.cellsBy] at g0 g1
        obtain ⟨k0, e0, _, w0⟩ := DataW.trod_int Tryd.underlying3 g0
        obtain ⟨l, b, y, hl⟩ := bytes_cellX g1 (fun q hq => hwD i hi q (by
          have e : D i = .agg [y0.1, y1.1] := by simpa using congrArg Prod.fst hDi
          rw [e]
          simp only [DataW.weights, Tryd.underlying56]
          exact DataW.weights_mem_each (j := 1) (t := 31) (d := y1.1) rfl rfl q hq))
        simp at e0
        subst e0
        have c0 := hcell 0 (by omega)
        have c1 := hcell 1 (by omega)
        obtain ⟨g, o, spot⟩ := a
        have hspot : spot = none := by
          obtain ⟨cs0, h10, _⟩ := hrow 0 (by omega)
          obtain ⟨_, hlen0, hcell0⟩ := World.cells?_some h10
          have h00 := hcell0 0 (by omega)
          rw [List.getElem?_eq_getElem (show 0 < cs0.length by omega)] at h00
          have := World.cell?_spot h00
          simpa [Addr.add] using this
        subst hspot
        rw [addr_add, addr_add] at c0 c1
        exact ⟨(k0, v1, l), ⟨bounds_i64 w0, hl, y⟩, b, g, o, rfl, by simpa using c0, by simpa using c1⟩
    have hch : ∃ f : Nat → Msg, ∀ i, i < len → ((-9223372036854775808 ≤ (f i).1 ∧ (f i).1 ≤ 9223372036854775807) ∧ (f i).2.2.length ≤ 140737488351232 ∧ Byt (f i).2.2) ∧ Bs W (f i).2.1 (f i).2.2 ∧ ∃ g o, a = ⟨g, o, none⟩ ∧ W.cell? ⟨g, o + i * 2, none⟩ = some (.int .i64 (f i).1) ∧ W.cell? ⟨g, o + i * 2 + 1, none⟩ = some (f i).2.1 :=
      ⟨fun i => if h : i < len then Classical.choose (each i h) else (0, .slice none 0 0, []), fun i hi => by simp only [dif_pos hi]; exact Classical.choose_spec (each i hi)⟩
    obtain ⟨f, hf⟩ := hch
    refine ⟨(List.range len).map f, ⟨some a, cap, by simp, by simpa using hl, fun i q hq => ?_⟩, fun q hq => ?_, by simpa using hb⟩
    · have hi : i < len := by
        have := (List.getElem?_eq_some_iff.1 hq).1
        simpa using this
      have hq' : f i = q := by simpa [hi] using hq
      subst hq'
      obtain ⟨_, h1, g, o, rfl, h2⟩ := hf i hi
      exact ⟨h1, g, o, rfl, h2⟩
    · obtain ⟨i, hi, rfl⟩ := List.mem_map.1 hq
      exact (hf i (List.mem_range.1 hi)).1
end Go.Proofs.YtdalkjenjnalbaaDoor

namespace Go.Proofs.YtdalkjenjnalbaaDoor
open Go.ChangeShapes Go.WideShapes Go.ChangeAt Go.RowKit Go.Deep
set_option linter.unusedVariables false
set_option maxRecDepth 100000

theorem msgs_nil {H : Type} {enc : TypeId × Value → H} {W : World} {base : Nat} {v : Value} {d : DataW H} {p : List MemPlace}
    (hok : Value.okWide Tryd.prog W .any base 22 v) (h : DataW.Trod enc Tryd.prog W 0 (fun _ => true) true 22 v d p) : ∀ n cap, v = .slice none n cap → cap = 0 := by
  obtain ⟨a0, len, cap, rfl⟩ := okWide_slice Tryd.underlying22 hok
  obtain ⟨fuel, hf⟩ := h
  intro n cap' hv'
  injection hv' with e1 e2 e3
  subst e1 e3
  rcases open_slice Tryd.underlying22 hf with ⟨hcs, hx⟩ | ⟨a, len', cap', m, n, D, Pl, hcs, _, hl, hm, hmm, hx, hrow⟩
  · simp [Value.cells] at hcs
    exact hcs.2
  · simp [Value.cells] at hcs
end Go.Proofs.YtdalkjenjnalbaaDoor

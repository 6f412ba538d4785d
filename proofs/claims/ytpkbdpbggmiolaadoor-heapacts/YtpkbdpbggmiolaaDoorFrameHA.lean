/-
  An argument that is a list of acts of the laws of heap, opened: numbers and bytes, with their lengths. No conditions but the form's own reach.
-/
import Derived.Test.YtpkbdpbggmiolaaDoorFrameRw
import Derived.Test.YtpkbdpbggmiolaaDoorActsWalk6
import Derived.Lib.SmallJoins
import Derived.Deep.Slices
import Derived.Deep.Strs
namespace Go.Proofs.YtpkbdpbggmiolaaDoor
open Go.ChangeShapes Go.WideShapes Go.ChangeAt Go.RowKit Go.Deep Go.Joins
set_option linter.unusedVariables false
set_option maxRecDepth 100000

theorem Tryd.cellsHA : Tryd.prog.cellsOf 31 = 3 := by kernel_rfl
theorem Tryd.cellsHI : Tryd.prog.cellsOf 3 = 1 := by kernel_rfl
theorem Tryd.bytesU8 : Tryd.prog.bytesOf 5 = 1 := by kernel_rfl
theorem weights_allX {H : Type} {P : Program} {e : TypeId} : ∀ {l : List (DataW H)} {d : DataW H}, d ∈ l → ∀ n ∈ d.weights P e, n ∈ DataW.weightsAll P e l
  | x :: l, d, hd, n, hn => by
    simp only [DataW.weightsAll, List.mem_append]
    rcases List.mem_cons.1 hd with h | h
    · subst h; exact .inl hn
    · exact .inr (weights_allX h n hn)
/-- A cell that holds a slice of bytes, with its reach. -/
theorem bytes_cellX {H : Type} {enc : TypeId × Value → H} {W : World} {v : Value} {y : DataW H × List MemPlace} {n : Nat}
    (h : DataW.trod enc Tryd.prog W 0 (fun _ => true) true n 29 [v] = some y) (hw : ∀ q ∈ y.1.weights Tryd.prog 29, q ≤ reachBytes) : ∃ l, Bs W v l ∧ Byt l ∧ l.length ≤ 140737488351232 := by
  rcases open_ints Tryd.underlying29 Tryd.underlying5 Tryd.cells5 h with ⟨hcs, hx⟩ | ⟨x, len, cap, zs, hcs, _, hl, hm, hz, hx, hcell, hwz⟩
  · simp at hcs
    subst hcs
    exact ⟨[], Bs.nil _, fun i => by simp, by simp⟩
  · simp at hcs
    subst hcs
    simp only [if_true] at hz
    have hlen : (zs.take len).length = len := by simp; omega
    have hq : len ≤ 140737488351232 := by
      subst hx
      have := hw (((lits (H := H) .u8 (zs.take len)).length + (lits (H := H) .u8 (zs.drop len)).length) * Tryd.prog.bytesOf 5) (by simp [DataW.weights, Tryd.underlying29])
      rw [Tryd.bytesU8] at this
      simp only [lits, List.length_map, List.length_take, List.length_drop, reachBytes] at this
      omega
    refine ⟨zs.take len, ⟨some x, cap, by rw [hlen], by omega, (fun h => by cases h), ?_⟩, ?_, by omega⟩
    · intro ad ha i hi
      obtain rfl := Option.some.inj ha
      rw [hcell i (by omega)]
      simp [List.getD, show i < len by omega]
    · intro i
      by_cases hi : i < len
      · have e : (zs.take len).getD i 0 = zs[i]'(by omega) := by simp [List.getD, hi, show i < zs.length by omega]
        rw [e]
        exact bounds_u8 (hwz _ (List.getElem_mem _))
      · have e : (zs.take len).getD i 0 = 0 := by
          rw [List.getD, List.getElem?_eq_none (by omega)]; rfl
        rw [e]; omega
theorem hacts_arg {H : Type} {enc : TypeId × Value → H} {W : World} {base : Nat} {v : Value} {d : DataW H} {p : List MemPlace} {ts : List TypeId} {ds : List (DataW H)}
    (hok : Value.okWide Tryd.prog W .any base 22 v) (h : DataW.Trod enc Tryd.prog W 0 (fun _ => true) true 22 v d p)
    (hsz : (DataW.weightsEach Tryd.prog ts ds).all (· ≤ reachBytes) = true) (j : Nat) (ht : ts[j]? = some 22) (hd : ds[j]? = some d) :
    ∃ qs, HAs W v qs := by
  obtain ⟨a0, len, cap, rfl⟩ := okWide_slice Tryd.underlying22 hok
  obtain ⟨fuel, hf⟩ := h
  rcases open_slice Tryd.underlying22 hf with ⟨hcs, hx⟩ | ⟨a, len', cap', m, n, D, Pl, hcs, _, hl, hm, hmm, hx, hrow⟩
  · simp [Value.cells] at hcs
    obtain ⟨rfl, rfl, rfl⟩ := hcs
    exact ⟨[], none, 0, rfl, Nat.le_refl _, by simp, fun i a h => by simp at h⟩
  · simp [Value.cells] at hcs
    obtain ⟨rfl, rfl, rfl⟩ := hcs
    simp only [if_true] at hmm
    rw [Tryd.cellsHA] at hrow
    simp only [Prod.mk.injEq] at hx
    obtain ⟨rfl, _⟩ := hx
    have hwD : ∀ i, i < len → ∀ q ∈ (D i).weights Tryd.prog 31, q ≤ reachBytes := fun i hi q hq => by
      have h1 : q ∈ DataW.weightsAll Tryd.prog 31 ((List.range len).map D) := weights_allX (List.mem_map.2 ⟨i, List.mem_range.2 hi, rfl⟩) q hq
      have := List.all_eq_true.1 hsz q (DataW.weights_mem_each ht hd q (by simp only [DataW.weights, Tryd.underlying22, List.mem_cons, List.mem_append]; exact .inr (.inl h1)))
      simpa using this
    have each : ∀ i, i < len → ∃ q : HAct, q.ok W ∧ ∃ g o, a = ⟨g, o, none⟩ ∧ W.cell? ⟨g, o + i * 3, none⟩ = some (.int .i64 q.ki) ∧ W.cell? ⟨g, o + i * 3 + 1, none⟩ = some (.int .i64 q.id) ∧ W.cell? ⟨g, o + i * 3 + 2, none⟩ = some q.v := by
      intro i hi
      obtain ⟨cs', h1, h2⟩ := hrow i (by omega)
      obtain ⟨_, hlen, hcell⟩ := World.cells?_some h1
      obtain ⟨y0, y1, y2, k, hDi, _, g0, g1, g2⟩ := trod_struct3 Tryd.underlying31 h2
      match cs', hlen with
      | [v0, v1, v2], _ =>
        simp [Tryd.cellsHI, Tryd.cells23] at g0 g1 g2
        obtain ⟨k0, e0, _, w0⟩ := DataW.trod_int Tryd.underlying3 g0
        obtain ⟨k1, e1, _, w1⟩ := DataW.trod_int Tryd.underlying3 g1
        obtain ⟨l, b, y, hl⟩ := bytes_cellX g2 (fun q hq => hwD i hi q (by
          have e : D i = .agg [y0.1, y1.1, y2.1] := by simpa using congrArg Prod.fst hDi
          rw [e]
          simp only [DataW.weights, Tryd.underlying31]
          exact DataW.weights_mem_each (j := 2) (t := 29) (d := y2.1) rfl rfl q hq))
        simp at e0 e1
        subst e0 e1
        have c0 := hcell 0 (by omega)
        have c1 := hcell 1 (by omega)
        have c2 := hcell 2 (by omega)
        obtain ⟨g, o, spot⟩ := a
        have hspot : spot = none := by
          obtain ⟨cs0, h10, _⟩ := hrow 0 (by omega)
          obtain ⟨_, hlen0, hcell0⟩ := World.cells?_some h10
          have h00 := hcell0 0 (by omega)
          rw [List.getElem?_eq_getElem (show 0 < cs0.length by omega)] at h00
          have := World.cell?_spot h00
          simpa [Addr.add] using this
        subst hspot
        rw [addr_add, addr_add] at c0 c1 c2
        exact ⟨⟨k0, k1, v2, l⟩, ⟨b, y, hl, bounds_i64 w0, bounds_i64 w1⟩, g, o, rfl, by simpa using c0, by simpa using c1, by simpa using c2⟩
    have hch : ∃ f : Nat → HAct, ∀ i, i < len → (f i).ok W ∧ ∃ g o, a = ⟨g, o, none⟩ ∧ W.cell? ⟨g, o + i * 3, none⟩ = some (.int .i64 (f i).ki) ∧ W.cell? ⟨g, o + i * 3 + 1, none⟩ = some (.int .i64 (f i).id) ∧ W.cell? ⟨g, o + i * 3 + 2, none⟩ = some (f i).v :=
      ⟨fun i => if h : i < len then Classical.choose (each i h) else ⟨0, 0, .slice none 0 0, []⟩, fun i hi => by simp only [dif_pos hi]; exact Classical.choose_spec (each i hi)⟩
    obtain ⟨f, hf⟩ := hch
    refine ⟨(List.range len).map f, some a, cap, by simp, by simpa using hl, hm, fun i q hq => ?_⟩
    have hi : i < len := by
      have := (List.getElem?_eq_some_iff.1 hq).1
      simpa using this
    have hq' : f i = q := by simpa [hi] using hq
    subst hq'
    obtain ⟨h1, g, o, rfl, h2⟩ := hf i hi
    exact ⟨h1, g, o, rfl, h2⟩
end Go.Proofs.YtpkbdpbggmiolaaDoor

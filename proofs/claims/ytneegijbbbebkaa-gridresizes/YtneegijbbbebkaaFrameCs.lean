/-
  An argument that is a case, opened: its bytes, its size and its lists. No conditions but the form's own reach.
-/
import Derived.Test.YtneegijbbbebkaaFrameG
import Derived.Test.YtneegijbbbebkaaGHeavy
import Derived.Lib.SmallJoins
import Derived.Deep.Slices
import Derived.Deep.Strs
namespace Go.Proofs.Ytneegijbbbebkaa
open Go.ChangeShapes Go.WideShapes Go.ChangeAt Go.RowKit Go.Deep Go.Joins
set_option linter.unusedVariables false
set_option maxRecDepth 100000

theorem Try.cellsCs : Try.prog.cellsOf 39 = 6 := by kernel_rfl
theorem Try.cellsR : Try.prog.cellsOf 22 = 1 := by kernel_rfl
theorem Try.cellsBb : Try.prog.cellsOf 37 = 1 := by kernel_rfl
theorem Try.bytes5g : Try.prog.bytesOf 5 = 1 := by kernel_rfl
theorem Try.cells5g : Try.prog.cellsOf 5 = 1 := by kernel_rfl
theorem ints_cell {H : Type} {enc : TypeId × Value → H} {W : World} {n : Nat} {v : Value} {y : DataW H × List MemPlace} (hf : DataW.trod enc Try.prog W 0 (fun _ => true) true n 22 [v] = some y) (hw : ∀ q ∈ y.1.weights Try.prog 22, q ≤ reachBytes) : ∃ l, Is W v l := by
  rcases open_ints Try.underlying22 Try.underlying3 Try.cellsZ hf with ⟨hcs, hx⟩ | ⟨x, len, cap, zs, hcs, _, hl, hm, hz, hx, hcell, hwz⟩
  · simp at hcs
    subst hcs
    exact ⟨[], is_nil W⟩
  · simp at hcs
    subst hcs
    simp only [if_true] at hz
    have hlen : (zs.take len).length = len := by simp; omega
    have hb : len ≤ 17592186043904 := by
      have := hw (((lits .i64 (zs.take len) : List (DataW H)).length + (lits .i64 (zs.drop len) : List (DataW H)).length) * Try.prog.bytesOf 3) (by rw [hx]; simp [DataW.weights, Try.underlying22])
      rw [Try.bytesZ] at this
      simp only [lits, List.length_map, List.length_take, List.length_drop, reachBytes] at this
      omega
    refine ⟨zs.take len, by omega, fun q hq => i64_of_wf (hwz q (List.take_subset _ _ hq)), some x, cap, by rw [hlen], by omega, fun i q hi => ?_⟩
    have hil : i < len := by have := (List.getElem?_eq_some_iff.1 hi).1; omega
    have h0 := hcell i (by omega)
    obtain ⟨g, off, sp⟩ := x
    have h00 := hcell 0 (by omega)
    have hsp : sp = none := by simpa [Addr.add] using World.cell?_spot h00
    subst hsp
    rw [addG] at h0
    refine ⟨g, off, rfl, ?_⟩
    rw [h0]
    rw [List.getElem?_take_of_lt hil] at hi
    obtain ⟨h3, h4⟩ := List.getElem?_eq_some_iff.1 hi
    subst h4
    simp [List.getD, h3]
theorem bytes_cell {H : Type} {enc : TypeId × Value → H} {W : World} {n : Nat} {v : Value} {y : DataW H × List MemPlace} (hf : DataW.trod enc Try.prog W 0 (fun _ => true) true n 37 [v] = some y) (hw : ∀ q ∈ y.1.weights Try.prog 37, q ≤ reachBytes) : ∃ l, Bs W v l ∧ Byt l ∧ l.length ≤ 140737488351232 := by
  rcases open_ints Try.underlying37 Try.underlying5 Try.cells5g hf with ⟨hcs, hx⟩ | ⟨x, len, cap, zs, hcs, _, hl, hm, hz, hx, hcell, hwz⟩
  · simp at hcs
    subst hcs
    exact ⟨[], Bs.nil _, fun i => by simp, by simp⟩
  · simp at hcs
    subst hcs
    simp only [if_true] at hz
    have hlen : (zs.take len).length = len := by simp; omega
    have hb : len ≤ 140737488351232 := by
      have := hw (((lits .u8 (zs.take len) : List (DataW H)).length + (lits .u8 (zs.drop len) : List (DataW H)).length) * Try.prog.bytesOf 5) (by rw [hx]; simp [DataW.weights, Try.underlying37])
      rw [Try.bytes5g] at this
      simp only [lits, List.length_map, List.length_take, List.length_drop, reachBytes] at this
      omega
    refine ⟨zs.take len, ⟨some x, cap, by rw [hlen], by omega, (fun h => by cases h), ?_⟩, ?_, by omega⟩
    · intro ad ha i hi
      obtain rfl := Option.some.inj ha
      rw [hcell i (by omega)]
      simp [List.getD, show i < len by omega]
    · intro i
      by_cases hi : i < len
      · have e : (zs.take len).getD i 0 = zs[i]'(by omega) := by simp [List.getD, hi, show i < zs.length by omega]
        rw [e]
        exact bounds_u8 (hwz _ (List.getElem_mem _))
      · have e : (zs.take len).getD i 0 = 0 := by
          rw [List.getD, List.getElem?_eq_none (by omega)]; rfl
        rw [e]; omega
theorem array6 {α : Type} {cs : Array α} (h : cs.size = 6) : ∃ c0 c1 c2 c3 c4 c5, cs = #[c0, c1, c2, c3, c4, c5] := by
  obtain ⟨l⟩ := cs
  match l, h with
  | [c0, c1, c2, c3, c4, c5], _ => exact ⟨c0, c1, c2, c3, c4, c5, rfl⟩
/-- A case, read. -/
structure CsOk (W : World) (dv : Value) (z : Int) (vd vs vc ov : Value) (data D S C own : List Int) : Prop where
  d : Bs W dv data
  db : Byt data
  dl : data.length ≤ 140737488351232
  z : I64 z
  vd : Is W vd D
  vs : Is W vs S
  vc : Is W vc C
  o : Bs W ov own
  ob : Byt own
  ol : own.length ≤ 140737488351232
theorem case_arg {H : Type} {enc : TypeId × Value → H} {W : World} {base : Nat} {v : Value} {d : DataW H} {p : List MemPlace} {ts : List TypeId} {ds : List (DataW H)}
    (hok : Value.okWide Try.prog W .any base 39 v) (h : DataW.Trod enc Try.prog W 0 (fun _ => true) true 39 v d p)
    (hsz : (DataW.weightsEach Try.prog ts ds).all (· ≤ reachBytes) = true) (j : Nat) (ht : ts[j]? = some 39) (hd : ds[j]? = some d) :
    ∃ dv z vd vs vc ov data D S C own, v = caseV dv z vd vs vc ov ∧ CsOk W dv z vd vs vc ov data D S C own := by
  obtain ⟨cs, rfl, hcz⟩ := okWide_struct Try.underlying39 hok
  obtain ⟨c0, c1, c2, c3, c4, c5, rfl⟩ := array6 (hcz.trans Try.cellsCs)
  obtain ⟨fuel, hf⟩ := h
  obtain ⟨xs, n, _, hx, hl, hlen, hff⟩ := DataW.trod_struct Try.underlying39 hf
  match xs, hlen with
  | [y0, y1, y2, y3, y4, y5], _ =>
    have h0 := hff 0 _ rfl
    have h1 := hff 1 _ rfl
    have h2 := hff 2 _ rfl
    have h3 := hff 3 _ rfl
    have h4 := hff 4 _ rfl
    have h5 := hff 5 _ rfl
    simp [Value.cells, Try.cellsR, Try.cellsZ, Try.cellsBb] at h0 h1 h2 h3 h4 h5
    have hd1 : d = .agg [y0.1, y1.1, y2.1, y3.1, y4.1, y5.1] := by have := congrArg Prod.fst hx; simpa using this
    have hall : ∀ q ∈ DataW.weightsEach Try.prog [37, 3, 22, 22, 22, 37] [y0.1, y1.1, y2.1, y3.1, y4.1, y5.1], q ≤ reachBytes := fun q hq => by
      have := List.all_eq_true.1 hsz q (DataW.weights_mem_each ht hd q (by rw [hd1]; simp only [DataW.weights, Try.underlying39]; exact hq))
      simpa using this
    obtain ⟨k0, e0, _, w0⟩ := DataW.trod_int Try.underlying3 h1
    simp at e0
    subst e0
    obtain ⟨l0, p1, p2, p3⟩ := bytes_cell h0 (fun q hq => hall q (DataW.weights_mem_each (j := 0) rfl rfl q hq))
    obtain ⟨l2, hl2⟩ := ints_cell h2 (fun q hq => hall q (DataW.weights_mem_each (j := 2) rfl rfl q hq))
    obtain ⟨l3, hl3⟩ := ints_cell h3 (fun q hq => hall q (DataW.weights_mem_each (j := 3) rfl rfl q hq))
    obtain ⟨l4, hl4⟩ := ints_cell h4 (fun q hq => hall q (DataW.weights_mem_each (j := 4) rfl rfl q hq))
    obtain ⟨l5, q1, q2, q3⟩ := bytes_cell h5 (fun q hq => hall q (DataW.weights_mem_each (j := 5) rfl rfl q hq))
    exact ⟨c0, k0, c2, c3, c4, c5, l0, l2, l3, l4, l5, rfl, ⟨p1, p2, p3, i64_of_wf w0, hl2, hl3, hl4, q1, q2, q3⟩⟩
end Go.Proofs.Ytneegijbbbebkaa

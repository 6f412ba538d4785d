/-
  Arguments that are slices of slices of bytes, and slices of ints, opened, with their lengths. No conditions but the form's own reach.
-/
import Derived.Test.YtpkbdpbggmiolaaDoorFrameRw
import Derived.Test.YtpkbdpbggmiolaaDoorHBytes
namespace Go.Proofs.YtpkbdpbggmiolaaDoor
open Go.ChangeShapes Go.WideShapes Go.ChangeAt Go.RowKit Go.Deep
set_option linter.unusedVariables false
set_option maxRecDepth 100000

theorem Tryd.bytesBs : Tryd.prog.bytesOf 29 = 24 := by kernel_rfl
theorem Tryd.bytesI : Tryd.prog.bytesOf 3 = 8 := by kernel_rfl
theorem Tryd.cellsZ : Tryd.prog.cellsOf 3 = 1 := by kernel_rfl
theorem rows_len {H : Type} {enc : TypeId × Value → H} {W : World} {base : Nat} {v : Value} {d : DataW H} {p : List MemPlace} {ts : List TypeId} {ds : List (DataW H)}
    (hok : Value.okWide Tryd.prog W .any base 52 v) (h : DataW.Trod enc Tryd.prog W 0 (fun _ => true) true 52 v d p)
    (hsz : (DataW.weightsEach Tryd.prog ts ds).all (· ≤ reachBytes) = true) (j : Nat) (ht : ts[j]? = some 52) (hd : ds[j]? = some d) :
    ∃ a n c, v = .slice a n c ∧ n ≤ 140737488351232 := by
  obtain ⟨a0, len, cap, rfl⟩ := okWide_slice Tryd.underlying52 hok
  obtain ⟨fuel, hf⟩ := h
  rcases open_int_rows Tryd.underlying52 Tryd.underlying29 Tryd.underlying5 Tryd.cells23 Tryd.cells5 hf with ⟨hcs, hx⟩ | ⟨a, l, c, A, L, C, Z, hcs, _, hl, hm, hx, hrow⟩
  · simp [Value.cells] at hcs
    obtain ⟨rfl, rfl, rfl⟩ := hcs
    exact ⟨none, 0, 0, rfl, by omega⟩
  · simp [Value.cells] at hcs
    obtain ⟨rfl, rfl, rfl⟩ := hcs
    refine ⟨_, _, _, rfl, ?_⟩
    simp only [Prod.mk.injEq] at hx
    obtain ⟨rfl, rfl⟩ := hx
    have := sized_slice hsz (j := j) (t := 52) (e := 29) ht hd Tryd.underlying52
    rw [Tryd.bytesBs] at this
    simp only [List.length_map, List.length_range, reachBytes] at this
    omega
theorem ints_arg {H : Type} {enc : TypeId × Value → H} {W : World} {base : Nat} {v : Value} {d : DataW H} {p : List MemPlace} {ts : List TypeId} {ds : List (DataW H)}
    (hok : Value.okWide Tryd.prog W .any base 53 v) (h : DataW.Trod enc Tryd.prog W 0 (fun _ => true) true 53 v d p)
    (hsz : (DataW.weightsEach Tryd.prog ts ds).all (· ≤ reachBytes) = true) (j : Nat) (ht : ts[j]? = some 53) (hd : ds[j]? = some d) :
    ∃ l, Zs W v l ∧ (∀ x ∈ l, -9223372036854775808 ≤ x ∧ x ≤ 9223372036854775807) ∧ l.length ≤ 140737488351232 := by
  obtain ⟨a0, len, cap, rfl⟩ := okWide_slice Tryd.underlying53 hok
  obtain ⟨fuel, hf⟩ := h
  rcases open_ints Tryd.underlying53 Tryd.underlying3 Tryd.cellsZ hf with ⟨hcs, hx⟩ | ⟨x, l, c, zs, hcs, _, hl, hm, hz, hx, hcell, hwz⟩
  · simp [Value.cells] at hcs
    obtain ⟨rfl, rfl, rfl⟩ := hcs
    exact ⟨[], ⟨none, 0, rfl, Nat.le_refl _, fun i hi => by simp at hi⟩, fun x hx => by simp at hx, by simp⟩
  · simp [Value.cells] at hcs
    obtain ⟨rfl, rfl, rfl⟩ := hcs
    simp only [if_true] at hz
    have hlen : (zs.take len).length = len := by simp; omega
    have hb : len ≤ 140737488351232 := by
      simp only [Prod.mk.injEq] at hx
      obtain ⟨rfl, rfl⟩ := hx
      have := sized_slice hsz (j := j) (t := 53) (e := 3) ht hd Tryd.underlying53
      rw [Tryd.bytesI] at this
      simp only [lits, List.length_map, List.length_take, List.length_drop, reachBytes] at this
      omega
    refine ⟨zs.take len, ⟨some x, cap, by rw [hlen], by omega, fun i hi => ?_⟩, fun y hy => bounds_i64 (hwz _ (List.mem_of_mem_take hy)), by omega⟩
    rw [hlen] at hi
    have h0 := hcell i (by omega)
    obtain ⟨g, off, sp⟩ := x
    have h00 := hcell 0 (by omega)
    have hsp : sp = none := by simpa [Addr.add] using World.cell?_spot h00
    subst hsp
    rw [addr_add] at h0
    refine ⟨g, off, rfl, ?_⟩
    rw [h0]
    simp [List.getD, hi, show i < zs.length by omega]
end Go.Proofs.YtpkbdpbggmiolaaDoor

/-
  An argument that is a slice of slices of bytes, opened: it reads as lists of bytes. No conditions.
-/
import Derived.Test.YtpkbdpbggmiolaaDoorFrame
import Derived.Test.YtpkbdpbggmiolaaDoorFrameL
import Derived.Test.YtpkbdpbggmiolaaDoorHFill
import Derived.Deep.Matrix
namespace Go.Proofs.YtpkbdpbggmiolaaDoor
open Go.ChangeShapes Go.WideShapes Go.ChangeAt Go.RowKit Go.Deep
set_option linter.unusedVariables false
set_option maxRecDepth 100000

theorem Tryd.cells23 : Tryd.prog.cellsOf 29 = 1 := by kernel_rfl

theorem rows_arg {H : Type} {enc : TypeId × Value → H} {W : World} {base : Nat} {v : Value} {d : DataW H} {p : List MemPlace}
    (hok : Value.okWide Tryd.prog W .any base 52 v) (h : DataW.Trod enc Tryd.prog W 0 (fun _ => true) true 52 v d p) :
    ∃ ls, Rws W v ls := by
  obtain ⟨a0, len, cap, rfl⟩ := okWide_slice Tryd.underlying52 hok
  obtain ⟨fuel, hf⟩ := h
  rcases open_int_rows Tryd.underlying52 Tryd.underlying29 Tryd.underlying5 Tryd.cells23 Tryd.cells5 hf with ⟨hcs, hx⟩ | ⟨a, l, c, A, L, C, Z, hcs, _, hl, hm, hx, hrow⟩
  · simp [Value.cells] at hcs
    obtain ⟨rfl, rfl, rfl⟩ := hcs
    exact ⟨[], none, 0, rfl, Nat.le_refl _, fun r hr => by simp at hr⟩
  · simp [Value.cells] at hcs
    obtain ⟨rfl, rfl, rfl⟩ := hcs
    have hrl : ∀ r, r < len → ((Z r).take (L r)).length = L r := fun r hr => by
      have h1 := (hrow r (by omega)).2.1
      have h2 := (hrow r (by omega)).2.2.2.1
      simp; omega
    have hget : ∀ r, r < len → ((List.range len).map fun r => (Z r).take (L r)).getD r [] = (Z r).take (L r) := fun r hr => by
      simp [List.getD, hr]
    have hlsl : ((List.range len).map fun r => (Z r).take (L r)).length = len := by simp
    refine ⟨(List.range len).map fun r => (Z r).take (L r), some a, cap, by rw [hlsl], by omega, fun r hr => ?_⟩
    rw [hlsl] at hr
    obtain ⟨b, off, spot⟩ := a
    have h00 := (hrow 0 (by omega)).1
    have hspot : spot = none := by simpa [Addr.add] using World.cell?_spot h00
    subst hspot
    obtain ⟨h0, h1, h2, h3, h4, h5, h6⟩ := hrow r (by omega)
    rw [addr_add] at h0
    rw [hget r hr]
    refine ⟨b, off, _, rfl, h0, ⟨A r, C r, by rw [hrl r hr], by rw [hrl r hr]; exact h1, h5, fun ad' ha' i hi => ?_⟩, fun i => ?_⟩
    · rw [hrl r hr] at hi
      rw [(h6 ad' ha').2 i (by omega)]
      simp [List.getD, hi]
    · by_cases hi : i < L r
      · have e : ((Z r).take (L r)).getD i 0 = (Z r)[i]'(by omega) := by simp [List.getD, hi, show i < (Z r).length by omega]
        rw [e]
        exact bounds_u8 (h4 _ (List.getElem_mem _))
      · have e : ((Z r).take (L r)).getD i 0 = 0 := by
          rw [List.getD, List.getElem?_eq_none (by rw [hrl r hr]; omega)]; rfl
        rw [e]; omega
end Go.Proofs.YtpkbdpbggmiolaaDoor

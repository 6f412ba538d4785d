/-
  From the condition that the program's table of constants reads as its text lays it to the cells of the table; and a world that meets the condition. No conditions beside it.
-/
import Derived.Test.YtpkbdpbggmiolaaDoorFrame
import Derived.Test.YtpkbdpbggmiolaaDoorCrcWalk
import Derived.LaidMore
import Derived.Stop.Joined
namespace Go.Proofs.YtpkbdpbggmiolaaDoor
open Go.ChangeShapes Go.WideShapes Go.ChangeAt Go.RowKit
set_option linter.unusedVariables false
set_option maxRecDepth 100000

/-- What the rows list. -/
def laidTab : List (String × DataW Unit) := [("slabvault/check.fourBits", Rows.laid_slabvault_check_fourBits)]
theorem Tryd.gTab : Tryd.prog.globalNamed "slabvault/check.fourBits" = some 0 := by kernel_rfl
theorem Tryd.tTab : (Tryd.prog.globals[0]?).map (·.type) = some 107 := by kernel_rfl
theorem Tryd.cellsU32 : Tryd.prog.cellsOf 79 = 1 := by kernel_rfl

theorem agg_lits {H : Type} : (Rows.laid_slabvault_check_fourBits : DataW H) = .agg (tab16.map fun n : Nat => .lit (.int .u32 (n : Int))) := rfl

theorem tab_of_laid {W : World} (h : laidMetH Tryd.prog laidTab W) : Tab W := by
  rw [MakeChecks.laidMetH_plain _ _ _ (by kernel_rfl)] at h
  obtain ⟨ps, ⟨g0, t0, cs0, f0, p0, q0, hg0, ht0, hv0, hd0, _, _⟩, _, _⟩ := h
  obtain rfl := Option.some.inj (Tryd.gTab.symm.trans hg0)
  obtain rfl := Option.some.inj (Tryd.tTab.symm.trans ht0)
  obtain ⟨xs, m1, rfl, hx1, hlen, hn, hel⟩ := DataW.trod_array Tryd.underlying107 hd0
  simp only [Prod.mk.injEq] at hx1
  have hx2 := hx1.1
  rw [agg_lits] at hx2
  injection hx2 with hx2
  intro j hj
  have h1 := hel j hj
  rw [Tryd.cellsU32, Nat.mul_one] at h1
  have hjx : j < xs.length := by omega
  rw [List.getElem?_eq_getElem hjx] at h1
  obtain ⟨k, e1, e2, _⟩ := DataW.trod_int Tryd.underlying79 h1
  have h2 : (tab16.map fun n : Nat => (DataW.lit (.int .u32 (n : Int)) : DataW Unit))[j]? = some (.lit (.int .u32 k)) := by
    rw [hx2, List.getElem?_map, List.getElem?_eq_getElem hjx, e2]; rfl
  have hj16 : j < tab16.length := hj
  rw [List.getElem?_map, List.getElem?_eq_getElem hj16] at h2
  simp only [Option.map_some, Option.some.injEq, DataW.lit.injEq, Lit.int.injEq, true_and] at h2
  rw [World.var?_cell hg0 hv0 j]
  have h3 : cs0.toList[j]? = some (.int .u32 k) := by
    have : ((cs0.toList.drop j).take 1)[0]? = some (.int .u32 k) := by rw [e1]; rfl
    simpa using this
  have h4 : tab16.getD j 0 = tab16[j] := by simp [List.getD, hj16]
  rw [h4, h2]
  simpa using h3

/-- The door's own heap meets the condition. -/
theorem door_met (os : Os) (args : Array Value) : laidMetH Tryd.prog laidTab ((World.doorLaid Tryd.prog 400 os).forCall (fun _ _ => 0) ⟨#[], args, []⟩).memory :=
  laidMetH_of_parts3 (fuel := 8) (laidMet_of_run' 8 (by kernel_rfl) (by kernel_rfl)) (by kernel_rfl) (by kernel_rfl)

end Go.Proofs.YtpkbdpbggmiolaaDoor

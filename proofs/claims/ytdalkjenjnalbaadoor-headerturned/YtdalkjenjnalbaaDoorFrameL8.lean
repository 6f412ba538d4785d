/-
  From the condition that the program's two listed variables read as its text lays them to their cells; and a world that meets the condition. No conditions beside it.
-/
import Derived.Test.YtdalkjenjnalbaaDoorFrame
import Derived.Test.YtdalkjenjnalbaaDoorEBlks
import Derived.LaidMore
import Derived.Deep.Strs
import Derived.Stop.Joined
namespace Go.Proofs.YtdalkjenjnalbaaDoor
open Go.ChangeShapes Go.WideShapes Go.ChangeAt Go.RowKit Go.Deep
set_option linter.unusedVariables false
set_option maxRecDepth 100000

/-- What the rows list. -/
def laidTab : List (String × DataW Unit) := [("slabvault/check.fourBits", Rows.laid_slabvault_check_fourBits), ("slabvault/header.noExtent", Rows.laid_slabvault_header_noExtent)]
theorem Tryd.gTab : Tryd.prog.globalNamed "slabvault/check.fourBits" = some 1 := by kernel_rfl
theorem Tryd.tTab : (Tryd.prog.globals[1]?).map (·.type) = some 146 := by kernel_rfl
theorem Tryd.gNoR : Tryd.prog.globalNamed "slabvault/header.noExtent" = some 0 := by kernel_rfl
theorem Tryd.tNoR : (Tryd.prog.globals[0]?).map (·.type) = some 49 := by kernel_rfl
theorem Tryd.cellsU32 : Tryd.prog.cellsOf 96 = 1 := by kernel_rfl
theorem Tryd.cellsI64 : Tryd.prog.cellsOf 3 = 1 := by kernel_rfl

theorem agg_lits {H : Type} : (Rows.laid_slabvault_check_fourBits : DataW H) = .agg (tab16.map fun n : Nat => .lit (.int .u32 (n : Int))) := rfl

theorem tab_of_laid {W : World} (h : laidMetH Tryd.prog laidTab W) : Tab W ∧ NoX W := by
  rw [MakeChecks.laidMetH_plain _ _ _ (by kernel_rfl)] at h
  obtain ⟨ps, ⟨g0, t0, cs0, f0, p0, q0, hg0, ht0, hv0, hd0, ⟨g1, t1, cs1, f1, p1, q1, hg1, ht1, hv1, hd1, _, _⟩, _⟩, _, _⟩ := h
  obtain rfl := Option.some.inj (Tryd.gTab.symm.trans hg0)
  obtain rfl := Option.some.inj (Tryd.tTab.symm.trans ht0)
  obtain rfl := Option.some.inj (Tryd.gNoR.symm.trans hg1)
  obtain rfl := Option.some.inj (Tryd.tNoR.symm.trans ht1)
  refine ⟨?_, ?_⟩
  · obtain ⟨xs, m1, rfl, hx1, hlen, hn, hel⟩ := DataW.trod_array Tryd.underlying146 hd0
    simp only [Prod.mk.injEq] at hx1
    have hx2 := hx1.1
    rw [agg_lits] at hx2
    injection hx2 with hx2
    intro j hj
    have h1 := hel j hj
    rw [Tryd.cellsU32, Nat.mul_one] at h1
    have hjx : j < xs.length := by omega
    rw [List.getElem?_eq_getElem hjx] at h1
    obtain ⟨k, e1, e2, _⟩ := DataW.trod_int Tryd.underlying96 h1
    have h2 : (tab16.map fun n : Nat => (DataW.lit (.int .u32 (n : Int)) : DataW Unit))[j]? = some (.lit (.int .u32 k)) := by
      rw [hx2, List.getElem?_map, List.getElem?_eq_getElem hjx, e2]; rfl
    have hj16 : j < tab16.length := hj
    rw [List.getElem?_map, List.getElem?_eq_getElem hj16] at h2
    simp only [Option.map_some, Option.some.injEq, DataW.lit.injEq, Lit.int.injEq, true_and] at h2
    rw [World.var?_cell hg0 hv0 j]
    have h3 : cs0.toList[j]? = some (.int .u32 k) := by
      have : ((cs0.toList.drop j).take 1)[0]? = some (.int .u32 k) := by rw [e1]; rfl
      simpa using this
    have h4 : tab16.getD j 0 = tab16[j] := by simp [List.getD, hj16]
    rw [h4, h2]
    simpa using h3
  · obtain ⟨y0, y1, k, hx, _, g0, g1⟩ := trod_struct2 Tryd.underlying49 hd1
    simp [Tryd.cellsI64] at g0 g1
    obtain ⟨k0, e0, d0, _⟩ := DataW.trod_int Tryd.underlying3 g0
    obtain ⟨k1, e1, d1, _⟩ := DataW.trod_int Tryd.underlying3 g1
    simp only [Rows.laid_slabvault_header_noExtent, d0, d1, Prod.mk.injEq, DataW.agg.injEq, List.cons.injEq, DataW.lit.injEq, Lit.int.injEq, true_and, and_true] at hx
    obtain ⟨⟨rfl, rfl⟩, _⟩ := hx
    have c0 : cs1.toList[0]? = some (.int .i64 0) := by
      have : (cs1.toList.take 1)[0]? = some (.int .i64 0) := by rw [e0]; rfl
      simpa using this
    have c1 : cs1.toList[1]? = some (.int .i64 0) := by
      have : ((cs1.toList.drop 1).take 1)[0]? = some (.int .i64 0) := by rw [List.drop_one, e1]; rfl
      simpa using this
    refine ⟨?_, ?_⟩
    · rw [World.var?_cell hg1 hv1 0]; simpa using c0
    · rw [World.var?_cell hg1 hv1 1]; simpa using c1

/-- The door's own heap meets the condition. -/
theorem door_met (os : Os) (args : Array Value) : laidMetH Tryd.prog laidTab ((World.doorLaid Tryd.prog 400 os).forCall (fun _ _ => 0) ⟨#[], args, []⟩).memory :=
  laidMetH_of_parts3 (fuel := 8) (laidMet_of_run' 8 (by kernel_rfl) (by kernel_rfl)) (by kernel_rfl) (by kernel_rfl)

end Go.Proofs.YtdalkjenjnalbaaDoor

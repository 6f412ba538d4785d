/-
  The library's Clone at this program: which of its functions and types are it. No conditions.
-/
import Derived.Test.YtelfjgnmbikofaaProg
import Derived.Shelf.Pu.Clone
namespace Go.Proofs.Ytelfjgnmbikofaa
open Go.RowKit Go.Shelf

def Try.cloneA_ren : Go.Shelf.Ren := ⟨fun | 25 => 53 | n => n, fun | 9 => 9 | 3 => 3 | 4 => 4 | 37 => 103 | 0 => 0 | 47 => 104 | 5 => 5 | n => n, fun | n => n⟩
theorem Try.cloneA : Go.Proofs.LaysPu.n25 Try.prog Try.cloneA_ren := {
  mixed := by kernel_rfl
  f25 := Try.func53.trans (congrArg some (by kernel_rfl))
  t0 := Try.underlying0
  a0 := Try.isAgg0
  z0 := Try.sizeOf0
  v0 := Try.zeroValue0
  i0 := by kernel_rfl
  t3 := Try.underlying3
  a3 := Try.isAgg3
  z3 := Try.sizeOf3
  v3 := Try.zeroValue3
  i3 := by kernel_rfl
  t4 := Try.underlying4
  a4 := Try.isAgg4
  z4 := Try.sizeOf4
  v4 := Try.zeroValue4
  i4 := by kernel_rfl
  t5 := Try.underlying5
  a5 := Try.isAgg5
  z5 := Try.sizeOf5
  v5 := Try.zeroValue5
  i5 := by kernel_rfl
  t9 := Try.underlying9
  a9 := Try.isAgg9
  z9 := Try.sizeOf9
  v9 := Try.zeroValue9
  i9 := by kernel_rfl
  t37 := Try.underlying103
  a37 := Try.isAgg103
  z37 := Try.sizeOf103
  v37 := Try.zeroValue103
  i37 := by kernel_rfl
  t47 := Try.underlying104
  a47 := Try.isAgg104
  z47 := Try.sizeOf104
  v47 := Try.zeroValue104
  i47 := by kernel_rfl }

end Go.Proofs.Ytelfjgnmbikofaa

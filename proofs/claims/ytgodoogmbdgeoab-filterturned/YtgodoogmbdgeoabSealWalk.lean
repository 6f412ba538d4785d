/-
  Walks of Crc and Seal, the program's and the document's, and of the law's own examples (lives). Conditions: lengths within the machine's bounds; the table stands as the program's text lays it.
-/
import Derived.Test.YtgodoogmbdgeoabCrcWalk
import Derived.Lib.SlBytesConst
namespace Go.Proofs.Ytgodoogmbdgeoab
open Go.RowKit
set_option linter.unusedVariables false
set_option maxRecDepth 100000

theorem byt_lit (l : List Int) (h : l.all (fun x => decide (0 ≤ x) && decide (x ≤ 255)) = true) : Byt l := fun i => by
  by_cases hi : i < l.length
  · have e : l.getD i 0 = l[i] := by simp [List.getD, hi]
    have := List.all_eq_true.1 h l[i] (List.getElem_mem _)
    rw [e]; simpa using this
  · have e : l.getD i 0 = 0 := by rw [List.getD, List.getElem?_eq_none (by omega)]; rfl
    rw [e]; omega
theorem Bs.made (w : World) (l : List Int) (C : Array Value) (hC : C = (bcells l).toArray) (fr : Nat × Nat) : Bs (w.alloc (.cells C 5 fr)) (.slice (some ⟨w.heap.size, 0, none⟩) l.length l.length) l := by
  refine ⟨some ⟨w.heap.size, 0, none⟩, l.length, rfl, Nat.le_refl _, (fun h => by cases h), fun ad ha i hi => ?_⟩
  obtain rfl := Option.some.inj ha
  rw [addr_add, Nat.zero_add, World.cell?_alloc_mark, hC]
  simp [bcells, List.getD, hi]

/-- Bytes with their sum behind them. -/
def sealN (l : List Int) : List Int := l ++ digs (crcN l) 4
theorem sealN_length (l : List Int) : (sealN l).length = l.length + 4 := by rw [sealN, List.length_append, digs_length]

end Go.Proofs.Ytgodoogmbdgeoab

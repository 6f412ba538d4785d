/-
  Walks of Fletcher's sum, the program's and the document's: both tell fletch of the bytes. Conditions: lengths within the machine's bounds.
-/
import Derived.Test.YtdalkjenjnalbaaDoorWalkF
import Derived.Test.YtdalkjenjnalbaaDoorTurned
namespace Go.Proofs.YtdalkjenjnalbaaDoor
open Go.RowKit
set_option linter.unusedVariables false
set_option maxRecDepth 100000

/-- A slice that reads as bytes, opened cell by cell. -/
theorem Bs.cells {w : World} {v : Value} {l : List Int} (h : Bs w v l) :
    ∃ ao cap, v = .slice ao l.length cap ∧ l.length ≤ cap ∧ ∀ i, i < l.length → ∃ b off, ao = some ⟨b, off, none⟩ ∧ w.cell? ⟨b, off + i, none⟩ = some (.int .u8 (l.getD i 0)) := by
  have h' := h
  obtain ⟨ao, cap, rfl, hc, hn, hcell⟩ := h
  refine ⟨ao, cap, rfl, hc, fun i hi => ?_⟩
  obtain ⟨b, off, cap', hv, _, hcell'⟩ := h'.opened (by omega)
  injection hv with h1 h2 h3
  exact ⟨b, off, h1, hcell' i hi⟩

/-- Fletcher's two numbers of the first k bytes. -/
def fA (l : List Int) (k : Nat) : Int := (fl 0 0 (l.take k)).1 % 65535
def fB (l : List Int) (k : Nat) : Int := (fl 0 0 (l.take k)).2 % 65535
theorem fl_take (l : List Int) (k : Nat) (h : k < l.length) : fl 0 0 (l.take (k + 1)) = ((fl 0 0 (l.take k)).1 + l.getD k 0, (fl 0 0 (l.take k)).2 + ((fl 0 0 (l.take k)).1 + l.getD k 0)) := by
  rw [List.take_succ_eq_append_getElem h, fl_append]
  have : l.getD k 0 = l[k] := by simp [List.getD, h]
  rw [this]; rfl
theorem fA_next (l : List Int) (k : Nat) (h : k < l.length) : (fA l k + l.getD k 0) % 65535 = fA l (k + 1) := by
  unfold fA; rw [fl_take l k h]; simp only; omega
theorem fB_next (l : List Int) (k : Nat) (h : k < l.length) : (fB l k + fA l (k + 1)) % 65535 = fB l (k + 1) := by
  unfold fA fB; rw [fl_take l k h]; simp only; omega
theorem fA_in (l : List Int) (k : Nat) : 0 ≤ fA l k ∧ fA l k < 65535 := by unfold fA; omega
theorem fB_in (l : List Int) (k : Nat) : 0 ≤ fB l k ∧ fB l k < 65535 := by unfold fB; omega
theorem fletch_parts (l : List Int) : fletch l = fB l l.length * 65536 + fA l l.length := by
  unfold fletch fA fB; rw [List.take_length]
theorem fletch_in (l : List Int) : 0 ≤ fletch l ∧ fletch l < 4294967296 := by
  have := fA_in l l.length; have := fB_in l l.length
  rw [fletch_parts]; omega
theorem or16 (a b : Int) (ha0 : 0 ≤ a) (ha1 : a < 65535) (hb0 : 0 ≤ b) (hb1 : b < 65535) : bits .or .u32 (a * 65536) b = a * 65536 + b := by
  rw [u32_or _ _ (by omega) (by omega) hb0 (by omega), nat_join 16 _ _ (by omega) (by omega)]
  omega

end Go.Proofs.YtdalkjenjnalbaaDoor

/-
  The law's own counts and wide. Conditions: the extent and the shape fit.
-/
import Derived.Test.YtneegijbbbebkabGCovN
namespace Go.Proofs.Ytneegijbbbebkab
open Go.RowKit Go.Shelf
set_option linter.unusedVariables false
set_option maxRecDepth 100000

theorem cov_snoc {l : List Int} {i : Nat} {x : Int} (h : l[i]? = some x) : l.take (i + 1) = l.take i ++ [x] := by rw [List.take_add_one, h]; rfl
theorem wide_any (D : List Int) (v : Value) (w : World) (h : Is w v D) : Calls Try.prog 9 #[v] w fun e w' => e = .returned (.bool (decide (3000 < elN D))) ∧ Below w.heap.size w w' := by
  have HE : Hid _ := refElements_any D v w h
  obtain ⟨a1, m1, c1, rfl, _⟩ := h.open
  obtain ⟨x, hx⟩ : ∃ x, elN D = x := ⟨_, rfl⟩
  obtain ⟨y, hy⟩ : ∃ y, elE D = y := ⟨_, rfl⟩
  rw [hx, hy] at HE
  rw [hx]
  clear hx hy h
  go_enter Try.func9, Try.ntmps9
  go_wp2_with (go_at_call 11; refine Calls.mono HE.out ?_; rintro e w1 ⟨rfl, hb1⟩; have HB1 : Hid (Below w.heap.size w w1) := hb1; clear hb1)
  go_ret
  exact ⟨rfl, HB1.out⟩
end Go.Proofs.Ytneegijbbbebkab

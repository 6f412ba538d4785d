/-
  The walk of BtreeOrders. Conditions: lengths are such as memory bears.
-/
import Derived.Test.YtchdjjabephmdaaBLives
import Derived.Test.YtchdjjabephmdaaBOrdN
namespace Go.Proofs.Ytchdjjabephmdaa
open Go.RowKit
set_option linter.unusedVariables false
set_option maxRecDepth 100000

theorem Cs.below {w w' : World} {v : Value} {l : List Int} (h : Cs w v l) (hb : Below w.heap.size w w') : Cs w' v l := by
  obtain ⟨ao, cap, e, hc, hcell⟩ := h
  refine ⟨ao, cap, e, hc, fun i x hx => ?_⟩
  obtain ⟨g, o, h1, h2⟩ := hcell i x hx
  exact ⟨g, o, h1, (hb.cell (World.block_lt_of_cell? w _ h2)).trans h2⟩
set_option maxHeartbeats 4000000 in
theorem btreeOrders_walk (a b : ByteArray) (vx : Value) (x : List Int) (vy : Value) (y : List Int) (w : World) (ha : a.size ≤ maxLen) (hb : b.size ≤ maxLen) (hx : Cs w vx x) (hlx : x.length ≤ 140737488351232) (hy : Cs w vy y) (hly : y.length ≤ 140737488351232) :
    Calls Try.prog 4 #[.string a, .string b, vx, vy] w fun e w' => e = .returned (.bool true) ∧ Below w.heap.size w w' := by
  have HX : Hid (Cs w vx x) := hx
  have HY : Hid (Cs w vy y) := hy
  have H1 : Hid _ := refCmpN_any a b w ha hb
  have H0 : Hid _ := cmpNames_any a b w
  obtain ⟨r, HR⟩ : ∃ r, Hid (cmpN a b = r) := ⟨_, rfl⟩
  obtain ⟨s, HS⟩ : ∃ s, Hid (cmpI x y = s) := ⟨_, rfl⟩
  rw [HR.out] at H0 H1
  obtain ⟨ao, ca, rfl, _, _⟩ := hx
  obtain ⟨bo, cb, rfl, _, _⟩ := hy
  go_enter Try.func4, Try.ntmps4
  go_wp2_with (first
    | (go_at_call 21; refine Calls.mono H0.out ?_; rintro e w1 ⟨rfl, hw1⟩; obtain rfl := hw1.symm)
    | (go_at_call 22; refine Calls.mono H1.out ?_; rintro e w1 ⟨rfl, hb1⟩; have B1 : Hid (Below w.heap.size w w1) := hb1; clear hb1)
    | (go_at_call 23; refine Calls.mono (cmpC_any x y _ _ _ (HX.out.below B1.out) (HY.out.below B1.out) (by omega) (by omega)) ?_; rintro e w2 ⟨rfl, hb1⟩; rw [HS.out]; have B2 : Hid (Below w.heap.size w w2) := B1.out.trans (hb1.mono B1.out.size); clear hb1)
    | (go_at_call 24; refine Calls.mono (refCmpC_any x y _ _ _ (HX.out.below B2.out) (HY.out.below B2.out) (by omega) (by omega)) ?_; rintro e w3 ⟨rfl, hb1⟩; rw [HS.out]; have B3 : Hid (Below w.heap.size w w3) := B2.out.trans (hb1.mono B2.out.size); clear hb1)
    | (go_at_call 9; refine (lives7_any _).mono ?_; rintro e w4 ⟨rfl, hb1⟩; have B4 : Hid (Below w.heap.size w w4) := B3.out.trans (hb1.mono B3.out.size); clear hb1))
  go_ret
  exact ⟨rfl, B4.out⟩
end Go.Proofs.Ytchdjjabephmdaa

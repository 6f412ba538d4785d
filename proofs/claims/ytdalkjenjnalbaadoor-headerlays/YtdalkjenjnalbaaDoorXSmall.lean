/-
  The walks of extent's small functions (isSize, isWithin, mayBe, end, withSize) and of the document's May and common. Conditions: the numbers are ints.
-/
import Derived.Test.YtdalkjenjnalbaaDoorRows
import Derived.Test.YtdalkjenjnalbaaDoorXMem
namespace Go.Proofs.YtdalkjenjnalbaaDoor
open Go.RowKit
set_option linter.unusedVariables false
set_option maxRecDepth 100000

theorem ret_intX {k : IntKind} {a b : Int} (h : a = b) : Ending.returned (.int k a) = .returned (.int k b) := by rw [h]
theorem ret_boolX {a b : Bool} (h : a = b) : Ending.returned (.bool a) = .returned (.bool b) := by rw [h]
/-- Both numbers are ints. -/
def EW (x : Ext) : Prop := (-9223372036854775808 ≤ x.1 ∧ x.1 ≤ 9223372036854775807) ∧ -9223372036854775808 ≤ x.2 ∧ x.2 ≤ 9223372036854775807
theorem EW.zero : EW (0, 0) := by unfold EW; simp
def withinB (x : Ext) (size : Int) : Bool := decide (0 ≤ x.1 ∧ 0 ≤ x.2 ∧ x.2 ≤ size - x.1)
theorem withinB_may (x : Ext) : withinB x 4194304 = mayB x := rfl
/-- An extent as a value. -/
def xv (x : Ext) : Value := .agg #[.int .i64 x.1, .int .i64 x.2]

theorem isSize_any (n : Int) (w : World) : Calls Tryd.prog 64 #[.int .i64 n] w fun e w' => e = .returned (.bool (szB n)) ∧ w' = w := by
  by_cases h1 : 0 ≤ n
  · by_cases h2 : n ≤ 4194304
    · have H : Hid (szB n = true) := szB_iff.2 ⟨h1, h2⟩
      go_enter Tryd.func64, Tryd.ntmps64
      go_wp2
      go_ret
      exact ⟨ret_boolX H.out.symm, rfl⟩
    · have H : Hid (szB n = false) := by unfold Hid szB; simp; omega
      go_enter Tryd.func64, Tryd.ntmps64
      go_wp2
      go_ret
      exact ⟨ret_boolX H.out.symm, rfl⟩
  · have H : Hid (szB n = false) := by unfold Hid szB; simp; omega
    go_enter Tryd.func64, Tryd.ntmps64
    go_wp2
    go_ret
    exact ⟨ret_boolX H.out.symm, rfl⟩

set_option maxHeartbeats 1000000 in
theorem isWithin_any (a b size : Int) (w : World) (hx : EW (a, b)) (hs : 0 ≤ size ∧ size ≤ 4194304) :
    Calls Tryd.prog 65 #[.agg #[.int .i64 a, .int .i64 b], .int .i64 size] w fun e w' => e = .returned (.bool (withinB (a, b) size)) ∧ Below w.heap.size w w' := by
  obtain ⟨⟨a1, a2⟩, b1, b2⟩ := hx
  obtain ⟨s1, s2⟩ := hs
  dsimp only at a1 a2 b1 b2
  by_cases h1 : 0 ≤ a
  · by_cases h2 : 0 ≤ b
    · by_cases h3 : b ≤ size - a
      · have H : Hid (withinB (a, b) size = true) := by unfold Hid withinB; simp; omega
        go_enter Tryd.func65, Tryd.ntmps65
        go_wp2
        go_ret
        exact ⟨ret_boolX H.out.symm, (Below.refl _ _).alloc (Nat.le_refl _) _⟩
      · have H : Hid (withinB (a, b) size = false) := by unfold Hid withinB; simp; omega
        go_enter Tryd.func65, Tryd.ntmps65
        go_wp2
        go_ret
        exact ⟨ret_boolX H.out.symm, (Below.refl _ _).alloc (Nat.le_refl _) _⟩
    · have H : Hid (withinB (a, b) size = false) := by unfold Hid withinB; simp; omega
      go_enter Tryd.func65, Tryd.ntmps65
      go_wp2
      go_ret
      exact ⟨ret_boolX H.out.symm, (Below.refl _ _).alloc (Nat.le_refl _) _⟩
  · have H : Hid (withinB (a, b) size = false) := by unfold Hid withinB; simp; omega
    go_enter Tryd.func65, Tryd.ntmps65
    go_wp2
    go_ret
    exact ⟨ret_boolX H.out.symm, (Below.refl _ _).alloc (Nat.le_refl _) _⟩

theorem mayBe_any (a b : Int) (w : World) (hx : EW (a, b)) :
    Calls Tryd.prog 50 #[.agg #[.int .i64 a, .int .i64 b]] w fun e w' => e = .returned (.bool (mayB (a, b))) ∧ Below w.heap.size w w' := by
  have HX : Hid (EW (a, b)) := hx
  clear hx
  have hs : w.heap.size < (w.alloc (.cells #[.int .i64 a, .int .i64 b] 49)).heap.size := by simp
  have HB : Hid (Below w.heap.size w (w.alloc (.cells #[.int .i64 a, .int .i64 b] 49))) := (Below.refl _ _).alloc (Nat.le_refl _) _
  go_enter Tryd.func50, Tryd.ntmps50
  go_wp2_with (go_at_call 65; refine (isWithin_any _ _ _ _ HX.out (by omega)).mono ?_; rintro e w' ⟨rfl, hb⟩)
  go_ret
  exact ⟨rfl, HB.out.trans (hb.mono (Nat.le_of_lt hs))⟩

theorem end_any (a b : Int) (w : World) (ha : 0 ≤ a) (hb : 0 ≤ b) (hab : a + b ≤ 9223372036854775807) :
    Calls Tryd.prog 66 #[.agg #[.int .i64 a, .int .i64 b]] w fun e w' => e = .returned (.int .i64 (a + b)) ∧ Below w.heap.size w w' := by
  go_enter Tryd.func66, Tryd.ntmps66
  go_wp2
  go_ret
  exact ⟨rfl, (Below.refl _ _).alloc (Nat.le_refl _) _⟩

theorem end_eq (a b : Int) (w : World) (ha : 0 ≤ a) (hb : 0 ≤ b) (hab : a + b ≤ 9223372036854775807) :
    Calls Tryd.prog 66 #[.agg #[.int .i64 a, .int .i64 b]] w fun e w' => e = .returned (.int .i64 (a + b)) ∧ w' = w.alloc (.cells #[.int .i64 a, .int .i64 b] 49) := by
  go_enter Tryd.func66, Tryd.ntmps66
  go_wp2
  go_ret
  exact ⟨rfl, rfl⟩

theorem withSize_any (n s : Int) (w : World) (h1 : 0 ≤ n) (h2 : n ≤ 4611686018427387904) (h3 : 0 ≤ s) (h4 : s ≤ 4194304) :
    Calls Tryd.prog 51 #[.int .i64 n, .int .i64 s] w fun e w' => e = .returned (.int .i64 (min (n + s) 4611686018427387904)) ∧ w' = w := by
  go_enter Tryd.func51, Tryd.ntmps51
  go_wp2
  go_ret
  exact ⟨ret_intX (by omega), rfl⟩

set_option maxHeartbeats 1000000 in
theorem refMay_any (a b : Int) (w : World) (hx : EW (a, b)) :
    Calls Tryd.prog 55 #[.agg #[.int .i64 a, .int .i64 b]] w fun e w' => e = .returned (.bool (mayB (a, b))) ∧ Below w.heap.size w w' := by
  obtain ⟨⟨a1, a2⟩, b1, b2⟩ := hx
  dsimp only at a1 a2 b1 b2
  by_cases h1 : 0 ≤ a
  · by_cases h2 : 0 ≤ b
    · by_cases h4 : a ≤ 4194304
      · by_cases h3 : b ≤ 4194304 - a
        · have H : Hid (mayB (a, b) = true) := by unfold Hid mayB; simp; omega
          go_enter Tryd.func55, Tryd.ntmps55
          go_wp2
          go_ret
          exact ⟨ret_boolX H.out.symm, (Below.refl _ _).alloc (Nat.le_refl _) _⟩
        · have H : Hid (mayB (a, b) = false) := by unfold Hid mayB; simp; omega
          go_enter Tryd.func55, Tryd.ntmps55
          go_wp2
          go_ret
          exact ⟨ret_boolX H.out.symm, (Below.refl _ _).alloc (Nat.le_refl _) _⟩
      · have H : Hid (mayB (a, b) = false) := by unfold Hid mayB; simp; omega
        go_enter Tryd.func55, Tryd.ntmps55
        go_wp2
        go_ret
        exact ⟨ret_boolX H.out.symm, (Below.refl _ _).alloc (Nat.le_refl _) _⟩
    · have H : Hid (mayB (a, b) = false) := by unfold Hid mayB; simp; omega
      go_enter Tryd.func55, Tryd.ntmps55
      go_wp2
      go_ret
      exact ⟨ret_boolX H.out.symm, (Below.refl _ _).alloc (Nat.le_refl _) _⟩
  · have H : Hid (mayB (a, b) = false) := by unfold Hid mayB; simp; omega
    go_enter Tryd.func55, Tryd.ntmps55
    go_wp2
    go_ret
    exact ⟨ret_boolX H.out.symm, (Below.refl _ _).alloc (Nat.le_refl _) _⟩

end Go.Proofs.YtdalkjenjnalbaaDoor

/-
  Walks of octet's functions over plain numbers: isWidth, numberError, Signed, and of the document's Fits and Signed. No conditions but that the arguments fit their kinds.
-/
import Derived.Test.YtnmmpllokejelabRows
import Derived.Test.YtnmmpllokejelabNums
import Derived.WalkKit
import Derived.WalkSpells
namespace Go.Proofs.Ytnmmpllokejelab
open Go.RowKit
set_option linter.unusedVariables false

theorem ret_int {k : IntKind} {a b : Int} (h : a = b) : Ending.returned (.int k a) = .returned (.int k b) := by rw [h]
theorem ret_bool {a b : Bool} (h : a = b) : Ending.returned (.bool a) = .returned (.bool b) := by rw [h]

theorem isWidth_any (n : Int) (w : World) :
    Calls Try.prog 13 #[.int .i64 n] w fun e w' => e = .returned (.bool (wOk n)) ∧ w' = w := by
  by_cases h1 : 1 ≤ n
  · by_cases h2 : n ≤ 8
    · have H : Hid (wOk n = true) := wOk_true h1 h2
      go_enter Try.func13, Try.ntmps13
      go_wp2
      go_ret
      exact ⟨ret_bool H.out.symm, rfl⟩
    · have H : Hid (wOk n = false) := wOk_false (by omega)
      go_enter Try.func13, Try.ntmps13
      go_wp2
      go_ret
      exact ⟨ret_bool H.out.symm, rfl⟩
  · have H : Hid (wOk n = false) := wOk_false (by omega)
    go_enter Try.func13, Try.ntmps13
    go_wp2
    go_ret
    exact ⟨ret_bool H.out.symm, rfl⟩

theorem numberError_any (u n : Int) (w : World) (hu0 : 0 ≤ u) (hu1 : u < 18446744073709551616) :
    Calls Try.prog 16 #[.int .u64 u, .int .i64 n] w fun e w' => e = .returned (.int .i64 (numErr u n)) ∧ w' = w := by
  rcases wOk_cases n with ⟨hw, h1, h2⟩ | ⟨hw, h⟩
  · by_cases h0 : u / 2 ^ (8 * n).toNat = 0
    · have hE : Hid (numErr u n = 0) := by simp [numErr, hw, h0, Hid]
      have hb : (u / 2 ^ (8 * n).toNat != 0) = false := by simp [h0]
      clear h0
      go_enter Try.func16, Try.ntmps16
      go_wp2_with (go_at_call 13; refine (isWidth_any _ _).mono ?_; rintro e w' ⟨rfl, rfl⟩)
      go_ret
      exact ⟨ret_int hE.out.symm, rfl⟩
    · have hE : Hid (numErr u n = 3) := by simp [numErr, hw, h0, Hid]
      have hb : (u / 2 ^ (8 * n).toNat != 0) = true := by simp [h0]
      clear h0
      go_enter Try.func16, Try.ntmps16
      go_wp2_with (go_at_call 13; refine (isWidth_any _ _).mono ?_; rintro e w' ⟨rfl, rfl⟩)
      go_ret
      exact ⟨ret_int hE.out.symm, rfl⟩
  · have hE : Hid (numErr u n = 2) := by simp [numErr, hw, Hid]
    go_enter Try.func16, Try.ntmps16
    go_wp2_with (go_at_call 13; refine (isWidth_any _ _).mono ?_; rintro e w' ⟨rfl, rfl⟩)
    go_ret
    exact ⟨ret_int hE.out.symm, rfl⟩

/-- Signed refuses what is no number of the width. -/
theorem signed_no (u n : Int) (w : World) (hu0 : 0 ≤ u) (hu1 : u < 18446744073709551616) (hE : (numErr u n != 0) = true) :
    Calls Try.prog 11 #[.int .u64 u, .int .i64 n] w fun e w' => e = .returned (.tuple #[.int .i64 0, .int .i64 (numErr u n)]) ∧ w' = w := by
  go_enter Try.func11, Try.ntmps11
  go_wp2_with (go_at_call 16; refine (numberError_any _ _ _ hu0 hu1).mono ?_; rintro e w' ⟨rfl, rfl⟩)
  go_ret2
  exact ⟨rfl, rfl⟩

theorem ret_two {k l : IntKind} {a b c d : Int} (h : a = b) (h' : c = d) : Ending.returned (.tuple #[.int k a, .int l c]) = .returned (.tuple #[.int k b, .int l d]) := by rw [h, h']

/-- A number of a width as one with a sign. -/
theorem signed_yes (u n : Int) (w : World) (hu0 : 0 ≤ u) (hu1 : u < 18446744073709551616) (hE : numErr u n = 0) :
    Calls Try.prog 11 #[.int .u64 u, .int .i64 n] w fun e w' => e = .returned (.tuple #[.int .i64 (sgn u n), .int .i64 0]) ∧ w' = w := by
  obtain ⟨h1, h2, h3⟩ := numErr_zero hu0 hE
  have h3' : Hid (u < 2 ^ (8 * n).toNat) := h3
  clear h3
  rcases (show n = 1 ∨ n = 2 ∨ n = 3 ∨ n = 4 ∨ n = 5 ∨ n = 6 ∨ n = 7 ∨ n = 8 by omega) with rfl | rfl | rfl | rfl | rfl | rfl | rfl | rfl
  all_goals
    go_enter Try.func11, Try.ntmps11
    go_wp2_with (go_at_call 16; refine (numberError_any _ _ _ hu0 hu1).mono ?_; rintro e w' ⟨rfl, rfl⟩)
    go_ret2
    refine ⟨ret_two ?_ rfl, rfl⟩
    first | exact sgn_cut u _ _ hu0 (by omega) h3'.out | exact sgn_eight u h3'.out hu0 hu1

end Go.Proofs.Ytnmmpllokejelab

/-
  Walks of octet's functions over plain numbers: isWidth, numberError, Signed, and of the document's Fits and Signed. No conditions but that the arguments fit their kinds.
-/
import Derived.Test.YtnmmpllokejelaaRows
import Derived.Test.YtnmmpllokejelaaNums
import Derived.WalkKit
import Derived.WalkSpells
namespace Go.Proofs.Ytnmmpllokejelaa
open Go.RowKit
set_option linter.unusedVariables false

theorem ret_int {k : IntKind} {a b : Int} (h : a = b) : Ending.returned (.int k a) = .returned (.int k b) := by rw [h]
theorem ret_bool {a b : Bool} (h : a = b) : Ending.returned (.bool a) = .returned (.bool b) := by rw [h]

theorem isWidth_any (n : Int) (w : World) :
    Calls Try.prog 30 #[.int .i64 n] w fun e w' => e = .returned (.bool (wOk n)) ∧ w' = w := by
  by_cases h1 : 1 ≤ n
  · by_cases h2 : n ≤ 8
    · have H : Hid (wOk n = true) := wOk_true h1 h2
      go_enter Try.func30, Try.ntmps30
      go_wp2
      go_ret
      exact ⟨ret_bool H.out.symm, rfl⟩
    · have H : Hid (wOk n = false) := wOk_false (by omega)
      go_enter Try.func30, Try.ntmps30
      go_wp2
      go_ret
      exact ⟨ret_bool H.out.symm, rfl⟩
  · have H : Hid (wOk n = false) := wOk_false (by omega)
    go_enter Try.func30, Try.ntmps30
    go_wp2
    go_ret
    exact ⟨ret_bool H.out.symm, rfl⟩

theorem numberError_any (u n : Int) (w : World) (hu0 : 0 ≤ u) (hu1 : u < 18446744073709551616) :
    Calls Try.prog 25 #[.int .u64 u, .int .i64 n] w fun e w' => e = .returned (.int .i64 (numErr u n)) ∧ w' = w := by
  rcases wOk_cases n with ⟨hw, h1, h2⟩ | ⟨hw, h⟩
  · by_cases h0 : u / 2 ^ (8 * n).toNat = 0
    · have hE : Hid (numErr u n = 0) := by simp [numErr, hw, h0, Hid]
      have hb : (u / 2 ^ (8 * n).toNat != 0) = false := by simp [h0]
      clear h0
      go_enter Try.func25, Try.ntmps25
      go_wp2_with (go_at_call 30; refine (isWidth_any _ _).mono ?_; rintro e w' ⟨rfl, rfl⟩)
      go_ret
      exact ⟨ret_int hE.out.symm, rfl⟩
    · have hE : Hid (numErr u n = 3) := by simp [numErr, hw, h0, Hid]
      have hb : (u / 2 ^ (8 * n).toNat != 0) = true := by simp [h0]
      clear h0
      go_enter Try.func25, Try.ntmps25
      go_wp2_with (go_at_call 30; refine (isWidth_any _ _).mono ?_; rintro e w' ⟨rfl, rfl⟩)
      go_ret
      exact ⟨ret_int hE.out.symm, rfl⟩
  · have hE : Hid (numErr u n = 2) := by simp [numErr, hw, Hid]
    go_enter Try.func25, Try.ntmps25
    go_wp2_with (go_at_call 30; refine (isWidth_any _ _).mono ?_; rintro e w' ⟨rfl, rfl⟩)
    go_ret
    exact ⟨ret_int hE.out.symm, rfl⟩

/-- Signed refuses what is no number of the width. -/
theorem signed_no (u n : Int) (w : World) (hu0 : 0 ≤ u) (hu1 : u < 18446744073709551616) (hE : (numErr u n != 0) = true) :
    Calls Try.prog 17 #[.int .u64 u, .int .i64 n] w fun e w' => e = .returned (.tuple #[.int .i64 0, .int .i64 (numErr u n)]) ∧ w' = w := by
  go_enter Try.func17, Try.ntmps17
  go_wp2_with (go_at_call 25; refine (numberError_any _ _ _ hu0 hu1).mono ?_; rintro e w' ⟨rfl, rfl⟩)
  go_ret2
  exact ⟨rfl, rfl⟩

theorem ret_two {k l : IntKind} {a b c d : Int} (h : a = b) (h' : c = d) : Ending.returned (.tuple #[.int k a, .int l c]) = .returned (.tuple #[.int k b, .int l d]) := by rw [h, h']

/-- A number of a width as one with a sign. -/
theorem signed_yes (u n : Int) (w : World) (hu0 : 0 ≤ u) (hu1 : u < 18446744073709551616) (hE : numErr u n = 0) :
    Calls Try.prog 17 #[.int .u64 u, .int .i64 n] w fun e w' => e = .returned (.tuple #[.int .i64 (sgn u n), .int .i64 0]) ∧ w' = w := by
  obtain ⟨h1, h2, h3⟩ := numErr_zero hu0 hE
  have h3' : Hid (u < 2 ^ (8 * n).toNat) := h3
  clear h3
  rcases (show n = 1 ∨ n = 2 ∨ n = 3 ∨ n = 4 ∨ n = 5 ∨ n = 6 ∨ n = 7 ∨ n = 8 by omega) with rfl | rfl | rfl | rfl | rfl | rfl | rfl | rfl
  all_goals
    go_enter Try.func17, Try.ntmps17
    go_wp2_with (go_at_call 25; refine (numberError_any _ _ _ hu0 hu1).mono ?_; rintro e w' ⟨rfl, rfl⟩)
    go_ret2
    refine ⟨ret_two ?_ rfl, rfl⟩
    first | exact sgn_cut u _ _ hu0 (by omega) h3'.out | exact sgn_eight u h3'.out hu0 hu1

/-- The document's test whether a number fits. -/
theorem fits_any (u n : Int) (w : World) (hu0 : 0 ≤ u) (hu1 : u < 18446744073709551616) (h1 : 1 ≤ n) (h2 : n ≤ 8) :
    Calls Try.prog 28 #[.int .u64 u, .int .i64 n] w fun e w' => e = .returned (.bool (numErr u n == 0)) ∧ w' = w := by
  have HE : Hid ((numErr u n == 0) = (qd u n.toNat == 0)) := qd_numErr h1 h2
  obtain ⟨m, rfl⟩ := Int.eq_ofNat_of_zero_le (show 0 ≤ n by omega)
  go_enter Try.func28, Try.ntmps28
  go_wp2
  go_loop [0, 5] (fun v i => ∃ k : Nat, k ≤ m ∧ i = .int .i64 k ∧ v = .int .u64 (qd u k)) (fun _ i => m - (intOf i).toNat)
  case atStart => exact ⟨0, Nat.zero_le _, rfl, by rw [qd_zero]⟩
  case round =>
    obtain ⟨k, hk, rfl, rfl⟩ := hrel
    have b0 := qd_nonneg hu0 k
    have b1 := qd_le hu0 k
    by_cases hlt : k < m
    · go_wp2
      go_round
      case rel => exact ⟨k + 1, by omega, by go_num, by rw [qd_succ]⟩
      case measure => simp [intOf]; omega
    · go_wp2
      go_ret
      exact ⟨ret_bool (by rw [HE.out, Int.toNat_natCast, show k = m by omega]), rfl⟩

theorem refSigned_arg (u n : Int) (w : World) (h : n < 1 ∨ 8 < n) :
    Calls Try.prog 18 #[.int .u64 u, .int .i64 n] w fun e w' => e = .returned (.tuple #[.int .i64 0, .int .i64 2]) ∧ w' = w := by
  rcases h with h | h
  all_goals
    go_enter Try.func18, Try.ntmps18
    go_wp2
    go_ret2
    exact ⟨rfl, rfl⟩

theorem refSigned_big (u n : Int) (w : World) (hu0 : 0 ≤ u) (hu1 : u < 18446744073709551616) (h1 : 1 ≤ n) (h2 : n ≤ 8) (hE : (numErr u n == 0) = false) :
    Calls Try.prog 18 #[.int .u64 u, .int .i64 n] w fun e w' => e = .returned (.tuple #[.int .i64 0, .int .i64 3]) ∧ w' = w := by
  go_enter Try.func18, Try.ntmps18
  go_wp2_with (go_at_call 28; refine (fits_any _ _ _ hu0 hu1 h1 h2).mono ?_; rintro e w' ⟨rfl, rfl⟩)
  go_ret2
  exact ⟨rfl, rfl⟩

theorem refSigned_yes (u n : Int) (w : World) (hu0 : 0 ≤ u) (hu1 : u < 18446744073709551616) (hE : numErr u n = 0) :
    Calls Try.prog 18 #[.int .u64 u, .int .i64 n] w fun e w' => e = .returned (.tuple #[.int .i64 (sgn u n), .int .i64 0]) ∧ w' = w := by
  obtain ⟨h1, h2, h3⟩ := numErr_zero hu0 hE
  have h3' : Hid (u < 2 ^ (8 * n).toNat) := h3
  clear h3
  by_cases h8 : n = 8
  · subst h8
    go_enter Try.func18, Try.ntmps18
    go_wp2_with (go_at_call 28; refine (fits_any _ _ _ hu0 hu1 h1 h2).mono ?_; rintro e w' ⟨rfl, rfl⟩)
    go_ret2
    exact ⟨ret_two (sgn_eight u h3'.out hu0 hu1) rfl, rfl⟩
  · have h8' : (n == 8) = false := by simp [h8]
    clear h8
    have h9 : n ≤ 7 := by simp at h8'; omega
    obtain ⟨m, rfl⟩ := Int.eq_ofNat_of_zero_le (show 0 ≤ n by omega)
    have hu2 := p2_56 m u h3'.out (by omega)
    go_enter Try.func18, Try.ntmps18
    go_wp2_with (go_at_call 28; refine (fits_any _ _ _ hu0 hu1 h1 h2).mono ?_; rintro e w' ⟨rfl, rfl⟩)
    go_loop [6, 7] (fun v i => ∃ k : Nat, 1 ≤ k ∧ k ≤ 8 * m ∧ i = .int .i64 k ∧ v = .int .u64 (p2 (k - 1))) (fun _ i => 8 * m - (intOf i).toNat)
    case atStart => exact ⟨1, by omega, by omega, rfl, by simp [p2]⟩
    case round =>
      obtain ⟨k, hk1, hk, rfl, rfl⟩ := hrel
      have b0 := p2_pos (k - 1)
      have b1 := p2_55 (k - 1) (by omega)
      by_cases hlt : k < 8 * m
      · go_wp2
        go_round
        case rel => exact ⟨k + 1, by omega, by omega, by go_num, by rw [show k + 1 - 1 = (k - 1) + 1 by omega, p2_succ]⟩
        case measure => simp [intOf]; omega
      · by_cases hu : u < p2 (k - 1)
        · go_wp2
          go_ret2
          exact ⟨ret_two (sgn_low u m k (by omega) (by omega) hu) rfl, rfl⟩
        · have b4 : Hid (u - 2 * p2 (k - 1) = sgn u m) := sgn_high u m k (by omega) (by omega) (by omega) h3'.out
          go_wp2
          go_ret2
          exact ⟨ret_two b4.out rfl, rfl⟩
end Go.Proofs.Ytnmmpllokejelaa

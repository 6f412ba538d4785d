/-
  Walks of octet's functions over plain numbers: isWidth, numberError, Signed, and of the document's Fits and Signed. No conditions but that the arguments fit their kinds.
-/
import Derived.Test.YtojcokdfplldbaaRows
import Derived.Test.YtojcokdfplldbaaNums
import Derived.WalkKit
import Derived.WalkSpells
namespace Go.Proofs.Ytojcokdfplldbaa
open Go.RowKit
set_option linter.unusedVariables false

theorem Try.info5 : (Try.prog.info? 5).map (fun i => (i.zero, i.size, i.bytes)) = some (some (.int .u8 0), 1, 1) := by kernel_rfl
theorem Try.size5 : (Try.prog.info? 5).map (·.size) = some 1 := by kernel_rfl
theorem ret_int {k : IntKind} {a b : Int} (h : a = b) : Ending.returned (.int k a) = .returned (.int k b) := by rw [h]
theorem ret_bool {a b : Bool} (h : a = b) : Ending.returned (.bool a) = .returned (.bool b) := by rw [h]

theorem isWidth_any (n : Int) (w : World) :
    Calls Try.prog 82 #[.int .i64 n] w fun e w' => e = .returned (.bool (wOk n)) ∧ w' = w := by
  by_cases h1 : 1 ≤ n
  · by_cases h2 : n ≤ 8
    · have H : Hid (wOk n = true) := wOk_true h1 h2
      go_enter Try.func82, Try.ntmps82
      go_wp2
      go_ret
      exact ⟨ret_bool H.out.symm, rfl⟩
    · have H : Hid (wOk n = false) := wOk_false (by omega)
      go_enter Try.func82, Try.ntmps82
      go_wp2
      go_ret
      exact ⟨ret_bool H.out.symm, rfl⟩
  · have H : Hid (wOk n = false) := wOk_false (by omega)
    go_enter Try.func82, Try.ntmps82
    go_wp2
    go_ret
    exact ⟨ret_bool H.out.symm, rfl⟩

theorem numberError_any (u n : Int) (w : World) (hu0 : 0 ≤ u) (hu1 : u < 18446744073709551616) :
    Calls Try.prog 62 #[.int .u64 u, .int .i64 n] w fun e w' => e = .returned (.int .i64 (numErr u n)) ∧ w' = w := by
  rcases wOk_cases n with ⟨hw, h1, h2⟩ | ⟨hw, h⟩
  · by_cases h0 : u / 2 ^ (8 * n).toNat = 0
    · have hE : Hid (numErr u n = 0) := by simp [numErr, hw, h0, Hid]
      have hb : (u / 2 ^ (8 * n).toNat != 0) = false := by simp [h0]
      clear h0
      go_enter Try.func62, Try.ntmps62
      go_wp2_with (go_at_call 82; refine (isWidth_any _ _).mono ?_; rintro e w' ⟨rfl, rfl⟩)
      go_ret
      exact ⟨ret_int hE.out.symm, rfl⟩
    · have hE : Hid (numErr u n = 3) := by simp [numErr, hw, h0, Hid]
      have hb : (u / 2 ^ (8 * n).toNat != 0) = true := by simp [h0]
      clear h0
      go_enter Try.func62, Try.ntmps62
      go_wp2_with (go_at_call 82; refine (isWidth_any _ _).mono ?_; rintro e w' ⟨rfl, rfl⟩)
      go_ret
      exact ⟨ret_int hE.out.symm, rfl⟩
  · have hE : Hid (numErr u n = 2) := by simp [numErr, hw, Hid]
    go_enter Try.func62, Try.ntmps62
    go_wp2_with (go_at_call 82; refine (isWidth_any _ _).mono ?_; rintro e w' ⟨rfl, rfl⟩)
    go_ret
    exact ⟨ret_int hE.out.symm, rfl⟩

theorem ret_two {k l : IntKind} {a b c d : Int} (h : a = b) (h' : c = d) : Ending.returned (.tuple #[.int k a, .int l c]) = .returned (.tuple #[.int k b, .int l d]) := by rw [h, h']

/-- The document's test whether a number fits. -/
theorem fits_any (u n : Int) (w : World) (hu0 : 0 ≤ u) (hu1 : u < 18446744073709551616) (h1 : 1 ≤ n) (h2 : n ≤ 8) :
    Calls Try.prog 94 #[.int .u64 u, .int .i64 n] w fun e w' => e = .returned (.bool (numErr u n == 0)) ∧ w' = w := by
  have HE : Hid ((numErr u n == 0) = (qd u n.toNat == 0)) := qd_numErr h1 h2
  obtain ⟨m, rfl⟩ := Int.eq_ofNat_of_zero_le (show 0 ≤ n by omega)
  go_enter Try.func94, Try.ntmps94
  go_wp2
  go_loop [0, 5] (fun v i => ∃ k : Nat, k ≤ m ∧ i = .int .i64 k ∧ v = .int .u64 (qd u k)) (fun _ i => m - (intOf i).toNat)
  case atStart => exact ⟨0, Nat.zero_le _, rfl, by rw [qd_zero]⟩
  case round =>
    obtain ⟨k, hk, rfl, rfl⟩ := hrel
    have b0 := qd_nonneg hu0 k
    have b1 := qd_le hu0 k
    by_cases hlt : k < m
    · go_wp2
      go_round
      case rel => exact ⟨k + 1, by omega, by go_num, by rw [qd_succ]⟩
      case measure => simp [intOf]; omega
    · go_wp2
      go_ret
      exact ⟨ret_bool (by rw [HE.out, Int.toNat_natCast, show k = m by omega]), rfl⟩

end Go.Proofs.Ytojcokdfplldbaa

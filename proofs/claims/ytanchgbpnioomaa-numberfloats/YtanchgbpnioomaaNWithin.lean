/-
  The document's within, Clamp and ClampUint walked; the law NumberClamps but for its examples. No conditions but that the arguments fit their kinds.
-/
import Derived.Test.YtanchgbpnioomaaNClamp
namespace Go.Proofs.Ytanchgbpnioomaa
open Go.RowKit
set_option linter.unusedVariables false
set_option maxRecDepth 100000
set_option maxHeartbeats 4000000

/-- A size with its sign, within a range. -/
def wiV (minus : Bool) (size : Int) (great : Bool) (w : Int) (s : Bool) : Int :=
  if minus then (if great then (loW w s) % 2 ^ (8 * w).toNat else clV (-size) w s) else (if great then hiW w s else min size (hiW w s))

theorem mask_wrap (x w : Int) (W : World) (h1 : 1 ≤ w) (h2 : w ≤ 8) :
    Calls Try.prog 43 #[.int .u64 (IntKind.u64.wrap x), .int .i64 w] W fun e w' => e = .returned (.int .u64 (x % 2 ^ (8 * w).toNat)) ∧ w' = W := by
  have e : IntKind.u64.wrap x = x % 18446744073709551616 := by simp [IntKind.wrap, IntKind.bits, IntKind.signed]
  rw [e]
  refine (mask_any _ w W (by omega) (by omega) h1 h2).mono fun e w' ⟨he, hw⟩ => ⟨?_, hw⟩
  rw [he, Int.emod_emod_of_dvd]
  exact ⟨2 ^ (64 - (8 * w).toNat), by rw [← Int.pow_add, show (8 * w).toNat + (64 - (8 * w).toNat) = 64 from by omega]; rfl⟩

theorem within_any (minus : Bool) (size : Int) (great : Bool) (w : Int) (s : Bool) (W : World) (h0 : 0 ≤ size) (hs : size < 18446744073709551616) (hz : minus = true → s = false → great = false → 0 < size) (h1 : 1 ≤ w) (h2 : w ≤ 8) :
    Calls Try.prog 28 #[.bool minus, .int .u64 size, .bool great, .int .i64 w, .bool s] W fun e w' => e = .returned (.int .u64 (wiV minus size great w s)) ∧ w' = W := by
  cases minus
  · rcases wOk_eight h1 h2 with rfl | rfl | rfl | rfl | rfl | rfl | rfl | rfl <;> cases s <;> cases great <;> (
      go_enter Try.func28, Try.ntmps28
      go_wp2_with (first | (go_at_call 33; refine (power_any _ _ (by decide) (by decide)).mono ?_; rintro e w' ⟨rfl, rfl⟩))
      all_goals (go_ret; refine ⟨ret_int ?_, rfl⟩; simp [wiV, hiW]; try omega))
  · cases s
    · have HV : Hid (wiV true size great w false = 0) := by
        show _ = _
        unfold wiV
        cases great
        · exact clV_neg (by have := hz rfl rfl rfl; omega)
        · show loW w false % _ = 0
          exact Int.zero_emod _
      clear hz
      go_enter Try.func28, Try.ntmps28
      go_wp2
      go_ret
      exact ⟨ret_int HV.out.symm, rfl⟩
    · clear hz
      rcases wOk_eight h1 h2 with rfl | rfl | rfl | rfl | rfl | rfl | rfl | rfl <;> cases great <;> (
        go_enter Try.func28, Try.ntmps28
        go_wp2_with (first | (go_at_call 33; refine (power_any _ _ (by decide) (by decide)).mono ?_; rintro e w' ⟨rfl, rfl⟩) | (go_at_call 43; refine (mask_wrap _ _ _ (by decide) (by decide)).mono ?_; rintro e w' ⟨rfl, rfl⟩))
        all_goals (go_ret; refine ⟨ret_int ?_, rfl⟩; simp [wiV, clV, loW, hiW]; try omega))

theorem refClamp_no (n w : Int) (s : Bool) (W : World) (h : w < 1 ∨ 8 < w) :
    Calls Try.prog 11 #[.int .i64 n, .int .i64 w, .bool s] W fun e w' => e = .returned (.tuple #[.int .u64 0, .int .i64 2]) ∧ w' = W := by
  by_cases hw : w < 1
  · go_enter Try.func11, Try.ntmps11
    go_wp2
    go_ret2
    exact ⟨rfl, rfl⟩
  · have h8 : 8 < w := by omega
    go_enter Try.func11, Try.ntmps11
    go_wp2
    go_ret2
    exact ⟨rfl, rfl⟩
theorem refClampUint_no (n w : Int) (s : Bool) (W : World) (h : w < 1 ∨ 8 < w) :
    Calls Try.prog 12 #[.int .u64 n, .int .i64 w, .bool s] W fun e w' => e = .returned (.tuple #[.int .u64 0, .int .i64 2]) ∧ w' = W := by
  by_cases hw : w < 1
  · go_enter Try.func12, Try.ntmps12
    go_wp2
    go_ret2
    exact ⟨rfl, rfl⟩
  · have h8 : 8 < w := by omega
    go_enter Try.func12, Try.ntmps12
    go_wp2
    go_ret2
    exact ⟨rfl, rfl⟩
theorem refClampUint_yes (u w : Int) (s : Bool) (W : World) (hu0 : 0 ≤ u) (hu1 : u < 18446744073709551616) (h1 : 1 ≤ w) (h2 : w ≤ 8) :
    Calls Try.prog 12 #[.int .u64 u, .int .i64 w, .bool s] W fun e w' => e = .returned (.tuple #[.int .u64 (min u (hiW w s)), .int .i64 0]) ∧ w' = W := by
  go_enter Try.func12, Try.ntmps12
  go_wp2_with (first | (go_at_call 28; refine (within_any false _ false _ _ _ hu0 hu1 (by intro h; cases h) h1 h2).mono ?_; rintro e w' ⟨rfl, rfl⟩))
  go_ret2
  exact ⟨rfl, rfl⟩
theorem refClamp_yes (n w : Int) (s : Bool) (W : World) (hn0 : -9223372036854775808 ≤ n) (hn1 : n < 9223372036854775808) (h1 : 1 ≤ w) (h2 : w ≤ 8) :
    Calls Try.prog 11 #[.int .i64 n, .int .i64 w, .bool s] W fun e w' => e = .returned (.tuple #[.int .u64 (clV n w s), .int .i64 0]) ∧ w' = W := by
  by_cases h0 : 0 ≤ n
  · have HV : Hid (wiV false n false w s = clV n w s) := by
      show _ = _
      rw [clV_pos h0 h1 h2]; rfl
    go_enter Try.func11, Try.ntmps11
    go_wp2_with (first | (go_at_call 28; refine (within_any false _ false _ _ _ h0 (by omega) (by intro h; cases h) h1 h2).mono ?_; rintro e w' ⟨rfl, rfl⟩))
    go_ret2
    exact ⟨ret_two HV.out rfl, rfl⟩
  · have HV : Hid (wiV true (-n) false w s = clV n w s) := by
      show _ = _
      unfold wiV; simp
    have hwr : IntKind.u64.wrap n = n + 18446744073709551616 := by simp [IntKind.wrap, IntKind.bits, IntKind.signed]; omega
    have hwr2 : IntKind.u64.wrap (-(n + 18446744073709551616)) = -n := by simp [IntKind.wrap, IntKind.bits, IntKind.signed]; omega
    go_enter Try.func11, Try.ntmps11
    go_wp2_with (first | (go_at_call 28; refine (within_any true (-n) false _ _ _ (by omega) (by omega) (by intros; omega) h1 h2).mono ?_; rintro e w' ⟨rfl, rfl⟩))
    go_ret2
    exact ⟨ret_two HV.out rfl, rfl⟩
end Go.Proofs.Ytanchgbpnioomaa

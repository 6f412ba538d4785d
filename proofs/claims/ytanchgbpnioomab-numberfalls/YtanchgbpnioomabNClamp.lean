/-
  Walks of number's functions over whole numbers: isWidth, most, ClampUint, Clamp, and of the document's power, mask, within, Clamp, ClampUint. No conditions but that the arguments fit their kinds.
-/
import Derived.Test.YtanchgbpnioomabRows
import Derived.WalkKit
import Derived.WalkSpells
import Derived.Laws.BitsAllLaws
namespace Go.Proofs.Ytanchgbpnioomab
open Go.RowKit
set_option linter.unusedVariables false
set_option maxRecDepth 100000
set_option maxHeartbeats 4000000

theorem ret_int {k : IntKind} {a b : Int} (h : a = b) : Ending.returned (.int k a) = .returned (.int k b) := by rw [h]
theorem ret_bool {a b : Bool} (h : a = b) : Ending.returned (.bool a) = .returned (.bool b) := by rw [h]
theorem ret_two {k j : IntKind} {a b c d : Int} (h : a = b) (g : c = d) : Ending.returned (.tuple #[.int k a, .int j c]) = .returned (.tuple #[.int k b, .int j d]) := by rw [h, g]
theorem fn_ends {v : Value} {w1 w2 : World} (h : w1 = w2) : (Ending.returned v = .returned v ∧ w1 = w2) := ⟨rfl, h⟩

/-- 1 to 8: a width. -/
def wOk (n : Int) : Bool := decide (1 ≤ n) && decide (n ≤ 8)
theorem wOk_cases (n : Int) : (wOk n = true ∧ 1 ≤ n ∧ n ≤ 8) ∨ (wOk n = false ∧ (n < 1 ∨ 8 < n)) := by
  by_cases h : 1 ≤ n ∧ n ≤ 8
  · exact .inl ⟨by simp [wOk, h.1, h.2], h⟩
  · refine .inr ⟨?_, by omega⟩
    unfold wOk; simp; omega
theorem wOk_eight {n : Int} (h1 : 1 ≤ n) (h2 : n ≤ 8) : n = 1 ∨ n = 2 ∨ n = 3 ∨ n = 4 ∨ n = 5 ∨ n = 6 ∨ n = 7 ∨ n = 8 := by omega

/-- The range of integers of a width. -/
def hiW (w : Int) (s : Bool) : Int := if s then 2 ^ (8 * w - 1).toNat - 1 else 2 ^ (8 * w).toNat - 1
def loW (w : Int) (s : Bool) : Int := if s then -2 ^ (8 * w - 1).toNat else 0
/-- An integer within the range, told by its lowest bytes. -/
def clV (n w : Int) (s : Bool) : Int := (max (loW w s) (min n (hiW w s))) % 2 ^ (8 * w).toNat

theorem isWidth_any (n : Int) (w : World) :
    Calls Try.prog 24 #[.int .i64 n] w fun e w' => e = .returned (.bool (wOk n)) ∧ w' = w := by
  rcases wOk_cases n with ⟨hw, h1, h2⟩ | ⟨hw, h⟩
  · have H : Hid (wOk n = true) := hw
    clear hw
    go_enter Try.func24, Try.ntmps24
    go_wp2
    go_ret
    exact ⟨ret_bool H.out.symm, rfl⟩
  · have H : Hid (wOk n = false) := hw
    clear hw
    by_cases h1 : 1 ≤ n
    · have h8 : decide (n ≤ 8) = false := by simp; omega
      go_enter Try.func24, Try.ntmps24
      go_wp2
      go_ret
      exact ⟨ret_bool H.out.symm, rfl⟩
    · go_enter Try.func24, Try.ntmps24
      go_wp2
      go_ret
      exact ⟨ret_bool H.out.symm, rfl⟩

theorem most_any (w : Int) (s : Bool) (W : World) (h1 : 1 ≤ w) (h2 : w ≤ 8) :
    Calls Try.prog 31 #[.int .i64 w, .bool s] W fun e w' => e = .returned (.int .u64 (hiW w s)) ∧ w' = W := by
  rcases wOk_eight h1 h2 with rfl | rfl | rfl | rfl | rfl | rfl | rfl | rfl <;> cases s <;> (
    go_enter Try.func31, Try.ntmps31
    go_wp2
    go_ret
    exact ⟨ret_int (by decide), rfl⟩)

theorem clampUint_no (u w : Int) (s : Bool) (W : World) (h : w < 1 ∨ 8 < w) :
    Calls Try.prog 27 #[.int .u64 u, .int .i64 w, .bool s] W fun e w' => e = .returned (.tuple #[.int .u64 0, .int .i64 2]) ∧ w' = W := by
  have hw : wOk w = false := by unfold wOk; simp; omega
  go_enter Try.func27, Try.ntmps27
  go_wp2_with (go_at_call 24; refine (isWidth_any _ _).mono ?_; rintro e w' ⟨rfl, rfl⟩)
  go_ret2
  exact ⟨rfl, rfl⟩
theorem clampUint_yes (u w : Int) (s : Bool) (W : World) (h1 : 1 ≤ w) (h2 : w ≤ 8) :
    Calls Try.prog 27 #[.int .u64 u, .int .i64 w, .bool s] W fun e w' => e = .returned (.tuple #[.int .u64 (min u (hiW w s)), .int .i64 0]) ∧ w' = W := by
  have hw : wOk w = true := by unfold wOk; simp; omega
  go_enter Try.func27, Try.ntmps27
  go_wp2_with (first | (go_at_call 24; refine (isWidth_any _ _).mono ?_; rintro e w' ⟨rfl, rfl⟩) | (go_at_call 31; refine (most_any _ _ _ h1 h2).mono ?_; rintro e w' ⟨rfl, rfl⟩))
  all_goals (go_ret2; exact ⟨ret_two (by omega) rfl, rfl⟩)

theorem and_mask (x : Int) (k : Nat) (h0 : 0 ≤ x) (h1 : x < 18446744073709551616) (hk : k ≤ 64) : bits .and .u64 x (2 ^ k - 1) = x % 2 ^ k := by
  have hp : (0 : Int) < 2 ^ k := Int.pow_pos (by decide)
  have hp2 : (2 : Int) ^ k ≤ 2 ^ 64 := by
    have := Nat.pow_le_pow_right (n := 2) (by decide) hk
    exact_mod_cast this
  have e64 : (2 : Int) ^ 64 = 18446744073709551616 := by decide
  rw [u64_and x _ h0 h1 (by omega) (by omega)]
  obtain ⟨a, rfl⟩ := Int.eq_ofNat_of_zero_le h0
  have e1 : ((2 : Int) ^ k - 1).toNat = 2 ^ k - 1 := by
    have : ((2 : Int) ^ k) = ((2 ^ k : Nat) : Int) := by simp
    rw [this]; omega
  rw [e1, Int.toNat_natCast, Nat.and_two_pow_sub_one_eq_mod]
  simp

theorem and_cl (x w : Int) (h1 : 1 ≤ w) (h2 : w ≤ 8) : bits .and .u64 (IntKind.u64.wrap x) (hiW w false) = x % 2 ^ (8 * w).toNat := by
  have e : IntKind.u64.wrap x = x % 18446744073709551616 := by simp [IntKind.wrap, IntKind.bits, IntKind.signed]
  rw [e]
  show bits .and .u64 (x % 18446744073709551616) (2 ^ (8 * w).toNat - 1) = _
  rw [and_mask _ _ (by omega) (by omega) (by omega), Int.emod_emod_of_dvd]
  exact ⟨2 ^ (64 - (8 * w).toNat), by rw [← Int.pow_add, show (8 * w).toNat + (64 - (8 * w).toNat) = 64 from by omega]; rfl⟩

theorem clamp_no (n w : Int) (s : Bool) (W : World) (h : w < 1 ∨ 8 < w) :
    Calls Try.prog 21 #[.int .i64 n, .int .i64 w, .bool s] W fun e w' => e = .returned (.tuple #[.int .u64 0, .int .i64 2]) ∧ w' = W := by
  have hw : wOk w = false := by unfold wOk; simp; omega
  go_enter Try.func21, Try.ntmps21
  go_wp2_with (go_at_call 24; refine (isWidth_any _ _).mono ?_; rintro e w' ⟨rfl, rfl⟩)
  go_ret2
  exact ⟨rfl, rfl⟩
theorem clV_pos {n w : Int} {s : Bool} (h0 : 0 ≤ n) (h1 : 1 ≤ w) (h2 : w ≤ 8) : clV n w s = min n (hiW w s) := by
  rcases wOk_eight h1 h2 with rfl | rfl | rfl | rfl | rfl | rfl | rfl | rfl <;> cases s <;> simp [clV, hiW, loW] <;> omega
theorem clV_neg {n w : Int} (h0 : n < 0) : clV n w false = 0 := by
  unfold clV hiW loW
  have : (0 : Int) < 2 ^ (8 * w).toNat := Int.pow_pos (by decide)
  simp only [Bool.false_eq_true, if_false]
  rw [show max (0 : Int) (min n (2 ^ (8 * w).toNat - 1)) = 0 from by omega]
  exact Int.zero_emod _
theorem clamp_yes (n w : Int) (s : Bool) (W : World) (hn0 : -9223372036854775808 ≤ n) (hn1 : n < 9223372036854775808) (h1 : 1 ≤ w) (h2 : w ≤ 8) :
    Calls Try.prog 21 #[.int .i64 n, .int .i64 w, .bool s] W fun e w' => e = .returned (.tuple #[.int .u64 (clV n w s), .int .i64 0]) ∧ w' = W := by
  have hw : wOk w = true := by unfold wOk; simp; omega
  by_cases h0 : 0 ≤ n
  · have HV : Hid (clV n w s = min n (hiW w s)) := clV_pos h0 h1 h2
    go_enter Try.func21, Try.ntmps21
    go_wp2_with (first | (go_at_call 24; refine (isWidth_any _ _).mono ?_; rintro e w' ⟨rfl, rfl⟩) | (go_at_call 27; refine (clampUint_yes _ _ _ _ h1 h2).mono ?_; rintro e w' ⟨rfl, rfl⟩))
    go_ret2
    exact ⟨ret_two HV.out.symm rfl, rfl⟩
  · cases s
    · have HV : Hid (clV n w false = 0) := clV_neg (by omega)
      go_enter Try.func21, Try.ntmps21
      go_wp2_with (first | (go_at_call 24; refine (isWidth_any _ _).mono ?_; rintro e w' ⟨rfl, rfl⟩))
      go_ret2
      exact ⟨ret_two HV.out.symm rfl, rfl⟩
    · rcases wOk_eight h1 h2 with rfl | rfl | rfl | rfl | rfl | rfl | rfl | rfl
      all_goals
        go_enter Try.func21, Try.ntmps21
        go_wp2_with (first | (go_at_call 24; refine (isWidth_any _ _).mono ?_; rintro e w' ⟨rfl, rfl⟩) | (go_at_call 31; refine (most_any _ _ _ (by decide) (by decide)).mono ?_; rintro e w' ⟨rfl, rfl⟩))
        all_goals (go_ret2; refine ⟨ret_two ?_ rfl, rfl⟩; rw [and_cl _ _ (by decide) (by decide)]; simp [clV, hiW, loW]; try omega)

end Go.Proofs.Ytanchgbpnioomab

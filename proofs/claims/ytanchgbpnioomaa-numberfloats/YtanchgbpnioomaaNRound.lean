/-
  The document's Round walked. No conditions but that the arguments fit their kinds.
-/
import Derived.Test.YtanchgbpnioomaaNRef
namespace Go.Proofs.Ytanchgbpnioomaa
open Go.RowKit Ieee
set_option linter.unusedVariables false
set_option maxRecDepth 100000
set_option maxHeartbeats 1000000

theorem round8As (minus : Bool) (whole scale q V : Int) (ln : Nat) (W : World) (h0 : ¬ whole = 0) (hs0 : -1074 ≤ scale) (hs1 : scale ≤ 2000) (hln : (ln : Int) ≤ 64) (hA : -1074 ≤ (ln : Int) + scale - 53) (hd : scale < (ln : Int) + scale - 53)
    (HL : Hid (∀ W, Calls Try.prog 35 #[.int .u64 whole] W fun e w' => e = .returned (.int .i64 (ln : Int)) ∧ w' = W))
    (HS : Hid (∀ W, Calls Try.prog 45 #[.int .u64 whole, .int .i64 ((ln : Int) + scale - 53 - scale)] W fun e w' => e = .returned (.int .u64 q) ∧ Below W.heap.size W w')) (hq0 : 0 ≤ q) (hq1 : q ≤ 9007199254740992) (hlow : -1074 < (ln : Int) + scale - 53 → 4503599627370496 ≤ q) (HV : Hid (V = (if minus then 9223372036854775808 else 0) + min (((ln : Int) + scale - 53 - (-1074)) * 4503599627370496 + q) 9218868437227405312)) :
    Calls Try.prog 42 #[.bool minus, .int .u64 whole, .int .i64 scale, .int .i64 8] W fun e w' => e = .returned (.int .u64 V) ∧ Below W.heap.size W w' := by
  have hwb : (whole == 0) = false := by simp [h0]
  cases minus
  · have hV := HV.out
    simp only [Bool.false_eq_true, if_false] at hV
    by_cases e1 : q = 9007199254740992
    · by_cases e3 : (ln : Int) + scale - 53 + 1 - (-1074) + 1 < 2047
      · have HW : Hid (V = 0 + ((ln : Int) + scale - 53 + 1 - (-1074) + 1) * 4503599627370496) := by show _ = _; omega
        clear hV hlow hq0 hq1 HV
        subst e1
        go_enter Try.func42, Try.ntmps42
        go_wp2_with (first | (go_at_call 33; refine (power_any _ _ (by omega) (by omega)).mono ?_; rintro e w' ⟨rfl, rfl⟩) | (go_at_call 35; refine Calls.mono (HL.out _) ?_; rintro e w' ⟨rfl, rfl⟩) | (go_at_call 45; refine Calls.mono (HS.out _) ?_; rintro e w' ⟨rfl, hb⟩))
        all_goals (go_ret; first | exact ⟨ret_int (by have := HW.out; omega), Below.refl _ _⟩ | exact ⟨ret_int (by have := HW.out; omega), by assumption⟩)
      · have HW : Hid (V = 0 + 9218868437227405312) := by show _ = _; omega
        clear hV hlow hq0 hq1 HV
        subst e1
        go_enter Try.func42, Try.ntmps42
        go_wp2_with (first | (go_at_call 33; refine (power_any _ _ (by omega) (by omega)).mono ?_; rintro e w' ⟨rfl, rfl⟩) | (go_at_call 35; refine Calls.mono (HL.out _) ?_; rintro e w' ⟨rfl, rfl⟩) | (go_at_call 45; refine Calls.mono (HS.out _) ?_; rintro e w' ⟨rfl, hb⟩))
        all_goals (go_ret; first | exact ⟨ret_int (by have := HW.out; omega), Below.refl _ _⟩ | exact ⟨ret_int (by have := HW.out; omega), by assumption⟩)
    · by_cases e2 : q < 4503599627370496
      · have HW : Hid (V = 0 + q) := by show _ = _; omega
        clear hV hlow hq1 HV
        go_enter Try.func42, Try.ntmps42
        go_wp2_with (first | (go_at_call 33; refine (power_any _ _ (by omega) (by omega)).mono ?_; rintro e w' ⟨rfl, rfl⟩) | (go_at_call 35; refine Calls.mono (HL.out _) ?_; rintro e w' ⟨rfl, rfl⟩) | (go_at_call 45; refine Calls.mono (HS.out _) ?_; rintro e w' ⟨rfl, hb⟩))
        all_goals (go_ret; first | exact ⟨ret_int (by have := HW.out; omega), Below.refl _ _⟩ | exact ⟨ret_int (by have := HW.out; omega), by assumption⟩)
      · by_cases e3 : (ln : Int) + scale - 53 - (-1074) + 1 < 2047
        · have HW : Hid (V = 0 + ((ln : Int) + scale - 53 - (-1074) + 1) * 4503599627370496 + q - 4503599627370496) := by show _ = _; omega
          clear hV hlow HV
          go_enter Try.func42, Try.ntmps42
          go_wp2_with (first | (go_at_call 33; refine (power_any _ _ (by omega) (by omega)).mono ?_; rintro e w' ⟨rfl, rfl⟩) | (go_at_call 35; refine Calls.mono (HL.out _) ?_; rintro e w' ⟨rfl, rfl⟩) | (go_at_call 45; refine Calls.mono (HS.out _) ?_; rintro e w' ⟨rfl, hb⟩))
          all_goals (go_ret; first | exact ⟨ret_int (by have := HW.out; omega), Below.refl _ _⟩ | exact ⟨ret_int (by have := HW.out; omega), by assumption⟩)
        · have HW : Hid (V = 0 + 9218868437227405312) := by show _ = _; omega
          clear hV hlow HV
          go_enter Try.func42, Try.ntmps42
          go_wp2_with (first | (go_at_call 33; refine (power_any _ _ (by omega) (by omega)).mono ?_; rintro e w' ⟨rfl, rfl⟩) | (go_at_call 35; refine Calls.mono (HL.out _) ?_; rintro e w' ⟨rfl, rfl⟩) | (go_at_call 45; refine Calls.mono (HS.out _) ?_; rintro e w' ⟨rfl, hb⟩))
          all_goals (go_ret; first | exact ⟨ret_int (by have := HW.out; omega), Below.refl _ _⟩ | exact ⟨ret_int (by have := HW.out; omega), by assumption⟩)
  · have hV := HV.out
    simp only [if_true] at hV
    by_cases e1 : q = 9007199254740992
    · by_cases e3 : (ln : Int) + scale - 53 + 1 - (-1074) + 1 < 2047
      · have HW : Hid (V = 9223372036854775808 + ((ln : Int) + scale - 53 + 1 - (-1074) + 1) * 4503599627370496) := by show _ = _; omega
        clear hV hlow hq0 hq1 HV
        subst e1
        go_enter Try.func42, Try.ntmps42
        go_wp2_with (first | (go_at_call 33; refine (power_any _ _ (by omega) (by omega)).mono ?_; rintro e w' ⟨rfl, rfl⟩) | (go_at_call 35; refine Calls.mono (HL.out _) ?_; rintro e w' ⟨rfl, rfl⟩) | (go_at_call 45; refine Calls.mono (HS.out _) ?_; rintro e w' ⟨rfl, hb⟩))
        all_goals (go_ret; first | exact ⟨ret_int (by have := HW.out; omega), Below.refl _ _⟩ | exact ⟨ret_int (by have := HW.out; omega), by assumption⟩)
      · have HW : Hid (V = 9223372036854775808 + 9218868437227405312) := by show _ = _; omega
        clear hV hlow hq0 hq1 HV
        subst e1
        go_enter Try.func42, Try.ntmps42
        go_wp2_with (first | (go_at_call 33; refine (power_any _ _ (by omega) (by omega)).mono ?_; rintro e w' ⟨rfl, rfl⟩) | (go_at_call 35; refine Calls.mono (HL.out _) ?_; rintro e w' ⟨rfl, rfl⟩) | (go_at_call 45; refine Calls.mono (HS.out _) ?_; rintro e w' ⟨rfl, hb⟩))
        all_goals (go_ret; first | exact ⟨ret_int (by have := HW.out; omega), Below.refl _ _⟩ | exact ⟨ret_int (by have := HW.out; omega), by assumption⟩)
    · by_cases e2 : q < 4503599627370496
      · have HW : Hid (V = 9223372036854775808 + q) := by show _ = _; omega
        clear hV hlow hq1 HV
        go_enter Try.func42, Try.ntmps42
        go_wp2_with (first | (go_at_call 33; refine (power_any _ _ (by omega) (by omega)).mono ?_; rintro e w' ⟨rfl, rfl⟩) | (go_at_call 35; refine Calls.mono (HL.out _) ?_; rintro e w' ⟨rfl, rfl⟩) | (go_at_call 45; refine Calls.mono (HS.out _) ?_; rintro e w' ⟨rfl, hb⟩))
        all_goals (go_ret; first | exact ⟨ret_int (by have := HW.out; omega), Below.refl _ _⟩ | exact ⟨ret_int (by have := HW.out; omega), by assumption⟩)
      · by_cases e3 : (ln : Int) + scale - 53 - (-1074) + 1 < 2047
        · have HW : Hid (V = 9223372036854775808 + ((ln : Int) + scale - 53 - (-1074) + 1) * 4503599627370496 + q - 4503599627370496) := by show _ = _; omega
          clear hV hlow HV
          go_enter Try.func42, Try.ntmps42
          go_wp2_with (first | (go_at_call 33; refine (power_any _ _ (by omega) (by omega)).mono ?_; rintro e w' ⟨rfl, rfl⟩) | (go_at_call 35; refine Calls.mono (HL.out _) ?_; rintro e w' ⟨rfl, rfl⟩) | (go_at_call 45; refine Calls.mono (HS.out _) ?_; rintro e w' ⟨rfl, hb⟩))
          all_goals (go_ret; first | exact ⟨ret_int (by have := HW.out; omega), Below.refl _ _⟩ | exact ⟨ret_int (by have := HW.out; omega), by assumption⟩)
        · have HW : Hid (V = 9223372036854775808 + 9218868437227405312) := by show _ = _; omega
          clear hV hlow HV
          go_enter Try.func42, Try.ntmps42
          go_wp2_with (first | (go_at_call 33; refine (power_any _ _ (by omega) (by omega)).mono ?_; rintro e w' ⟨rfl, rfl⟩) | (go_at_call 35; refine Calls.mono (HL.out _) ?_; rintro e w' ⟨rfl, rfl⟩) | (go_at_call 45; refine Calls.mono (HS.out _) ?_; rintro e w' ⟨rfl, hb⟩))
          all_goals (go_ret; first | exact ⟨ret_int (by have := HW.out; omega), Below.refl _ _⟩ | exact ⟨ret_int (by have := HW.out; omega), by assumption⟩)
theorem round8Am (minus : Bool) (whole scale q V : Int) (ln : Nat) (W : World) (h0 : ¬ whole = 0) (hs0 : -1074 ≤ scale) (hs1 : scale ≤ 2000) (hln : (ln : Int) ≤ 64) (hA : -1074 ≤ (ln : Int) + scale - 53) (hd : (ln : Int) + scale - 53 ≤ scale)
    (HL : Hid (∀ W, Calls Try.prog 35 #[.int .u64 whole] W fun e w' => e = .returned (.int .i64 (ln : Int)) ∧ w' = W))
    (p : Int) (hp : (2 : Int) ^ (scale - ((ln : Int) + scale - 53)).toNat = p) (hpl : scale - ((ln : Int) + scale - 53) ≤ 63) (hq : whole * p = q) (hq0 : 0 ≤ q) (hq1 : q ≤ 9007199254740992) (hlow : -1074 < (ln : Int) + scale - 53 → 4503599627370496 ≤ q) (HV : Hid (V = (if minus then 9223372036854775808 else 0) + min (((ln : Int) + scale - 53 - (-1074)) * 4503599627370496 + q) 9218868437227405312)) :
    Calls Try.prog 42 #[.bool minus, .int .u64 whole, .int .i64 scale, .int .i64 8] W fun e w' => e = .returned (.int .u64 V) ∧ Below W.heap.size W w' := by
  have hwb : (whole == 0) = false := by simp [h0]
  cases minus
  · have hV := HV.out
    simp only [Bool.false_eq_true, if_false] at hV
    by_cases e1 : q = 9007199254740992
    · by_cases e3 : (ln : Int) + scale - 53 + 1 - (-1074) + 1 < 2047
      · have HW : Hid (V = 0 + ((ln : Int) + scale - 53 + 1 - (-1074) + 1) * 4503599627370496) := by show _ = _; omega
        clear hV hlow hq0 hq1 HV
        subst e1
        go_enter Try.func42, Try.ntmps42
        go_wp2_with (first | (go_at_call 33; refine (power_any _ _ (by omega) (by omega)).mono ?_; rintro e w' ⟨rfl, rfl⟩) | (go_at_call 35; refine Calls.mono (HL.out _) ?_; rintro e w' ⟨rfl, rfl⟩))
        all_goals (go_ret; first | exact ⟨ret_int (by have := HW.out; omega), Below.refl _ _⟩ | exact ⟨ret_int (by have := HW.out; omega), by assumption⟩)
      · have HW : Hid (V = 0 + 9218868437227405312) := by show _ = _; omega
        clear hV hlow hq0 hq1 HV
        subst e1
        go_enter Try.func42, Try.ntmps42
        go_wp2_with (first | (go_at_call 33; refine (power_any _ _ (by omega) (by omega)).mono ?_; rintro e w' ⟨rfl, rfl⟩) | (go_at_call 35; refine Calls.mono (HL.out _) ?_; rintro e w' ⟨rfl, rfl⟩))
        all_goals (go_ret; first | exact ⟨ret_int (by have := HW.out; omega), Below.refl _ _⟩ | exact ⟨ret_int (by have := HW.out; omega), by assumption⟩)
    · by_cases e2 : q < 4503599627370496
      · have HW : Hid (V = 0 + q) := by show _ = _; omega
        clear hV hlow hq1 HV
        go_enter Try.func42, Try.ntmps42
        go_wp2_with (first | (go_at_call 33; refine (power_any _ _ (by omega) (by omega)).mono ?_; rintro e w' ⟨rfl, rfl⟩) | (go_at_call 35; refine Calls.mono (HL.out _) ?_; rintro e w' ⟨rfl, rfl⟩))
        all_goals (go_ret; first | exact ⟨ret_int (by have := HW.out; omega), Below.refl _ _⟩ | exact ⟨ret_int (by have := HW.out; omega), by assumption⟩)
      · by_cases e3 : (ln : Int) + scale - 53 - (-1074) + 1 < 2047
        · have HW : Hid (V = 0 + ((ln : Int) + scale - 53 - (-1074) + 1) * 4503599627370496 + q - 4503599627370496) := by show _ = _; omega
          clear hV hlow HV
          go_enter Try.func42, Try.ntmps42
          go_wp2_with (first | (go_at_call 33; refine (power_any _ _ (by omega) (by omega)).mono ?_; rintro e w' ⟨rfl, rfl⟩) | (go_at_call 35; refine Calls.mono (HL.out _) ?_; rintro e w' ⟨rfl, rfl⟩))
          all_goals (go_ret; first | exact ⟨ret_int (by have := HW.out; omega), Below.refl _ _⟩ | exact ⟨ret_int (by have := HW.out; omega), by assumption⟩)
        · have HW : Hid (V = 0 + 9218868437227405312) := by show _ = _; omega
          clear hV hlow HV
          go_enter Try.func42, Try.ntmps42
          go_wp2_with (first | (go_at_call 33; refine (power_any _ _ (by omega) (by omega)).mono ?_; rintro e w' ⟨rfl, rfl⟩) | (go_at_call 35; refine Calls.mono (HL.out _) ?_; rintro e w' ⟨rfl, rfl⟩))
          all_goals (go_ret; first | exact ⟨ret_int (by have := HW.out; omega), Below.refl _ _⟩ | exact ⟨ret_int (by have := HW.out; omega), by assumption⟩)
  · have hV := HV.out
    simp only [if_true] at hV
    by_cases e1 : q = 9007199254740992
    · by_cases e3 : (ln : Int) + scale - 53 + 1 - (-1074) + 1 < 2047
      · have HW : Hid (V = 9223372036854775808 + ((ln : Int) + scale - 53 + 1 - (-1074) + 1) * 4503599627370496) := by show _ = _; omega
        clear hV hlow hq0 hq1 HV
        subst e1
        go_enter Try.func42, Try.ntmps42
        go_wp2_with (first | (go_at_call 33; refine (power_any _ _ (by omega) (by omega)).mono ?_; rintro e w' ⟨rfl, rfl⟩) | (go_at_call 35; refine Calls.mono (HL.out _) ?_; rintro e w' ⟨rfl, rfl⟩))
        all_goals (go_ret; first | exact ⟨ret_int (by have := HW.out; omega), Below.refl _ _⟩ | exact ⟨ret_int (by have := HW.out; omega), by assumption⟩)
      · have HW : Hid (V = 9223372036854775808 + 9218868437227405312) := by show _ = _; omega
        clear hV hlow hq0 hq1 HV
        subst e1
        go_enter Try.func42, Try.ntmps42
        go_wp2_with (first | (go_at_call 33; refine (power_any _ _ (by omega) (by omega)).mono ?_; rintro e w' ⟨rfl, rfl⟩) | (go_at_call 35; refine Calls.mono (HL.out _) ?_; rintro e w' ⟨rfl, rfl⟩))
        all_goals (go_ret; first | exact ⟨ret_int (by have := HW.out; omega), Below.refl _ _⟩ | exact ⟨ret_int (by have := HW.out; omega), by assumption⟩)
    · by_cases e2 : q < 4503599627370496
      · have HW : Hid (V = 9223372036854775808 + q) := by show _ = _; omega
        clear hV hlow hq1 HV
        go_enter Try.func42, Try.ntmps42
        go_wp2_with (first | (go_at_call 33; refine (power_any _ _ (by omega) (by omega)).mono ?_; rintro e w' ⟨rfl, rfl⟩) | (go_at_call 35; refine Calls.mono (HL.out _) ?_; rintro e w' ⟨rfl, rfl⟩))
        all_goals (go_ret; first | exact ⟨ret_int (by have := HW.out; omega), Below.refl _ _⟩ | exact ⟨ret_int (by have := HW.out; omega), by assumption⟩)
      · by_cases e3 : (ln : Int) + scale - 53 - (-1074) + 1 < 2047
        · have HW : Hid (V = 9223372036854775808 + ((ln : Int) + scale - 53 - (-1074) + 1) * 4503599627370496 + q - 4503599627370496) := by show _ = _; omega
          clear hV hlow HV
          go_enter Try.func42, Try.ntmps42
          go_wp2_with (first | (go_at_call 33; refine (power_any _ _ (by omega) (by omega)).mono ?_; rintro e w' ⟨rfl, rfl⟩) | (go_at_call 35; refine Calls.mono (HL.out _) ?_; rintro e w' ⟨rfl, rfl⟩))
          all_goals (go_ret; first | exact ⟨ret_int (by have := HW.out; omega), Below.refl _ _⟩ | exact ⟨ret_int (by have := HW.out; omega), by assumption⟩)
        · have HW : Hid (V = 9223372036854775808 + 9218868437227405312) := by show _ = _; omega
          clear hV hlow HV
          go_enter Try.func42, Try.ntmps42
          go_wp2_with (first | (go_at_call 33; refine (power_any _ _ (by omega) (by omega)).mono ?_; rintro e w' ⟨rfl, rfl⟩) | (go_at_call 35; refine Calls.mono (HL.out _) ?_; rintro e w' ⟨rfl, rfl⟩))
          all_goals (go_ret; first | exact ⟨ret_int (by have := HW.out; omega), Below.refl _ _⟩ | exact ⟨ret_int (by have := HW.out; omega), by assumption⟩)
theorem round8Bm (minus : Bool) (whole scale q V : Int) (ln : Nat) (W : World) (h0 : ¬ whole = 0) (hs0 : -1074 ≤ scale) (hs1 : scale ≤ 2000) (hln : (ln : Int) ≤ 64) (hA : (ln : Int) + scale - 53 < -1074) (hd : -1074 ≤ scale)
    (HL : Hid (∀ W, Calls Try.prog 35 #[.int .u64 whole] W fun e w' => e = .returned (.int .i64 (ln : Int)) ∧ w' = W))
    (p : Int) (hp : (2 : Int) ^ (scale + 1074).toNat = p) (hpl : scale + 1074 ≤ 63) (hq : whole * p = q) (hq0 : 0 ≤ q) (hq1 : q ≤ 9007199254740992) (hlow : -1074 < -1074 → 4503599627370496 ≤ q) (HV : Hid (V = (if minus then 9223372036854775808 else 0) + min ((-1074 - (-1074)) * 4503599627370496 + q) 9218868437227405312)) :
    Calls Try.prog 42 #[.bool minus, .int .u64 whole, .int .i64 scale, .int .i64 8] W fun e w' => e = .returned (.int .u64 V) ∧ Below W.heap.size W w' := by
  have hwb : (whole == 0) = false := by simp [h0]
  cases minus
  · have hV := HV.out
    simp only [Bool.false_eq_true, if_false] at hV
    by_cases e1 : q = 9007199254740992
    · by_cases e3 : -1074 + 1 - (-1074) + 1 < 2047
      · have HW : Hid (V = 0 + (-1074 + 1 - (-1074) + 1) * 4503599627370496) := by show _ = _; omega
        clear hV hlow hq0 hq1 HV
        subst e1
        go_enter Try.func42, Try.ntmps42
        go_wp2_with (first | (go_at_call 33; refine (power_any _ _ (by omega) (by omega)).mono ?_; rintro e w' ⟨rfl, rfl⟩) | (go_at_call 35; refine Calls.mono (HL.out _) ?_; rintro e w' ⟨rfl, rfl⟩))
        all_goals (go_ret; first | exact ⟨ret_int (by have := HW.out; omega), Below.refl _ _⟩ | exact ⟨ret_int (by have := HW.out; omega), by assumption⟩)
      · have HW : Hid (V = 0 + 9218868437227405312) := by show _ = _; omega
        clear hV hlow hq0 hq1 HV
        subst e1
        go_enter Try.func42, Try.ntmps42
        go_wp2_with (first | (go_at_call 33; refine (power_any _ _ (by omega) (by omega)).mono ?_; rintro e w' ⟨rfl, rfl⟩) | (go_at_call 35; refine Calls.mono (HL.out _) ?_; rintro e w' ⟨rfl, rfl⟩))
        all_goals (go_ret; first | exact ⟨ret_int (by have := HW.out; omega), Below.refl _ _⟩ | exact ⟨ret_int (by have := HW.out; omega), by assumption⟩)
    · by_cases e2 : q < 4503599627370496
      · have HW : Hid (V = 0 + q) := by show _ = _; omega
        clear hV hlow hq1 HV
        go_enter Try.func42, Try.ntmps42
        go_wp2_with (first | (go_at_call 33; refine (power_any _ _ (by omega) (by omega)).mono ?_; rintro e w' ⟨rfl, rfl⟩) | (go_at_call 35; refine Calls.mono (HL.out _) ?_; rintro e w' ⟨rfl, rfl⟩))
        all_goals (go_ret; first | exact ⟨ret_int (by have := HW.out; omega), Below.refl _ _⟩ | exact ⟨ret_int (by have := HW.out; omega), by assumption⟩)
      · by_cases e3 : -1074 - (-1074) + 1 < 2047
        · have HW : Hid (V = 0 + (-1074 - (-1074) + 1) * 4503599627370496 + q - 4503599627370496) := by show _ = _; omega
          clear hV hlow HV
          go_enter Try.func42, Try.ntmps42
          go_wp2_with (first | (go_at_call 33; refine (power_any _ _ (by omega) (by omega)).mono ?_; rintro e w' ⟨rfl, rfl⟩) | (go_at_call 35; refine Calls.mono (HL.out _) ?_; rintro e w' ⟨rfl, rfl⟩))
          all_goals (go_ret; first | exact ⟨ret_int (by have := HW.out; omega), Below.refl _ _⟩ | exact ⟨ret_int (by have := HW.out; omega), by assumption⟩)
        · have HW : Hid (V = 0 + 9218868437227405312) := by show _ = _; omega
          clear hV hlow HV
          go_enter Try.func42, Try.ntmps42
          go_wp2_with (first | (go_at_call 33; refine (power_any _ _ (by omega) (by omega)).mono ?_; rintro e w' ⟨rfl, rfl⟩) | (go_at_call 35; refine Calls.mono (HL.out _) ?_; rintro e w' ⟨rfl, rfl⟩))
          all_goals (go_ret; first | exact ⟨ret_int (by have := HW.out; omega), Below.refl _ _⟩ | exact ⟨ret_int (by have := HW.out; omega), by assumption⟩)
  · have hV := HV.out
    simp only [if_true] at hV
    by_cases e1 : q = 9007199254740992
    · by_cases e3 : -1074 + 1 - (-1074) + 1 < 2047
      · have HW : Hid (V = 9223372036854775808 + (-1074 + 1 - (-1074) + 1) * 4503599627370496) := by show _ = _; omega
        clear hV hlow hq0 hq1 HV
        subst e1
        go_enter Try.func42, Try.ntmps42
        go_wp2_with (first | (go_at_call 33; refine (power_any _ _ (by omega) (by omega)).mono ?_; rintro e w' ⟨rfl, rfl⟩) | (go_at_call 35; refine Calls.mono (HL.out _) ?_; rintro e w' ⟨rfl, rfl⟩))
        all_goals (go_ret; first | exact ⟨ret_int (by have := HW.out; omega), Below.refl _ _⟩ | exact ⟨ret_int (by have := HW.out; omega), by assumption⟩)
      · have HW : Hid (V = 9223372036854775808 + 9218868437227405312) := by show _ = _; omega
        clear hV hlow hq0 hq1 HV
        subst e1
        go_enter Try.func42, Try.ntmps42
        go_wp2_with (first | (go_at_call 33; refine (power_any _ _ (by omega) (by omega)).mono ?_; rintro e w' ⟨rfl, rfl⟩) | (go_at_call 35; refine Calls.mono (HL.out _) ?_; rintro e w' ⟨rfl, rfl⟩))
        all_goals (go_ret; first | exact ⟨ret_int (by have := HW.out; omega), Below.refl _ _⟩ | exact ⟨ret_int (by have := HW.out; omega), by assumption⟩)
    · by_cases e2 : q < 4503599627370496
      · have HW : Hid (V = 9223372036854775808 + q) := by show _ = _; omega
        clear hV hlow hq1 HV
        go_enter Try.func42, Try.ntmps42
        go_wp2_with (first | (go_at_call 33; refine (power_any _ _ (by omega) (by omega)).mono ?_; rintro e w' ⟨rfl, rfl⟩) | (go_at_call 35; refine Calls.mono (HL.out _) ?_; rintro e w' ⟨rfl, rfl⟩))
        all_goals (go_ret; first | exact ⟨ret_int (by have := HW.out; omega), Below.refl _ _⟩ | exact ⟨ret_int (by have := HW.out; omega), by assumption⟩)
      · by_cases e3 : -1074 - (-1074) + 1 < 2047
        · have HW : Hid (V = 9223372036854775808 + (-1074 - (-1074) + 1) * 4503599627370496 + q - 4503599627370496) := by show _ = _; omega
          clear hV hlow HV
          go_enter Try.func42, Try.ntmps42
          go_wp2_with (first | (go_at_call 33; refine (power_any _ _ (by omega) (by omega)).mono ?_; rintro e w' ⟨rfl, rfl⟩) | (go_at_call 35; refine Calls.mono (HL.out _) ?_; rintro e w' ⟨rfl, rfl⟩))
          all_goals (go_ret; first | exact ⟨ret_int (by have := HW.out; omega), Below.refl _ _⟩ | exact ⟨ret_int (by have := HW.out; omega), by assumption⟩)
        · have HW : Hid (V = 9223372036854775808 + 9218868437227405312) := by show _ = _; omega
          clear hV hlow HV
          go_enter Try.func42, Try.ntmps42
          go_wp2_with (first | (go_at_call 33; refine (power_any _ _ (by omega) (by omega)).mono ?_; rintro e w' ⟨rfl, rfl⟩) | (go_at_call 35; refine Calls.mono (HL.out _) ?_; rintro e w' ⟨rfl, rfl⟩))
          all_goals (go_ret; first | exact ⟨ret_int (by have := HW.out; omega), Below.refl _ _⟩ | exact ⟨ret_int (by have := HW.out; omega), by assumption⟩)
theorem round4As (minus : Bool) (whole scale q V : Int) (ln : Nat) (W : World) (h0 : ¬ whole = 0) (hs0 : -1074 ≤ scale) (hs1 : scale ≤ 2000) (hln : (ln : Int) ≤ 64) (hA : -149 ≤ (ln : Int) + scale - 24) (hd : scale < (ln : Int) + scale - 24)
    (HL : Hid (∀ W, Calls Try.prog 35 #[.int .u64 whole] W fun e w' => e = .returned (.int .i64 (ln : Int)) ∧ w' = W))
    (HS : Hid (∀ W, Calls Try.prog 45 #[.int .u64 whole, .int .i64 ((ln : Int) + scale - 24 - scale)] W fun e w' => e = .returned (.int .u64 q) ∧ Below W.heap.size W w')) (hq0 : 0 ≤ q) (hq1 : q ≤ 16777216) (hlow : -149 < (ln : Int) + scale - 24 → 8388608 ≤ q) (HV : Hid (V = (if minus then 2147483648 else 0) + min (((ln : Int) + scale - 24 - (-149)) * 8388608 + q) 2139095040)) :
    Calls Try.prog 42 #[.bool minus, .int .u64 whole, .int .i64 scale, .int .i64 4] W fun e w' => e = .returned (.int .u64 V) ∧ Below W.heap.size W w' := by
  have hwb : (whole == 0) = false := by simp [h0]
  cases minus
  · have hV := HV.out
    simp only [Bool.false_eq_true, if_false] at hV
    by_cases e1 : q = 16777216
    · by_cases e3 : (ln : Int) + scale - 24 + 1 - (-149) + 1 < 255
      · have HW : Hid (V = 0 + ((ln : Int) + scale - 24 + 1 - (-149) + 1) * 8388608) := by show _ = _; omega
        clear hV hlow hq0 hq1 HV
        subst e1
        go_enter Try.func42, Try.ntmps42
        go_wp2_with (first | (go_at_call 33; refine (power_any _ _ (by omega) (by omega)).mono ?_; rintro e w' ⟨rfl, rfl⟩) | (go_at_call 35; refine Calls.mono (HL.out _) ?_; rintro e w' ⟨rfl, rfl⟩) | (go_at_call 45; refine Calls.mono (HS.out _) ?_; rintro e w' ⟨rfl, hb⟩))
        all_goals (go_ret; first | exact ⟨ret_int (by have := HW.out; omega), Below.refl _ _⟩ | exact ⟨ret_int (by have := HW.out; omega), by assumption⟩)
      · have HW : Hid (V = 0 + 2139095040) := by show _ = _; omega
        clear hV hlow hq0 hq1 HV
        subst e1
        go_enter Try.func42, Try.ntmps42
        go_wp2_with (first | (go_at_call 33; refine (power_any _ _ (by omega) (by omega)).mono ?_; rintro e w' ⟨rfl, rfl⟩) | (go_at_call 35; refine Calls.mono (HL.out _) ?_; rintro e w' ⟨rfl, rfl⟩) | (go_at_call 45; refine Calls.mono (HS.out _) ?_; rintro e w' ⟨rfl, hb⟩))
        all_goals (go_ret; first | exact ⟨ret_int (by have := HW.out; omega), Below.refl _ _⟩ | exact ⟨ret_int (by have := HW.out; omega), by assumption⟩)
    · by_cases e2 : q < 8388608
      · have HW : Hid (V = 0 + q) := by show _ = _; omega
        clear hV hlow hq1 HV
        go_enter Try.func42, Try.ntmps42
        go_wp2_with (first | (go_at_call 33; refine (power_any _ _ (by omega) (by omega)).mono ?_; rintro e w' ⟨rfl, rfl⟩) | (go_at_call 35; refine Calls.mono (HL.out _) ?_; rintro e w' ⟨rfl, rfl⟩) | (go_at_call 45; refine Calls.mono (HS.out _) ?_; rintro e w' ⟨rfl, hb⟩))
        all_goals (go_ret; first | exact ⟨ret_int (by have := HW.out; omega), Below.refl _ _⟩ | exact ⟨ret_int (by have := HW.out; omega), by assumption⟩)
      · by_cases e3 : (ln : Int) + scale - 24 - (-149) + 1 < 255
        · have HW : Hid (V = 0 + ((ln : Int) + scale - 24 - (-149) + 1) * 8388608 + q - 8388608) := by show _ = _; omega
          clear hV hlow HV
          go_enter Try.func42, Try.ntmps42
          go_wp2_with (first | (go_at_call 33; refine (power_any _ _ (by omega) (by omega)).mono ?_; rintro e w' ⟨rfl, rfl⟩) | (go_at_call 35; refine Calls.mono (HL.out _) ?_; rintro e w' ⟨rfl, rfl⟩) | (go_at_call 45; refine Calls.mono (HS.out _) ?_; rintro e w' ⟨rfl, hb⟩))
          all_goals (go_ret; first | exact ⟨ret_int (by have := HW.out; omega), Below.refl _ _⟩ | exact ⟨ret_int (by have := HW.out; omega), by assumption⟩)
        · have HW : Hid (V = 0 + 2139095040) := by show _ = _; omega
          clear hV hlow HV
          go_enter Try.func42, Try.ntmps42
          go_wp2_with (first | (go_at_call 33; refine (power_any _ _ (by omega) (by omega)).mono ?_; rintro e w' ⟨rfl, rfl⟩) | (go_at_call 35; refine Calls.mono (HL.out _) ?_; rintro e w' ⟨rfl, rfl⟩) | (go_at_call 45; refine Calls.mono (HS.out _) ?_; rintro e w' ⟨rfl, hb⟩))
          all_goals (go_ret; first | exact ⟨ret_int (by have := HW.out; omega), Below.refl _ _⟩ | exact ⟨ret_int (by have := HW.out; omega), by assumption⟩)
  · have hV := HV.out
    simp only [if_true] at hV
    by_cases e1 : q = 16777216
    · by_cases e3 : (ln : Int) + scale - 24 + 1 - (-149) + 1 < 255
      · have HW : Hid (V = 2147483648 + ((ln : Int) + scale - 24 + 1 - (-149) + 1) * 8388608) := by show _ = _; omega
        clear hV hlow hq0 hq1 HV
        subst e1
        go_enter Try.func42, Try.ntmps42
        go_wp2_with (first | (go_at_call 33; refine (power_any _ _ (by omega) (by omega)).mono ?_; rintro e w' ⟨rfl, rfl⟩) | (go_at_call 35; refine Calls.mono (HL.out _) ?_; rintro e w' ⟨rfl, rfl⟩) | (go_at_call 45; refine Calls.mono (HS.out _) ?_; rintro e w' ⟨rfl, hb⟩))
        all_goals (go_ret; first | exact ⟨ret_int (by have := HW.out; omega), Below.refl _ _⟩ | exact ⟨ret_int (by have := HW.out; omega), by assumption⟩)
      · have HW : Hid (V = 2147483648 + 2139095040) := by show _ = _; omega
        clear hV hlow hq0 hq1 HV
        subst e1
        go_enter Try.func42, Try.ntmps42
        go_wp2_with (first | (go_at_call 33; refine (power_any _ _ (by omega) (by omega)).mono ?_; rintro e w' ⟨rfl, rfl⟩) | (go_at_call 35; refine Calls.mono (HL.out _) ?_; rintro e w' ⟨rfl, rfl⟩) | (go_at_call 45; refine Calls.mono (HS.out _) ?_; rintro e w' ⟨rfl, hb⟩))
        all_goals (go_ret; first | exact ⟨ret_int (by have := HW.out; omega), Below.refl _ _⟩ | exact ⟨ret_int (by have := HW.out; omega), by assumption⟩)
    · by_cases e2 : q < 8388608
      · have HW : Hid (V = 2147483648 + q) := by show _ = _; omega
        clear hV hlow hq1 HV
        go_enter Try.func42, Try.ntmps42
        go_wp2_with (first | (go_at_call 33; refine (power_any _ _ (by omega) (by omega)).mono ?_; rintro e w' ⟨rfl, rfl⟩) | (go_at_call 35; refine Calls.mono (HL.out _) ?_; rintro e w' ⟨rfl, rfl⟩) | (go_at_call 45; refine Calls.mono (HS.out _) ?_; rintro e w' ⟨rfl, hb⟩))
        all_goals (go_ret; first | exact ⟨ret_int (by have := HW.out; omega), Below.refl _ _⟩ | exact ⟨ret_int (by have := HW.out; omega), by assumption⟩)
      · by_cases e3 : (ln : Int) + scale - 24 - (-149) + 1 < 255
        · have HW : Hid (V = 2147483648 + ((ln : Int) + scale - 24 - (-149) + 1) * 8388608 + q - 8388608) := by show _ = _; omega
          clear hV hlow HV
          go_enter Try.func42, Try.ntmps42
          go_wp2_with (first | (go_at_call 33; refine (power_any _ _ (by omega) (by omega)).mono ?_; rintro e w' ⟨rfl, rfl⟩) | (go_at_call 35; refine Calls.mono (HL.out _) ?_; rintro e w' ⟨rfl, rfl⟩) | (go_at_call 45; refine Calls.mono (HS.out _) ?_; rintro e w' ⟨rfl, hb⟩))
          all_goals (go_ret; first | exact ⟨ret_int (by have := HW.out; omega), Below.refl _ _⟩ | exact ⟨ret_int (by have := HW.out; omega), by assumption⟩)
        · have HW : Hid (V = 2147483648 + 2139095040) := by show _ = _; omega
          clear hV hlow HV
          go_enter Try.func42, Try.ntmps42
          go_wp2_with (first | (go_at_call 33; refine (power_any _ _ (by omega) (by omega)).mono ?_; rintro e w' ⟨rfl, rfl⟩) | (go_at_call 35; refine Calls.mono (HL.out _) ?_; rintro e w' ⟨rfl, rfl⟩) | (go_at_call 45; refine Calls.mono (HS.out _) ?_; rintro e w' ⟨rfl, hb⟩))
          all_goals (go_ret; first | exact ⟨ret_int (by have := HW.out; omega), Below.refl _ _⟩ | exact ⟨ret_int (by have := HW.out; omega), by assumption⟩)
theorem round4Am (minus : Bool) (whole scale q V : Int) (ln : Nat) (W : World) (h0 : ¬ whole = 0) (hs0 : -1074 ≤ scale) (hs1 : scale ≤ 2000) (hln : (ln : Int) ≤ 64) (hA : -149 ≤ (ln : Int) + scale - 24) (hd : (ln : Int) + scale - 24 ≤ scale)
    (HL : Hid (∀ W, Calls Try.prog 35 #[.int .u64 whole] W fun e w' => e = .returned (.int .i64 (ln : Int)) ∧ w' = W))
    (p : Int) (hp : (2 : Int) ^ (scale - ((ln : Int) + scale - 24)).toNat = p) (hpl : scale - ((ln : Int) + scale - 24) ≤ 63) (hq : whole * p = q) (hq0 : 0 ≤ q) (hq1 : q ≤ 16777216) (hlow : -149 < (ln : Int) + scale - 24 → 8388608 ≤ q) (HV : Hid (V = (if minus then 2147483648 else 0) + min (((ln : Int) + scale - 24 - (-149)) * 8388608 + q) 2139095040)) :
    Calls Try.prog 42 #[.bool minus, .int .u64 whole, .int .i64 scale, .int .i64 4] W fun e w' => e = .returned (.int .u64 V) ∧ Below W.heap.size W w' := by
  have hwb : (whole == 0) = false := by simp [h0]
  cases minus
  · have hV := HV.out
    simp only [Bool.false_eq_true, if_false] at hV
    by_cases e1 : q = 16777216
    · by_cases e3 : (ln : Int) + scale - 24 + 1 - (-149) + 1 < 255
      · have HW : Hid (V = 0 + ((ln : Int) + scale - 24 + 1 - (-149) + 1) * 8388608) := by show _ = _; omega
        clear hV hlow hq0 hq1 HV
        subst e1
        go_enter Try.func42, Try.ntmps42
        go_wp2_with (first | (go_at_call 33; refine (power_any _ _ (by omega) (by omega)).mono ?_; rintro e w' ⟨rfl, rfl⟩) | (go_at_call 35; refine Calls.mono (HL.out _) ?_; rintro e w' ⟨rfl, rfl⟩))
        all_goals (go_ret; first | exact ⟨ret_int (by have := HW.out; omega), Below.refl _ _⟩ | exact ⟨ret_int (by have := HW.out; omega), by assumption⟩)
      · have HW : Hid (V = 0 + 2139095040) := by show _ = _; omega
        clear hV hlow hq0 hq1 HV
        subst e1
        go_enter Try.func42, Try.ntmps42
        go_wp2_with (first | (go_at_call 33; refine (power_any _ _ (by omega) (by omega)).mono ?_; rintro e w' ⟨rfl, rfl⟩) | (go_at_call 35; refine Calls.mono (HL.out _) ?_; rintro e w' ⟨rfl, rfl⟩))
        all_goals (go_ret; first | exact ⟨ret_int (by have := HW.out; omega), Below.refl _ _⟩ | exact ⟨ret_int (by have := HW.out; omega), by assumption⟩)
    · by_cases e2 : q < 8388608
      · have HW : Hid (V = 0 + q) := by show _ = _; omega
        clear hV hlow hq1 HV
        go_enter Try.func42, Try.ntmps42
        go_wp2_with (first | (go_at_call 33; refine (power_any _ _ (by omega) (by omega)).mono ?_; rintro e w' ⟨rfl, rfl⟩) | (go_at_call 35; refine Calls.mono (HL.out _) ?_; rintro e w' ⟨rfl, rfl⟩))
        all_goals (go_ret; first | exact ⟨ret_int (by have := HW.out; omega), Below.refl _ _⟩ | exact ⟨ret_int (by have := HW.out; omega), by assumption⟩)
      · by_cases e3 : (ln : Int) + scale - 24 - (-149) + 1 < 255
        · have HW : Hid (V = 0 + ((ln : Int) + scale - 24 - (-149) + 1) * 8388608 + q - 8388608) := by show _ = _; omega
          clear hV hlow HV
          go_enter Try.func42, Try.ntmps42
          go_wp2_with (first | (go_at_call 33; refine (power_any _ _ (by omega) (by omega)).mono ?_; rintro e w' ⟨rfl, rfl⟩) | (go_at_call 35; refine Calls.mono (HL.out _) ?_; rintro e w' ⟨rfl, rfl⟩))
          all_goals (go_ret; first | exact ⟨ret_int (by have := HW.out; omega), Below.refl _ _⟩ | exact ⟨ret_int (by have := HW.out; omega), by assumption⟩)
        · have HW : Hid (V = 0 + 2139095040) := by show _ = _; omega
          clear hV hlow HV
          go_enter Try.func42, Try.ntmps42
          go_wp2_with (first | (go_at_call 33; refine (power_any _ _ (by omega) (by omega)).mono ?_; rintro e w' ⟨rfl, rfl⟩) | (go_at_call 35; refine Calls.mono (HL.out _) ?_; rintro e w' ⟨rfl, rfl⟩))
          all_goals (go_ret; first | exact ⟨ret_int (by have := HW.out; omega), Below.refl _ _⟩ | exact ⟨ret_int (by have := HW.out; omega), by assumption⟩)
  · have hV := HV.out
    simp only [if_true] at hV
    by_cases e1 : q = 16777216
    · by_cases e3 : (ln : Int) + scale - 24 + 1 - (-149) + 1 < 255
      · have HW : Hid (V = 2147483648 + ((ln : Int) + scale - 24 + 1 - (-149) + 1) * 8388608) := by show _ = _; omega
        clear hV hlow hq0 hq1 HV
        subst e1
        go_enter Try.func42, Try.ntmps42
        go_wp2_with (first | (go_at_call 33; refine (power_any _ _ (by omega) (by omega)).mono ?_; rintro e w' ⟨rfl, rfl⟩) | (go_at_call 35; refine Calls.mono (HL.out _) ?_; rintro e w' ⟨rfl, rfl⟩))
        all_goals (go_ret; first | exact ⟨ret_int (by have := HW.out; omega), Below.refl _ _⟩ | exact ⟨ret_int (by have := HW.out; omega), by assumption⟩)
      · have HW : Hid (V = 2147483648 + 2139095040) := by show _ = _; omega
        clear hV hlow hq0 hq1 HV
        subst e1
        go_enter Try.func42, Try.ntmps42
        go_wp2_with (first | (go_at_call 33; refine (power_any _ _ (by omega) (by omega)).mono ?_; rintro e w' ⟨rfl, rfl⟩) | (go_at_call 35; refine Calls.mono (HL.out _) ?_; rintro e w' ⟨rfl, rfl⟩))
        all_goals (go_ret; first | exact ⟨ret_int (by have := HW.out; omega), Below.refl _ _⟩ | exact ⟨ret_int (by have := HW.out; omega), by assumption⟩)
    · by_cases e2 : q < 8388608
      · have HW : Hid (V = 2147483648 + q) := by show _ = _; omega
        clear hV hlow hq1 HV
        go_enter Try.func42, Try.ntmps42
        go_wp2_with (first | (go_at_call 33; refine (power_any _ _ (by omega) (by omega)).mono ?_; rintro e w' ⟨rfl, rfl⟩) | (go_at_call 35; refine Calls.mono (HL.out _) ?_; rintro e w' ⟨rfl, rfl⟩))
        all_goals (go_ret; first | exact ⟨ret_int (by have := HW.out; omega), Below.refl _ _⟩ | exact ⟨ret_int (by have := HW.out; omega), by assumption⟩)
      · by_cases e3 : (ln : Int) + scale - 24 - (-149) + 1 < 255
        · have HW : Hid (V = 2147483648 + ((ln : Int) + scale - 24 - (-149) + 1) * 8388608 + q - 8388608) := by show _ = _; omega
          clear hV hlow HV
          go_enter Try.func42, Try.ntmps42
          go_wp2_with (first | (go_at_call 33; refine (power_any _ _ (by omega) (by omega)).mono ?_; rintro e w' ⟨rfl, rfl⟩) | (go_at_call 35; refine Calls.mono (HL.out _) ?_; rintro e w' ⟨rfl, rfl⟩))
          all_goals (go_ret; first | exact ⟨ret_int (by have := HW.out; omega), Below.refl _ _⟩ | exact ⟨ret_int (by have := HW.out; omega), by assumption⟩)
        · have HW : Hid (V = 2147483648 + 2139095040) := by show _ = _; omega
          clear hV hlow HV
          go_enter Try.func42, Try.ntmps42
          go_wp2_with (first | (go_at_call 33; refine (power_any _ _ (by omega) (by omega)).mono ?_; rintro e w' ⟨rfl, rfl⟩) | (go_at_call 35; refine Calls.mono (HL.out _) ?_; rintro e w' ⟨rfl, rfl⟩))
          all_goals (go_ret; first | exact ⟨ret_int (by have := HW.out; omega), Below.refl _ _⟩ | exact ⟨ret_int (by have := HW.out; omega), by assumption⟩)
theorem round4Bs (minus : Bool) (whole scale q V : Int) (ln : Nat) (W : World) (h0 : ¬ whole = 0) (hs0 : -1074 ≤ scale) (hs1 : scale ≤ 2000) (hln : (ln : Int) ≤ 64) (hA : (ln : Int) + scale - 24 < -149) (hd : scale < -149)
    (HL : Hid (∀ W, Calls Try.prog 35 #[.int .u64 whole] W fun e w' => e = .returned (.int .i64 (ln : Int)) ∧ w' = W))
    (HS : Hid (∀ W, Calls Try.prog 45 #[.int .u64 whole, .int .i64 (-149 - scale)] W fun e w' => e = .returned (.int .u64 q) ∧ Below W.heap.size W w')) (hq0 : 0 ≤ q) (hq1 : q ≤ 16777216) (hlow : -149 < -149 → 8388608 ≤ q) (HV : Hid (V = (if minus then 2147483648 else 0) + min ((-149 - (-149)) * 8388608 + q) 2139095040)) :
    Calls Try.prog 42 #[.bool minus, .int .u64 whole, .int .i64 scale, .int .i64 4] W fun e w' => e = .returned (.int .u64 V) ∧ Below W.heap.size W w' := by
  have hwb : (whole == 0) = false := by simp [h0]
  cases minus
  · have hV := HV.out
    simp only [Bool.false_eq_true, if_false] at hV
    by_cases e1 : q = 16777216
    · by_cases e3 : -149 + 1 - (-149) + 1 < 255
      · have HW : Hid (V = 0 + (-149 + 1 - (-149) + 1) * 8388608) := by show _ = _; omega
        clear hV hlow hq0 hq1 HV
        subst e1
        go_enter Try.func42, Try.ntmps42
        go_wp2_with (first | (go_at_call 33; refine (power_any _ _ (by omega) (by omega)).mono ?_; rintro e w' ⟨rfl, rfl⟩) | (go_at_call 35; refine Calls.mono (HL.out _) ?_; rintro e w' ⟨rfl, rfl⟩) | (go_at_call 45; refine Calls.mono (HS.out _) ?_; rintro e w' ⟨rfl, hb⟩))
        all_goals (go_ret; first | exact ⟨ret_int (by have := HW.out; omega), Below.refl _ _⟩ | exact ⟨ret_int (by have := HW.out; omega), by assumption⟩)
      · have HW : Hid (V = 0 + 2139095040) := by show _ = _; omega
        clear hV hlow hq0 hq1 HV
        subst e1
        go_enter Try.func42, Try.ntmps42
        go_wp2_with (first | (go_at_call 33; refine (power_any _ _ (by omega) (by omega)).mono ?_; rintro e w' ⟨rfl, rfl⟩) | (go_at_call 35; refine Calls.mono (HL.out _) ?_; rintro e w' ⟨rfl, rfl⟩) | (go_at_call 45; refine Calls.mono (HS.out _) ?_; rintro e w' ⟨rfl, hb⟩))
        all_goals (go_ret; first | exact ⟨ret_int (by have := HW.out; omega), Below.refl _ _⟩ | exact ⟨ret_int (by have := HW.out; omega), by assumption⟩)
    · by_cases e2 : q < 8388608
      · have HW : Hid (V = 0 + q) := by show _ = _; omega
        clear hV hlow hq1 HV
        go_enter Try.func42, Try.ntmps42
        go_wp2_with (first | (go_at_call 33; refine (power_any _ _ (by omega) (by omega)).mono ?_; rintro e w' ⟨rfl, rfl⟩) | (go_at_call 35; refine Calls.mono (HL.out _) ?_; rintro e w' ⟨rfl, rfl⟩) | (go_at_call 45; refine Calls.mono (HS.out _) ?_; rintro e w' ⟨rfl, hb⟩))
        all_goals (go_ret; first | exact ⟨ret_int (by have := HW.out; omega), Below.refl _ _⟩ | exact ⟨ret_int (by have := HW.out; omega), by assumption⟩)
      · by_cases e3 : -149 - (-149) + 1 < 255
        · have HW : Hid (V = 0 + (-149 - (-149) + 1) * 8388608 + q - 8388608) := by show _ = _; omega
          clear hV hlow HV
          go_enter Try.func42, Try.ntmps42
          go_wp2_with (first | (go_at_call 33; refine (power_any _ _ (by omega) (by omega)).mono ?_; rintro e w' ⟨rfl, rfl⟩) | (go_at_call 35; refine Calls.mono (HL.out _) ?_; rintro e w' ⟨rfl, rfl⟩) | (go_at_call 45; refine Calls.mono (HS.out _) ?_; rintro e w' ⟨rfl, hb⟩))
          all_goals (go_ret; first | exact ⟨ret_int (by have := HW.out; omega), Below.refl _ _⟩ | exact ⟨ret_int (by have := HW.out; omega), by assumption⟩)
        · have HW : Hid (V = 0 + 2139095040) := by show _ = _; omega
          clear hV hlow HV
          go_enter Try.func42, Try.ntmps42
          go_wp2_with (first | (go_at_call 33; refine (power_any _ _ (by omega) (by omega)).mono ?_; rintro e w' ⟨rfl, rfl⟩) | (go_at_call 35; refine Calls.mono (HL.out _) ?_; rintro e w' ⟨rfl, rfl⟩) | (go_at_call 45; refine Calls.mono (HS.out _) ?_; rintro e w' ⟨rfl, hb⟩))
          all_goals (go_ret; first | exact ⟨ret_int (by have := HW.out; omega), Below.refl _ _⟩ | exact ⟨ret_int (by have := HW.out; omega), by assumption⟩)
  · have hV := HV.out
    simp only [if_true] at hV
    by_cases e1 : q = 16777216
    · by_cases e3 : -149 + 1 - (-149) + 1 < 255
      · have HW : Hid (V = 2147483648 + (-149 + 1 - (-149) + 1) * 8388608) := by show _ = _; omega
        clear hV hlow hq0 hq1 HV
        subst e1
        go_enter Try.func42, Try.ntmps42
        go_wp2_with (first | (go_at_call 33; refine (power_any _ _ (by omega) (by omega)).mono ?_; rintro e w' ⟨rfl, rfl⟩) | (go_at_call 35; refine Calls.mono (HL.out _) ?_; rintro e w' ⟨rfl, rfl⟩) | (go_at_call 45; refine Calls.mono (HS.out _) ?_; rintro e w' ⟨rfl, hb⟩))
        all_goals (go_ret; first | exact ⟨ret_int (by have := HW.out; omega), Below.refl _ _⟩ | exact ⟨ret_int (by have := HW.out; omega), by assumption⟩)
      · have HW : Hid (V = 2147483648 + 2139095040) := by show _ = _; omega
        clear hV hlow hq0 hq1 HV
        subst e1
        go_enter Try.func42, Try.ntmps42
        go_wp2_with (first | (go_at_call 33; refine (power_any _ _ (by omega) (by omega)).mono ?_; rintro e w' ⟨rfl, rfl⟩) | (go_at_call 35; refine Calls.mono (HL.out _) ?_; rintro e w' ⟨rfl, rfl⟩) | (go_at_call 45; refine Calls.mono (HS.out _) ?_; rintro e w' ⟨rfl, hb⟩))
        all_goals (go_ret; first | exact ⟨ret_int (by have := HW.out; omega), Below.refl _ _⟩ | exact ⟨ret_int (by have := HW.out; omega), by assumption⟩)
    · by_cases e2 : q < 8388608
      · have HW : Hid (V = 2147483648 + q) := by show _ = _; omega
        clear hV hlow hq1 HV
        go_enter Try.func42, Try.ntmps42
        go_wp2_with (first | (go_at_call 33; refine (power_any _ _ (by omega) (by omega)).mono ?_; rintro e w' ⟨rfl, rfl⟩) | (go_at_call 35; refine Calls.mono (HL.out _) ?_; rintro e w' ⟨rfl, rfl⟩) | (go_at_call 45; refine Calls.mono (HS.out _) ?_; rintro e w' ⟨rfl, hb⟩))
        all_goals (go_ret; first | exact ⟨ret_int (by have := HW.out; omega), Below.refl _ _⟩ | exact ⟨ret_int (by have := HW.out; omega), by assumption⟩)
      · by_cases e3 : -149 - (-149) + 1 < 255
        · have HW : Hid (V = 2147483648 + (-149 - (-149) + 1) * 8388608 + q - 8388608) := by show _ = _; omega
          clear hV hlow HV
          go_enter Try.func42, Try.ntmps42
          go_wp2_with (first | (go_at_call 33; refine (power_any _ _ (by omega) (by omega)).mono ?_; rintro e w' ⟨rfl, rfl⟩) | (go_at_call 35; refine Calls.mono (HL.out _) ?_; rintro e w' ⟨rfl, rfl⟩) | (go_at_call 45; refine Calls.mono (HS.out _) ?_; rintro e w' ⟨rfl, hb⟩))
          all_goals (go_ret; first | exact ⟨ret_int (by have := HW.out; omega), Below.refl _ _⟩ | exact ⟨ret_int (by have := HW.out; omega), by assumption⟩)
        · have HW : Hid (V = 2147483648 + 2139095040) := by show _ = _; omega
          clear hV hlow HV
          go_enter Try.func42, Try.ntmps42
          go_wp2_with (first | (go_at_call 33; refine (power_any _ _ (by omega) (by omega)).mono ?_; rintro e w' ⟨rfl, rfl⟩) | (go_at_call 35; refine Calls.mono (HL.out _) ?_; rintro e w' ⟨rfl, rfl⟩) | (go_at_call 45; refine Calls.mono (HS.out _) ?_; rintro e w' ⟨rfl, hb⟩))
          all_goals (go_ret; first | exact ⟨ret_int (by have := HW.out; omega), Below.refl _ _⟩ | exact ⟨ret_int (by have := HW.out; omega), by assumption⟩)
theorem round4Bm (minus : Bool) (whole scale q V : Int) (ln : Nat) (W : World) (h0 : ¬ whole = 0) (hs0 : -1074 ≤ scale) (hs1 : scale ≤ 2000) (hln : (ln : Int) ≤ 64) (hA : (ln : Int) + scale - 24 < -149) (hd : -149 ≤ scale)
    (HL : Hid (∀ W, Calls Try.prog 35 #[.int .u64 whole] W fun e w' => e = .returned (.int .i64 (ln : Int)) ∧ w' = W))
    (p : Int) (hp : (2 : Int) ^ (scale + 149).toNat = p) (hpl : scale + 149 ≤ 63) (hq : whole * p = q) (hq0 : 0 ≤ q) (hq1 : q ≤ 16777216) (hlow : -149 < -149 → 8388608 ≤ q) (HV : Hid (V = (if minus then 2147483648 else 0) + min ((-149 - (-149)) * 8388608 + q) 2139095040)) :
    Calls Try.prog 42 #[.bool minus, .int .u64 whole, .int .i64 scale, .int .i64 4] W fun e w' => e = .returned (.int .u64 V) ∧ Below W.heap.size W w' := by
  have hwb : (whole == 0) = false := by simp [h0]
  cases minus
  · have hV := HV.out
    simp only [Bool.false_eq_true, if_false] at hV
    by_cases e1 : q = 16777216
    · by_cases e3 : -149 + 1 - (-149) + 1 < 255
      · have HW : Hid (V = 0 + (-149 + 1 - (-149) + 1) * 8388608) := by show _ = _; omega
        clear hV hlow hq0 hq1 HV
        subst e1
        go_enter Try.func42, Try.ntmps42
        go_wp2_with (first | (go_at_call 33; refine (power_any _ _ (by omega) (by omega)).mono ?_; rintro e w' ⟨rfl, rfl⟩) | (go_at_call 35; refine Calls.mono (HL.out _) ?_; rintro e w' ⟨rfl, rfl⟩))
        all_goals (go_ret; first | exact ⟨ret_int (by have := HW.out; omega), Below.refl _ _⟩ | exact ⟨ret_int (by have := HW.out; omega), by assumption⟩)
      · have HW : Hid (V = 0 + 2139095040) := by show _ = _; omega
        clear hV hlow hq0 hq1 HV
        subst e1
        go_enter Try.func42, Try.ntmps42
        go_wp2_with (first | (go_at_call 33; refine (power_any _ _ (by omega) (by omega)).mono ?_; rintro e w' ⟨rfl, rfl⟩) | (go_at_call 35; refine Calls.mono (HL.out _) ?_; rintro e w' ⟨rfl, rfl⟩))
        all_goals (go_ret; first | exact ⟨ret_int (by have := HW.out; omega), Below.refl _ _⟩ | exact ⟨ret_int (by have := HW.out; omega), by assumption⟩)
    · by_cases e2 : q < 8388608
      · have HW : Hid (V = 0 + q) := by show _ = _; omega
        clear hV hlow hq1 HV
        go_enter Try.func42, Try.ntmps42
        go_wp2_with (first | (go_at_call 33; refine (power_any _ _ (by omega) (by omega)).mono ?_; rintro e w' ⟨rfl, rfl⟩) | (go_at_call 35; refine Calls.mono (HL.out _) ?_; rintro e w' ⟨rfl, rfl⟩))
        all_goals (go_ret; first | exact ⟨ret_int (by have := HW.out; omega), Below.refl _ _⟩ | exact ⟨ret_int (by have := HW.out; omega), by assumption⟩)
      · by_cases e3 : -149 - (-149) + 1 < 255
        · have HW : Hid (V = 0 + (-149 - (-149) + 1) * 8388608 + q - 8388608) := by show _ = _; omega
          clear hV hlow HV
          go_enter Try.func42, Try.ntmps42
          go_wp2_with (first | (go_at_call 33; refine (power_any _ _ (by omega) (by omega)).mono ?_; rintro e w' ⟨rfl, rfl⟩) | (go_at_call 35; refine Calls.mono (HL.out _) ?_; rintro e w' ⟨rfl, rfl⟩))
          all_goals (go_ret; first | exact ⟨ret_int (by have := HW.out; omega), Below.refl _ _⟩ | exact ⟨ret_int (by have := HW.out; omega), by assumption⟩)
        · have HW : Hid (V = 0 + 2139095040) := by show _ = _; omega
          clear hV hlow HV
          go_enter Try.func42, Try.ntmps42
          go_wp2_with (first | (go_at_call 33; refine (power_any _ _ (by omega) (by omega)).mono ?_; rintro e w' ⟨rfl, rfl⟩) | (go_at_call 35; refine Calls.mono (HL.out _) ?_; rintro e w' ⟨rfl, rfl⟩))
          all_goals (go_ret; first | exact ⟨ret_int (by have := HW.out; omega), Below.refl _ _⟩ | exact ⟨ret_int (by have := HW.out; omega), by assumption⟩)
  · have hV := HV.out
    simp only [if_true] at hV
    by_cases e1 : q = 16777216
    · by_cases e3 : -149 + 1 - (-149) + 1 < 255
      · have HW : Hid (V = 2147483648 + (-149 + 1 - (-149) + 1) * 8388608) := by show _ = _; omega
        clear hV hlow hq0 hq1 HV
        subst e1
        go_enter Try.func42, Try.ntmps42
        go_wp2_with (first | (go_at_call 33; refine (power_any _ _ (by omega) (by omega)).mono ?_; rintro e w' ⟨rfl, rfl⟩) | (go_at_call 35; refine Calls.mono (HL.out _) ?_; rintro e w' ⟨rfl, rfl⟩))
        all_goals (go_ret; first | exact ⟨ret_int (by have := HW.out; omega), Below.refl _ _⟩ | exact ⟨ret_int (by have := HW.out; omega), by assumption⟩)
      · have HW : Hid (V = 2147483648 + 2139095040) := by show _ = _; omega
        clear hV hlow hq0 hq1 HV
        subst e1
        go_enter Try.func42, Try.ntmps42
        go_wp2_with (first | (go_at_call 33; refine (power_any _ _ (by omega) (by omega)).mono ?_; rintro e w' ⟨rfl, rfl⟩) | (go_at_call 35; refine Calls.mono (HL.out _) ?_; rintro e w' ⟨rfl, rfl⟩))
        all_goals (go_ret; first | exact ⟨ret_int (by have := HW.out; omega), Below.refl _ _⟩ | exact ⟨ret_int (by have := HW.out; omega), by assumption⟩)
    · by_cases e2 : q < 8388608
      · have HW : Hid (V = 2147483648 + q) := by show _ = _; omega
        clear hV hlow hq1 HV
        go_enter Try.func42, Try.ntmps42
        go_wp2_with (first | (go_at_call 33; refine (power_any _ _ (by omega) (by omega)).mono ?_; rintro e w' ⟨rfl, rfl⟩) | (go_at_call 35; refine Calls.mono (HL.out _) ?_; rintro e w' ⟨rfl, rfl⟩))
        all_goals (go_ret; first | exact ⟨ret_int (by have := HW.out; omega), Below.refl _ _⟩ | exact ⟨ret_int (by have := HW.out; omega), by assumption⟩)
      · by_cases e3 : -149 - (-149) + 1 < 255
        · have HW : Hid (V = 2147483648 + (-149 - (-149) + 1) * 8388608 + q - 8388608) := by show _ = _; omega
          clear hV hlow HV
          go_enter Try.func42, Try.ntmps42
          go_wp2_with (first | (go_at_call 33; refine (power_any _ _ (by omega) (by omega)).mono ?_; rintro e w' ⟨rfl, rfl⟩) | (go_at_call 35; refine Calls.mono (HL.out _) ?_; rintro e w' ⟨rfl, rfl⟩))
          all_goals (go_ret; first | exact ⟨ret_int (by have := HW.out; omega), Below.refl _ _⟩ | exact ⟨ret_int (by have := HW.out; omega), by assumption⟩)
        · have HW : Hid (V = 2147483648 + 2139095040) := by show _ = _; omega
          clear hV hlow HV
          go_enter Try.func42, Try.ntmps42
          go_wp2_with (first | (go_at_call 33; refine (power_any _ _ (by omega) (by omega)).mono ?_; rintro e w' ⟨rfl, rfl⟩) | (go_at_call 35; refine Calls.mono (HL.out _) ?_; rintro e w' ⟨rfl, rfl⟩))
          all_goals (go_ret; first | exact ⟨ret_int (by have := HW.out; omega), Below.refl _ _⟩ | exact ⟨ret_int (by have := HW.out; omega), by assumption⟩)
end Go.Proofs.Ytanchgbpnioomaa

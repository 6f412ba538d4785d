/-
  The document's Round tells the nearest float. No conditions but that the arguments fit their kinds.
-/
import Derived.Test.YtanchgbpnioomaaNRound
import Derived.Test.YtanchgbpnioomaaNNear
namespace Go.Proofs.Ytanchgbpnioomaa
open Go.RowKit Ieee
set_option linter.unusedVariables false
set_option maxRecDepth 100000
set_option maxHeartbeats 1000000

theorem shifted_int (u : Nat) (n : Int) (W : World) (hu : u < 18446744073709551616) (h0 : 0 < n) :
    Calls Try.prog 45 #[.int .u64 (u : Int), .int .i64 n] W fun e w' => e = .returned (.int .u64 (rne u n.toNat : Nat)) ∧ Below W.heap.size W w' := by
  have := shifted_any u n.toNat W hu (by omega)
  rwa [show ((n.toNat : Nat) : Int) = n from by omega] at this
theorem round8 (minus : Bool) (m : Nat) (scale : Int) (W : World) (hm : m < 18446744073709551616) (hs0 : -1074 ≤ scale) (hs1 : scale ≤ 2000) :
    Calls Try.prog 42 #[.bool minus, .int .u64 (m : Int), .int .i64 scale, .int .i64 8] W fun e w' => e = .returned (.int .u64 (double.nearest minus m scale : Nat)) ∧ Below W.heap.size W w' := by
  by_cases h0 : m = 0
  · have HV : Hid (((double.nearest minus m scale : Nat) : Int) = if minus then 9223372036854775808 else 0) := by
      show _ = _
      unfold Format.nearest Format.word
      rw [if_pos h0, double_sw]
      cases minus <;> rfl
    have hmi : (m : Int) = 0 := by omega
    clear h0 hm
    generalize double.nearest minus m scale = v at *
    cases minus
    · go_enter Try.func42, Try.ntmps42
      go_wp2_with (first | (go_at_call 33; refine (power_any _ _ (by decide) (by decide)).mono ?_; rintro e w' ⟨rfl, rfl⟩))
      go_ret
      exact ⟨ret_int HV.out.symm, Below.refl _ _⟩
    · go_enter Try.func42, Try.ntmps42
      go_wp2_with (first | (go_at_call 33; refine (power_any _ _ (by decide) (by decide)).mono ?_; rintro e w' ⟨rfl, rfl⟩))
      go_ret
      exact ⟨ret_int HV.out.symm, Below.refl _ _⟩
  · have HL : Hid (∀ W, Calls Try.prog 35 #[.int .u64 (m : Int)] W fun e w' => e = .returned (.int .i64 ((m.log2 + 1 : Nat) : Int)) ∧ w' = W) := fun W => by
      have := length_any m W hm
      rwa [show len2 m = m.log2 + 1 from if_neg h0] at this
    have hln : ((m.log2 + 1 : Nat) : Int) ≤ 64 := by
      have := len2_le m hm
      rw [show len2 m = m.log2 + 1 from if_neg h0] at this; omega
    have hdoc := nearest_doc double minus m scale h0
    have hk1 := kept_top double m scale h0
    have hk2 := kept_low double m scale h0
    have hll : double.leastPlace ≤ lastP double m scale := by unfold lastP; omega
    rw [double_bin] at hk1 hk2 hdoc
    rw [double_lp] at hk2 hll hdoc
    rw [double_inf] at hdoc
    have hV0 : ((double.nearest minus m scale : Nat) : Int) = (if minus then 9223372036854775808 else 0) + min ((lastP double m scale - (-1074)) * 4503599627370496 + (keptP double m scale : Nat)) 9218868437227405312 := by
      rw [hdoc]; unfold Format.word; rw [double_sw]
      cases minus <;> simp only [Bool.false_eq_true, if_false, if_true] <;> omega
    clear hdoc
    generalize double.nearest minus m scale = v at *
    by_cases hA : -1074 ≤ ((m.log2 + 1 : Nat) : Int) + scale - 53
    · have hU : lastP double m scale = ((m.log2 + 1 : Nat) : Int) + scale - 53 := by
        unfold lastP; rw [double_lp, show double.fractionBits = 52 from rfl]; omega
      rw [hU] at hV0 hk2 hll
      have hV : Hid _ := hV0
      by_cases hd : scale < ((m.log2 + 1 : Nat) : Int) + scale - 53
      ·
        have hkk : keptP double m scale = rne m ((((m.log2 + 1 : Nat) : Int) + scale - 53) - scale).toNat := by unfold keptP; rw [hU, if_pos hd]
        exact round8As minus m scale (keptP double m scale : Nat) _ (m.log2 + 1) W (by omega) hs0 hs1 hln hA hd HL (fun W => by rw [hkk]; exact shifted_int m ((((m.log2 + 1 : Nat) : Int) + scale - 53) - scale) W hm (by omega)) (Int.natCast_nonneg _) (by omega) (fun hh => by have := hk2 (by omega); omega) hV
      · replace hd := Int.not_lt.1 hd
        have hkk : keptP double m scale = m * 2 ^ (scale - (((m.log2 + 1 : Nat) : Int) + scale - 53)).toNat := by unfold keptP; rw [hU, if_neg (by omega)]
        exact round8Am minus m scale (keptP double m scale : Nat) _ (m.log2 + 1) W (by omega) hs0 hs1 hln hA hd HL _ rfl (by omega) (by rw [hkk]; simp) (Int.natCast_nonneg _) (by omega) (fun hh => by have := hk2 (by omega); omega) hV
    · have hU : lastP double m scale = -1074 := by
        unfold lastP; rw [double_lp, show double.fractionBits = 52 from rfl]; omega
      rw [hU] at hV0 hk2 hll
      have hV : Hid _ := hV0
      replace hA := Int.not_le.1 hA
      by_cases hd : scale < -1074
      ·
        exact absurd hs0 (by omega)
      · replace hd := Int.not_lt.1 hd
        have hkk : keptP double m scale = m * 2 ^ (scale + 1074).toNat := by unfold keptP; rw [hU, if_neg (by omega)]; congr 2
        exact round8Bm minus m scale (keptP double m scale : Nat) _ (m.log2 + 1) W (by omega) hs0 hs1 hln hA hd HL _ rfl (by omega) (by rw [hkk]; simp) (Int.natCast_nonneg _) (by omega) (fun hh => by have := hk2 (by omega); omega) hV
theorem round4 (minus : Bool) (m : Nat) (scale : Int) (W : World) (hm : m < 18446744073709551616) (hs0 : -1074 ≤ scale) (hs1 : scale ≤ 2000) :
    Calls Try.prog 42 #[.bool minus, .int .u64 (m : Int), .int .i64 scale, .int .i64 4] W fun e w' => e = .returned (.int .u64 (single.nearest minus m scale : Nat)) ∧ Below W.heap.size W w' := by
  by_cases h0 : m = 0
  · have HV : Hid (((single.nearest minus m scale : Nat) : Int) = if minus then 2147483648 else 0) := by
      show _ = _
      unfold Format.nearest Format.word
      rw [if_pos h0, single_sw]
      cases minus <;> rfl
    have hmi : (m : Int) = 0 := by omega
    clear h0 hm
    generalize single.nearest minus m scale = v at *
    cases minus
    · go_enter Try.func42, Try.ntmps42
      go_wp2_with (first | (go_at_call 33; refine (power_any _ _ (by decide) (by decide)).mono ?_; rintro e w' ⟨rfl, rfl⟩))
      go_ret
      exact ⟨ret_int HV.out.symm, Below.refl _ _⟩
    · go_enter Try.func42, Try.ntmps42
      go_wp2_with (first | (go_at_call 33; refine (power_any _ _ (by decide) (by decide)).mono ?_; rintro e w' ⟨rfl, rfl⟩))
      go_ret
      exact ⟨ret_int HV.out.symm, Below.refl _ _⟩
  · have HL : Hid (∀ W, Calls Try.prog 35 #[.int .u64 (m : Int)] W fun e w' => e = .returned (.int .i64 ((m.log2 + 1 : Nat) : Int)) ∧ w' = W) := fun W => by
      have := length_any m W hm
      rwa [show len2 m = m.log2 + 1 from if_neg h0] at this
    have hln : ((m.log2 + 1 : Nat) : Int) ≤ 64 := by
      have := len2_le m hm
      rw [show len2 m = m.log2 + 1 from if_neg h0] at this; omega
    have hdoc := nearest_doc single minus m scale h0
    have hk1 := kept_top single m scale h0
    have hk2 := kept_low single m scale h0
    have hll : single.leastPlace ≤ lastP single m scale := by unfold lastP; omega
    rw [single_bin] at hk1 hk2 hdoc
    rw [single_lp] at hk2 hll hdoc
    rw [single_inf] at hdoc
    have hV0 : ((single.nearest minus m scale : Nat) : Int) = (if minus then 2147483648 else 0) + min ((lastP single m scale - (-149)) * 8388608 + (keptP single m scale : Nat)) 2139095040 := by
      rw [hdoc]; unfold Format.word; rw [single_sw]
      cases minus <;> simp only [Bool.false_eq_true, if_false, if_true] <;> omega
    clear hdoc
    generalize single.nearest minus m scale = v at *
    by_cases hA : -149 ≤ ((m.log2 + 1 : Nat) : Int) + scale - 24
    · have hU : lastP single m scale = ((m.log2 + 1 : Nat) : Int) + scale - 24 := by
        unfold lastP; rw [single_lp, show single.fractionBits = 23 from rfl]; omega
      rw [hU] at hV0 hk2 hll
      have hV : Hid _ := hV0
      by_cases hd : scale < ((m.log2 + 1 : Nat) : Int) + scale - 24
      ·
        have hkk : keptP single m scale = rne m ((((m.log2 + 1 : Nat) : Int) + scale - 24) - scale).toNat := by unfold keptP; rw [hU, if_pos hd]
        exact round4As minus m scale (keptP single m scale : Nat) _ (m.log2 + 1) W (by omega) hs0 hs1 hln hA hd HL (fun W => by rw [hkk]; exact shifted_int m ((((m.log2 + 1 : Nat) : Int) + scale - 24) - scale) W hm (by omega)) (Int.natCast_nonneg _) (by omega) (fun hh => by have := hk2 (by omega); omega) hV
      · replace hd := Int.not_lt.1 hd
        have hkk : keptP single m scale = m * 2 ^ (scale - (((m.log2 + 1 : Nat) : Int) + scale - 24)).toNat := by unfold keptP; rw [hU, if_neg (by omega)]
        exact round4Am minus m scale (keptP single m scale : Nat) _ (m.log2 + 1) W (by omega) hs0 hs1 hln hA hd HL _ rfl (by omega) (by rw [hkk]; simp) (Int.natCast_nonneg _) (by omega) (fun hh => by have := hk2 (by omega); omega) hV
    · have hU : lastP single m scale = -149 := by
        unfold lastP; rw [single_lp, show single.fractionBits = 23 from rfl]; omega
      rw [hU] at hV0 hk2 hll
      have hV : Hid _ := hV0
      replace hA := Int.not_le.1 hA
      by_cases hd : scale < -149
      ·
        have hkk : keptP single m scale = rne m ((-149 : Int) - scale).toNat := by unfold keptP; rw [hU, if_pos hd]
        exact round4Bs minus m scale (keptP single m scale : Nat) _ (m.log2 + 1) W (by omega) hs0 hs1 hln hA hd HL (fun W => by rw [hkk]; exact shifted_int m ((-149 : Int) - scale) W hm (by omega)) (Int.natCast_nonneg _) (by omega) (fun hh => by have := hk2 (by omega); omega) hV
      · replace hd := Int.not_lt.1 hd
        have hkk : keptP single m scale = m * 2 ^ (scale + 149).toNat := by unfold keptP; rw [hU, if_neg (by omega)]; congr 2
        exact round4Bm minus m scale (keptP single m scale : Nat) _ (m.log2 + 1) W (by omega) hs0 hs1 hln hA hd HL _ rfl (by omega) (by rw [hkk]; simp) (Int.natCast_nonneg _) (by omega) (fun hh => by have := hk2 (by omega); omega) hV
end Go.Proofs.Ytanchgbpnioomaa

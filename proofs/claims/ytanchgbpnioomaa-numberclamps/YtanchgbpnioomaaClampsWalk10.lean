/-
  The law NumberClamps walked. No conditions but that the arguments fit their kinds.
-/
import Derived.Test.YtanchgbpnioomaaNWithin
import Derived.Test.YtanchgbpnioomaaNWiden
import Derived.OpenShut
namespace Go.Proofs.Ytanchgbpnioomaa
open Go.RowKit
set_option linter.unusedVariables false
set_option maxRecDepth 100000
set_option maxHeartbeats 1000000

theorem numberClamps_walk (n u w : Int) (W : World) (w0 : (Lit.int .i64 n).wf = true) (w1 : (Lit.int .u64 u).wf = true) (w2 : (Lit.int .i64 w).wf = true) :
    Calls Try.prog 3 #[.int .i64 n, .int .u64 u, .int .i64 w] W fun e w' => e = .returned (.bool true) ∧ Below W.heap.size W w' := by
  obtain ⟨hn0, hn1⟩ := bounds_i64 w0
  obtain ⟨hu0, hu1⟩ := bounds_u64 w1
  have hn2 : n < 9223372036854775808 := by omega
  have hu2 : u < 18446744073709551616 := by omega
  rcases wOk_cases w with ⟨_, h1, h2⟩ | ⟨_, h⟩
  · clear w0 w1 w2
    go_enter Try.func3, Try.ntmps3
    go_wp2
    go_loop [7] (fun i => ∃ k : Nat, k ≤ 2 ∧ i = .int .i64 k) (fun i => 2 - (intOf i).toNat)
    case atStart => exact ⟨0, by decide, rfl⟩
    case round =>
      obtain ⟨k, hk, rfl⟩ := hrel
      by_cases hlt : k < 2
      · go_wp2_with (first | (go_at_call 9; refine (clamp_yes _ _ _ _ hn0 hn2 h1 h2).mono ?_; rintro e w' ⟨rfl, rfl⟩) | (go_at_call 10; refine (clampUint_yes _ _ _ _ h1 h2).mono ?_; rintro e w' ⟨rfl, rfl⟩) | (go_at_call 11; refine (refClamp_yes _ _ _ _ hn0 hn2 h1 h2).mono ?_; rintro e w' ⟨rfl, rfl⟩) | (go_at_call 12; refine (refClampUint_yes _ _ _ _ hu0 hu2 h1 h2).mono ?_; rintro e w' ⟨rfl, rfl⟩))
        go_round
        case rel => exact ⟨k + 1, by omega, by go_num⟩
        case measure => simp [intOf]; omega
      · go_wp2_with (go_at_call 13; refine (lives_any _).mono ?_; rintro e w2 ⟨rfl, hb2⟩)
        go_ret
        exact ⟨rfl, by assumption⟩
  · clear w0 w1 w2
    have HH : Hid (w < 1 ∨ 8 < w) := h
    clear h
    go_enter Try.func3, Try.ntmps3
    go_wp2
    go_loop [7] (fun i => ∃ k : Nat, k ≤ 2 ∧ i = .int .i64 k) (fun i => 2 - (intOf i).toNat)
    case atStart => exact ⟨0, by decide, rfl⟩
    case round =>
      obtain ⟨k, hk, rfl⟩ := hrel
      by_cases hlt : k < 2
      · go_wp2_with (first | (go_at_call 9; refine (clamp_no _ _ _ _ HH.out).mono ?_; rintro e w' ⟨rfl, rfl⟩) | (go_at_call 10; refine (clampUint_no _ _ _ _ HH.out).mono ?_; rintro e w' ⟨rfl, rfl⟩) | (go_at_call 11; refine (refClamp_no _ _ _ _ HH.out).mono ?_; rintro e w' ⟨rfl, rfl⟩) | (go_at_call 12; refine (refClampUint_no _ _ _ _ HH.out).mono ?_; rintro e w' ⟨rfl, rfl⟩))
        go_round
        case rel => exact ⟨k + 1, by omega, by go_num⟩
        case measure => simp [intOf]; omega
      · go_wp2_with (go_at_call 13; refine (lives_any _).mono ?_; rintro e w2 ⟨rfl, hb2⟩)
        go_ret
        exact ⟨rfl, by assumption⟩
end Go.Proofs.Ytanchgbpnioomaa

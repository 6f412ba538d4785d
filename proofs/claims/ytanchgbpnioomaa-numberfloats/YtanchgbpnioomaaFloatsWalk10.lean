/-
  The document's Float and FloatUint; the law NumberFloats walked. No conditions but that the arguments fit their kinds.
-/
import Derived.Test.YtanchgbpnioomaaNRefW
namespace Go.Proofs.Ytanchgbpnioomaa
open Go.RowKit Ieee
set_option linter.unusedVariables false
set_option maxRecDepth 100000
set_option maxHeartbeats 1000000

theorem refFloat8 (n : Int) (W : World) (h0 : -9223372036854775808 ≤ n) (h1 : n < 9223372036854775808) : Calls Try.prog 22 #[.int .i64 n, .int .i64 8] W fun e w' => e = .returned (.tuple #[.int .u64 (double.nearest (n < 0) n.natAbs 0 : Nat), .int .i64 0]) ∧ Below W.heap.size W w' := by
  have hr := fun W => round8 (n < 0) n.natAbs 0 W (by omega) (by decide) (by decide)
  generalize double.nearest (n < 0) n.natAbs 0 = v at *
  by_cases hn : n < 0
  · have HR : Hid (∀ W, Calls Try.prog 42 #[.bool true, .int .u64 (-n), .int .i64 0, .int .i64 8] W fun e w' => e = .returned (.int .u64 (v : Int)) ∧ Below W.heap.size W w') := fun W => by
      have := hr W
      rwa [show decide (n < 0) = true from by simp [hn], show ((n.natAbs : Nat) : Int) = -n from by omega] at this
    have hwr : IntKind.u64.wrap n = n + 18446744073709551616 := by simp [IntKind.wrap, IntKind.bits, IntKind.signed]; omega
    have hwr2 : IntKind.u64.wrap (-(n + 18446744073709551616)) = -n := by simp [IntKind.wrap, IntKind.bits, IntKind.signed]; omega
    clear hr
    go_enter Try.func22, Try.ntmps22
    go_wp2_with (go_at_call 42; refine Calls.mono (HR.out _) ?_; rintro e w2 ⟨rfl, hb⟩)
    go_ret2
    exact ⟨rfl, by assumption⟩
  · have HR : Hid (∀ W, Calls Try.prog 42 #[.bool false, .int .u64 n, .int .i64 0, .int .i64 8] W fun e w' => e = .returned (.int .u64 (v : Int)) ∧ Below W.heap.size W w') := fun W => by
      have := hr W
      rwa [show decide (n < 0) = false from by simp; omega, show ((n.natAbs : Nat) : Int) = n from by omega] at this
    have hn0 : 0 ≤ n := by omega
    clear hr hn
    go_enter Try.func22, Try.ntmps22
    go_wp2_with (go_at_call 42; refine Calls.mono (HR.out _) ?_; rintro e w2 ⟨rfl, hb⟩)
    go_ret2
    exact ⟨rfl, by assumption⟩
theorem refFloatU8 (n : Int) (W : World) (h0 : 0 ≤ n) (h1 : n < 18446744073709551616) : Calls Try.prog 23 #[.int .u64 n, .int .i64 8] W fun e w' => e = .returned (.tuple #[.int .u64 (double.nearest (n < 0) n.natAbs 0 : Nat), .int .i64 0]) ∧ Below W.heap.size W w' := by
  have hr := fun W => round8 (n < 0) n.natAbs 0 W (by omega) (by decide) (by decide)
  generalize double.nearest (n < 0) n.natAbs 0 = v at *
  have HR : Hid (∀ W, Calls Try.prog 42 #[.bool false, .int .u64 n, .int .i64 0, .int .i64 8] W fun e w' => e = .returned (.int .u64 (v : Int)) ∧ Below W.heap.size W w') := fun W => by
    have := hr W
    rwa [show decide (n < 0) = false from by simp; omega, show ((n.natAbs : Nat) : Int) = n from by omega] at this
  clear hr
  go_enter Try.func23, Try.ntmps23
  go_wp2_with (go_at_call 42; refine Calls.mono (HR.out _) ?_; rintro e w2 ⟨rfl, hb⟩)
  go_ret2
  exact ⟨rfl, by assumption⟩
theorem refFloat4 (n : Int) (W : World) (h0 : -9223372036854775808 ≤ n) (h1 : n < 9223372036854775808) : Calls Try.prog 22 #[.int .i64 n, .int .i64 4] W fun e w' => e = .returned (.tuple #[.int .u64 (single.nearest (n < 0) n.natAbs 0 : Nat), .int .i64 0]) ∧ Below W.heap.size W w' := by
  have hr := fun W => round4 (n < 0) n.natAbs 0 W (by omega) (by decide) (by decide)
  generalize single.nearest (n < 0) n.natAbs 0 = v at *
  by_cases hn : n < 0
  · have HR : Hid (∀ W, Calls Try.prog 42 #[.bool true, .int .u64 (-n), .int .i64 0, .int .i64 4] W fun e w' => e = .returned (.int .u64 (v : Int)) ∧ Below W.heap.size W w') := fun W => by
      have := hr W
      rwa [show decide (n < 0) = true from by simp [hn], show ((n.natAbs : Nat) : Int) = -n from by omega] at this
    have hwr : IntKind.u64.wrap n = n + 18446744073709551616 := by simp [IntKind.wrap, IntKind.bits, IntKind.signed]; omega
    have hwr2 : IntKind.u64.wrap (-(n + 18446744073709551616)) = -n := by simp [IntKind.wrap, IntKind.bits, IntKind.signed]; omega
    clear hr
    go_enter Try.func22, Try.ntmps22
    go_wp2_with (go_at_call 42; refine Calls.mono (HR.out _) ?_; rintro e w2 ⟨rfl, hb⟩)
    go_ret2
    exact ⟨rfl, by assumption⟩
  · have HR : Hid (∀ W, Calls Try.prog 42 #[.bool false, .int .u64 n, .int .i64 0, .int .i64 4] W fun e w' => e = .returned (.int .u64 (v : Int)) ∧ Below W.heap.size W w') := fun W => by
      have := hr W
      rwa [show decide (n < 0) = false from by simp; omega, show ((n.natAbs : Nat) : Int) = n from by omega] at this
    have hn0 : 0 ≤ n := by omega
    clear hr hn
    go_enter Try.func22, Try.ntmps22
    go_wp2_with (go_at_call 42; refine Calls.mono (HR.out _) ?_; rintro e w2 ⟨rfl, hb⟩)
    go_ret2
    exact ⟨rfl, by assumption⟩
theorem refFloatU4 (n : Int) (W : World) (h0 : 0 ≤ n) (h1 : n < 18446744073709551616) : Calls Try.prog 23 #[.int .u64 n, .int .i64 4] W fun e w' => e = .returned (.tuple #[.int .u64 (single.nearest (n < 0) n.natAbs 0 : Nat), .int .i64 0]) ∧ Below W.heap.size W w' := by
  have hr := fun W => round4 (n < 0) n.natAbs 0 W (by omega) (by decide) (by decide)
  generalize single.nearest (n < 0) n.natAbs 0 = v at *
  have HR : Hid (∀ W, Calls Try.prog 42 #[.bool false, .int .u64 n, .int .i64 0, .int .i64 4] W fun e w' => e = .returned (.int .u64 (v : Int)) ∧ Below W.heap.size W w') := fun W => by
    have := hr W
    rwa [show decide (n < 0) = false from by simp; omega, show ((n.natAbs : Nat) : Int) = n from by omega] at this
  clear hr
  go_enter Try.func23, Try.ntmps23
  go_wp2_with (go_at_call 42; refine Calls.mono (HR.out _) ?_; rintro e w2 ⟨rfl, hb⟩)
  go_ret2
  exact ⟨rfl, by assumption⟩

theorem refFloat_no (n w : Int) (W : World) (h4 : w ≠ 4) (h8 : w ≠ 8) : Calls Try.prog 22 #[.int .i64 n, .int .i64 w] W fun e w' => e = .returned (.tuple #[.int .u64 0, .int .i64 2]) ∧ w' = W := by
  have b4 : (w != 4) = true := by simp [h4]
  have b8 : (w != 8) = true := by simp [h8]
  clear h4 h8
  go_enter Try.func22, Try.ntmps22
  go_wp2
  go_ret2
  exact ⟨rfl, rfl⟩
theorem refFloatU_no (n w : Int) (W : World) (h4 : w ≠ 4) (h8 : w ≠ 8) : Calls Try.prog 23 #[.int .u64 n, .int .i64 w] W fun e w' => e = .returned (.tuple #[.int .u64 0, .int .i64 2]) ∧ w' = W := by
  have b4 : (w != 4) = true := by simp [h4]
  have b8 : (w != 8) = true := by simp [h8]
  clear h4 h8
  go_enter Try.func23, Try.ntmps23
  go_wp2
  go_ret2
  exact ⟨rfl, rfl⟩
theorem numberFloats_walk (n u w : Int) (W : World) (w0 : (Lit.int .i64 n).wf = true) (w1 : (Lit.int .u64 u).wf = true) (w2 : (Lit.int .i64 w).wf = true) :
    Calls Try.prog 7 #[.int .i64 n, .int .u64 u, .int .i64 w] W fun e w' => e = .returned (.bool true) ∧ Below W.heap.size W w' := by
  obtain ⟨hn0, hn1⟩ := bounds_i64 w0
  obtain ⟨hu0, hu1⟩ := bounds_u64 w1
  clear w0 w1 w2
  by_cases h8 : w = 8
  · subst h8
    have H1 : Hid _ := fun W => float8_any n W
    have H2 : Hid _ := fun W => floatU8_any u W
    have H3 : Hid _ := fun W => refFloat8 n W hn0 (by omega)
    have H4 : Hid _ := fun W => refFloatU8 u W hu0 (by omega)
    generalize double.nearest (n < 0) n.natAbs 0 = v at *
    generalize double.nearest (u < 0) u.natAbs 0 = v2 at *
    go_enter Try.func7, Try.ntmps7
    go_wp2_with (first | (go_at_call 20; refine Calls.mono (H1.out _) ?_; rintro e w1 ⟨rfl, rfl⟩) | (go_at_call 21; refine Calls.mono (H2.out _) ?_; rintro e w2 ⟨rfl, rfl⟩) | (go_at_call 22; refine Calls.mono (H3.out _) ?_; rintro e w3 ⟨rfl, hb3⟩) | (go_at_call 23; refine Calls.mono (H4.out _) ?_; rintro e w4 ⟨rfl, hb4⟩) | (go_at_call 13; refine (lives_any _).mono ?_; rintro e w5 ⟨rfl, hb5⟩))
    go_ret
    exact ⟨rfl, ‹Below w2.heap.size w2 w3›.trans ((‹Below w3.heap.size w3 w4›.trans (‹Below w4.heap.size w4 w5›.mono ‹Below w3.heap.size w3 w4›.size)).mono ‹Below w2.heap.size w2 w3›.size)⟩
  · by_cases h4 : w = 4
    · subst h4
      have H1 : Hid _ := fun W => float4_any n W
      have H2 : Hid _ := fun W => floatU4_any u W
      have H3 : Hid _ := fun W => refFloat4 n W hn0 (by omega)
      have H4 : Hid _ := fun W => refFloatU4 u W hu0 (by omega)
      generalize single.nearest (n < 0) n.natAbs 0 = v at *
      generalize single.nearest (u < 0) u.natAbs 0 = v2 at *
      go_enter Try.func7, Try.ntmps7
      go_wp2_with (first | (go_at_call 20; refine Calls.mono (H1.out _) ?_; rintro e w1 ⟨rfl, rfl⟩) | (go_at_call 21; refine Calls.mono (H2.out _) ?_; rintro e w2 ⟨rfl, rfl⟩) | (go_at_call 22; refine Calls.mono (H3.out _) ?_; rintro e w3 ⟨rfl, hb3⟩) | (go_at_call 23; refine Calls.mono (H4.out _) ?_; rintro e w4 ⟨rfl, hb4⟩) | (go_at_call 13; refine (lives_any _).mono ?_; rintro e w5 ⟨rfl, hb5⟩))
      go_ret
      exact ⟨rfl, ‹Below w2.heap.size w2 w3›.trans ((‹Below w3.heap.size w3 w4›.trans (‹Below w4.heap.size w4 w5›.mono ‹Below w3.heap.size w3 w4›.size)).mono ‹Below w2.heap.size w2 w3›.size)⟩
    · go_enter Try.func7, Try.ntmps7
      go_wp2_with (first | (go_at_call 20; refine (float_no _ _ _ h4 h8).mono ?_; rintro e w1 ⟨rfl, rfl⟩) | (go_at_call 21; refine (floatU_no _ _ _ h4 h8).mono ?_; rintro e w2 ⟨rfl, rfl⟩) | (go_at_call 22; refine (refFloat_no _ _ _ h4 h8).mono ?_; rintro e w3 ⟨rfl, rfl⟩) | (go_at_call 23; refine (refFloatU_no _ _ _ h4 h8).mono ?_; rintro e w4 ⟨rfl, rfl⟩) | (go_at_call 13; refine (lives_any _).mono ?_; rintro e w5 ⟨rfl, hb5⟩))
      go_ret
      exact ⟨rfl, by assumption⟩
end Go.Proofs.Ytanchgbpnioomaa

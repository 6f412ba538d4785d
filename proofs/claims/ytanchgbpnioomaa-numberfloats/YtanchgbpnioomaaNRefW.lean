/-
  The document's Other, Widen, Narrow, Float and FloatUint; the laws NumberWidens, NumberNarrows and NumberFloats walked. No conditions but that the arguments fit their kinds.
-/
import Derived.Test.YtanchgbpnioomaaNRoundA
import Derived.Test.YtanchgbpnioomaaNRefT
import Derived.OpenShut
namespace Go.Proofs.Ytanchgbpnioomaa
open Go.RowKit Ieee
set_option linter.unusedVariables false
set_option maxRecDepth 100000
set_option maxHeartbeats 1000000

theorem plain8 (W : World) : Calls Try.prog 44 #[.int .i64 8] W fun e w' => e = .returned (.int .u64 9221120237041090560) ∧ w' = W := by
  go_enter Try.func44, Try.ntmps44
  go_wp2
  go_ret
  exact ⟨rfl, rfl⟩
theorem plain4 (W : World) : Calls Try.prog 44 #[.int .i64 4] W fun e w' => e = .returned (.int .u64 2143289344) ∧ w' = W := by
  go_enter Try.func44, Try.ntmps44
  go_wp2
  go_ret
  exact ⟨rfl, rfl⟩
theorem far8 (s : Bool) : double.nearest s 1 2000 = double.word s double.infRung := by cases s <;> decide +kernel
theorem far4 (s : Bool) : single.nearest s 1 2000 = single.word s single.infRung := by cases s <;> decide +kernel
theorem round_far8 (s : Bool) (W : World) : Calls Try.prog 42 #[.bool s, .int .u64 1, .int .i64 2000, .int .i64 8] W fun e w' => e = .returned (.int .u64 (double.word s double.infRung : Nat)) ∧ Below W.heap.size W w' := by
  have := round8 s 1 2000 W (by decide) (by decide) (by decide)
  rw [far8] at this; exact this
theorem round_far4 (s : Bool) (W : World) : Calls Try.prog 42 #[.bool s, .int .u64 1, .int .i64 2000, .int .i64 4] W fun e w' => e = .returned (.int .u64 (single.word s single.infRung : Nat)) ∧ Below W.heap.size W w' := by
  have := round4 s 1 2000 W (by decide) (by decide) (by decide)
  rw [far4] at this; exact this

theorem refWiden_any (b : Int) (W : World) (h0 : 0 ≤ b) (h1 : b < 4294967296) : Calls Try.prog 17 #[.int .u32 b] W fun e w' => e = .returned (.int .u64 (wdV b.toNat : Nat)) ∧ Below W.heap.size W w' := by
  have hw : IntKind.u64.wrap b = b := by simp [IntKind.wrap, IntKind.bits, IntKind.signed]; omega
  have HO : Hid (∀ W, Calls Try.prog 38 #[.int .u64 b, .int .i64 4, .int .i64 8] W fun e w' => e = .returned (.int .u64 (wdV b.toNat : Nat)) ∧ Below W.heap.size W w') := fun W => by
    have HA : Hid _ := fun W => apart4 b W h0 h1
    unfold wdV
    cases hd : single.read b.toNat with
    | nan t f =>
      have HA2 : Hid (∀ W, Calls Try.prog 34 #[.int .u64 b, .int .i64 4] W fun e w' => e = .returned (.tuple #[.int .i64 2, .bool t, .int .u64 0, .int .i64 0]) ∧ Below W.heap.size W w') := fun W => by have := HA.out W; rw [hd] at this; exact this
      clear HA hd
      go_enter Try.func38, Try.ntmps38
      go_wp2_with (first | (go_at_call 34; refine Calls.mono (HA2.out _) ?_; rintro e w2 ⟨rfl, hb⟩) | (go_at_call 44; refine (plain8 _).mono ?_; rintro e w3 ⟨rfl, rfl⟩))
      go_ret
      exact ⟨rfl, by assumption⟩
    | infinity t =>
      have HA2 : Hid (∀ W, Calls Try.prog 34 #[.int .u64 b, .int .i64 4] W fun e w' => e = .returned (.tuple #[.int .i64 1, .bool t, .int .u64 0, .int .i64 0]) ∧ Below W.heap.size W w') := fun W => by have := HA.out W; rw [hd] at this; exact this
      clear HA hd
      go_enter Try.func38, Try.ntmps38
      go_wp2_with (first | (go_at_call 34; refine Calls.mono (HA2.out _) ?_; rintro e w2 ⟨rfl, hb⟩) | (go_at_call 42; refine (round_far8 _ _).mono ?_; rintro e w3 ⟨rfl, hb3⟩))
      go_ret
      exact ⟨rfl, ‹Below W.heap.size W w2›.trans (‹Below w2.heap.size w2 w3›.mono ‹Below W.heap.size W w2›.size)⟩
    | number t m e =>
      obtain ⟨p1, p2, p3⟩ := read_place _ (.inl rfl) _ hd
      have hm : m < 18446744073709551616 := by rw [single_bin] at p3; omega
      have HA2 : Hid (∀ W, Calls Try.prog 34 #[.int .u64 b, .int .i64 4] W fun e' w' => e' = .returned (.tuple #[.int .i64 0, .bool t, .int .u64 (m : Int), .int .i64 e]) ∧ Below W.heap.size W w') := fun W => by have := HA.out W; rw [hd] at this; exact this
      have HR : Hid (∀ W, Calls Try.prog 42 #[.bool t, .int .u64 (m : Int), .int .i64 e, .int .i64 8] W fun e' w' => e' = .returned (.int .u64 (double.nearest t m e : Nat)) ∧ Below W.heap.size W w') := fun W => round8 t m e W hm p1 (by omega)
      clear HA hd p1 p2 p3 hm
      show Calls Try.prog 38 _ W fun e' w' => e' = .returned (.int .u64 (double.nearest t m e : Nat)) ∧ Below W.heap.size W w'
      generalize double.nearest t m e = v at *
      go_enter Try.func38, Try.ntmps38
      go_wp2_with (first | (go_at_call 34; refine Calls.mono (HA2.out _) ?_; rintro e w2 ⟨rfl, hb⟩) | (go_at_call 42; refine Calls.mono (HR.out _) ?_; rintro e w3 ⟨rfl, hb3⟩))
      go_ret
      exact ⟨rfl, ‹Below W.heap.size W w2›.trans (‹Below w2.heap.size w2 w3›.mono ‹Below W.heap.size W w2›.size)⟩
  generalize wdV b.toNat = v at *
  go_enter Try.func17, Try.ntmps17
  go_wp2_with (go_at_call 38; refine Calls.mono (HO.out _) ?_; rintro e w2 ⟨rfl, hb⟩)
  go_ret
  exact ⟨rfl, by assumption⟩
theorem nwV_lt (c : Nat) : nwV c < 4294967296 := by
  unfold nwV
  split
  · decide
  · exact single.write_lt _
theorem refNarrow_any (b : Int) (W : World) (h0 : 0 ≤ b) (h1 : b < 18446744073709551616) : Calls Try.prog 19 #[.int .u64 b] W fun e w' => e = .returned (.int .u32 (nwV b.toNat : Nat)) ∧ Below W.heap.size W w' := by
  have hlt := nwV_lt b.toNat
  have HO : Hid (∀ W, Calls Try.prog 38 #[.int .u64 b, .int .i64 8, .int .i64 4] W fun e w' => e = .returned (.int .u64 (nwV b.toNat : Nat)) ∧ Below W.heap.size W w') := fun W => by
    have HA : Hid _ := fun W => apart8 b W h0 h1
    unfold nwV
    cases hd : double.read b.toNat with
    | nan t f =>
      have HA2 : Hid (∀ W, Calls Try.prog 34 #[.int .u64 b, .int .i64 8] W fun e w' => e = .returned (.tuple #[.int .i64 2, .bool t, .int .u64 0, .int .i64 0]) ∧ Below W.heap.size W w') := fun W => by have := HA.out W; rw [hd] at this; exact this
      clear HA hd
      go_enter Try.func38, Try.ntmps38
      go_wp2_with (first | (go_at_call 34; refine Calls.mono (HA2.out _) ?_; rintro e w2 ⟨rfl, hb⟩) | (go_at_call 44; refine (plain4 _).mono ?_; rintro e w3 ⟨rfl, rfl⟩))
      go_ret
      exact ⟨rfl, by assumption⟩
    | infinity t =>
      have HA2 : Hid (∀ W, Calls Try.prog 34 #[.int .u64 b, .int .i64 8] W fun e w' => e = .returned (.tuple #[.int .i64 1, .bool t, .int .u64 0, .int .i64 0]) ∧ Below W.heap.size W w') := fun W => by have := HA.out W; rw [hd] at this; exact this
      clear HA hd
      go_enter Try.func38, Try.ntmps38
      go_wp2_with (first | (go_at_call 34; refine Calls.mono (HA2.out _) ?_; rintro e w2 ⟨rfl, hb⟩) | (go_at_call 42; refine (round_far4 _ _).mono ?_; rintro e w3 ⟨rfl, hb3⟩))
      go_ret
      exact ⟨rfl, ‹Below W.heap.size W w2›.trans (‹Below w2.heap.size w2 w3›.mono ‹Below W.heap.size W w2›.size)⟩
    | number t m e =>
      obtain ⟨p1, p2, p3⟩ := read_place _ (.inr rfl) _ hd
      have hm : m < 18446744073709551616 := by rw [double_bin] at p3; omega
      have HA2 : Hid (∀ W, Calls Try.prog 34 #[.int .u64 b, .int .i64 8] W fun e' w' => e' = .returned (.tuple #[.int .i64 0, .bool t, .int .u64 (m : Int), .int .i64 e]) ∧ Below W.heap.size W w') := fun W => by have := HA.out W; rw [hd] at this; exact this
      have HR : Hid (∀ W, Calls Try.prog 42 #[.bool t, .int .u64 (m : Int), .int .i64 e, .int .i64 4] W fun e' w' => e' = .returned (.int .u64 (single.nearest t m e : Nat)) ∧ Below W.heap.size W w') := fun W => round4 t m e W hm p1 (by omega)
      clear HA hd p1 p2 p3 hm
      show Calls Try.prog 38 _ W fun e' w' => e' = .returned (.int .u64 (single.nearest t m e : Nat)) ∧ Below W.heap.size W w'
      generalize single.nearest t m e = v at *
      go_enter Try.func38, Try.ntmps38
      go_wp2_with (first | (go_at_call 34; refine Calls.mono (HA2.out _) ?_; rintro e w2 ⟨rfl, hb⟩) | (go_at_call 42; refine Calls.mono (HR.out _) ?_; rintro e w3 ⟨rfl, hb3⟩))
      go_ret
      exact ⟨rfl, ‹Below W.heap.size W w2›.trans (‹Below w2.heap.size w2 w3›.mono ‹Below W.heap.size W w2›.size)⟩
  generalize nwV b.toNat = v at *
  have hw : IntKind.u32.wrap (v : Int) = v := by simp [IntKind.wrap, IntKind.bits, IntKind.signed]; omega
  go_enter Try.func19, Try.ntmps19
  go_wp2_with (go_at_call 38; refine Calls.mono (HO.out _) ?_; rintro e w2 ⟨rfl, hb⟩)
  go_ret
  exact ⟨rfl, by assumption⟩

theorem numberWidens_walk (b : Int) (W : World) (w0 : (Lit.int .u32 b).wf = true) :
    Calls Try.prog 5 #[.int .u32 b] W fun e w' => e = .returned (.bool true) ∧ Below W.heap.size W w' := by
  obtain ⟨hb0, hb1⟩ := bounds_u32 w0
  have H1 : Hid _ := fun W => widen_any b W hb0 (by omega)
  have H2 : Hid _ := fun W => refWiden_any b W hb0 (by omega)
  clear w0 hb0 hb1
  generalize wdV b.toNat = v at *
  go_enter Try.func5, Try.ntmps5
  go_wp2_with (first | (go_at_call 16; refine Calls.mono (H1.out _) ?_; rintro e w2 ⟨rfl, hb2⟩) | (go_at_call 17; refine Calls.mono (H2.out _) ?_; rintro e w3 ⟨rfl, hb3⟩) | (go_at_call 13; refine (lives_any _).mono ?_; rintro e w4 ⟨rfl, hb4⟩))
  go_ret
  exact ⟨rfl, (‹Below W.heap.size W w2›).trans ((‹Below w2.heap.size w2 w3›.trans (‹Below w3.heap.size w3 w4›.mono ‹Below w2.heap.size w2 w3›.size)).mono ‹Below W.heap.size W w2›.size)⟩
theorem numberNarrows_walk (b : Int) (W : World) (w0 : (Lit.int .u64 b).wf = true) :
    Calls Try.prog 6 #[.int .u64 b] W fun e w' => e = .returned (.bool true) ∧ Below W.heap.size W w' := by
  obtain ⟨hb0, hb1⟩ := bounds_u64 w0
  have H1 : Hid (∀ W, Calls Try.prog 18 #[.int .u64 b] W fun r w' => r = .returned (.int .u32 (nwV b.toNat : Nat)) ∧ w' = W) := fun W => by
    have := narrow_any b.toNat W (by omega)
    rwa [show ((b.toNat : Nat) : Int) = b from by omega] at this
  have H2 : Hid _ := fun W => refNarrow_any b W hb0 (by omega)
  clear w0 hb0 hb1
  generalize nwV b.toNat = v at *
  go_enter Try.func6, Try.ntmps6
  go_wp2_with (first | (go_at_call 18; refine Calls.mono (H1.out _) ?_; rintro e w2 ⟨rfl, rfl⟩) | (go_at_call 19; refine Calls.mono (H2.out _) ?_; rintro e w3 ⟨rfl, hb3⟩) | (go_at_call 13; refine (lives_any _).mono ?_; rintro e w4 ⟨rfl, hb4⟩))
  go_ret
  exact ⟨rfl, (‹Below w2.heap.size w2 w3›.trans (‹Below w3.heap.size w3 w4›.mono ‹Below w2.heap.size w2 w3›.size))⟩
end Go.Proofs.Ytanchgbpnioomaa

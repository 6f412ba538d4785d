/-
  The law NumberBack walked. No conditions but that the arguments fit their kinds.
-/
import Derived.Test.YtanchgbpnioomabFBack
import Derived.Test.YtanchgbpnioomabOrderWalk10
namespace Go.Proofs.Ytanchgbpnioomab
open Go.RowKit Ieee
set_option linter.unusedVariables false
set_option maxRecDepth 100000
set_option maxHeartbeats 1000000

theorem near_lt (f : Format) (hf : f = single ∨ f = double) (s : Bool) (m : Nat) (e : Int) : f.nearest s m e < 18446744073709551616 := by
  have := f.nearest_lt s m e
  rcases hf with rfl | rfl
  · have e1 : 2 ^ single.width = 4294967296 := by decide
    omega
  · have e1 : 2 ^ double.width = 18446744073709551616 := by decide
    omega
theorem near4_lt (s : Bool) (m : Nat) (e : Int) : single.nearest s m e < 4294967296 := by
  have := single.nearest_lt s m e
  have e1 : 2 ^ single.width = 4294967296 := by decide
  omega
theorem numberBack_walk (n b : Int) (W : World) (w0 : (Lit.int .i64 n).wf = true) (w1 : (Lit.int .u32 b).wf = true) :
    Calls Try.prog 5 #[.int .i64 n, .int .u32 b] W fun e w' => e = .returned (.bool true) ∧ Below W.heap.size W w' := by
  obtain ⟨hn0, hn1⟩ := bounds_i64 w0
  obtain ⟨hb0, hb1⟩ := bounds_u32 w1
  clear w0 w1
  obtain ⟨m8, hm8⟩ : ∃ m, n.tmod 9007199254740993 = m := ⟨_, rfl⟩
  obtain ⟨m4, hm4⟩ : ∃ m, n.tmod 16777217 = m := ⟨_, rfl⟩
  have b8 : m8.natAbs ≤ 9007199254740992 := by
    rw [← hm8]; have := Int.natAbs_tmod n 9007199254740993
    have h2 := Nat.mod_lt n.natAbs (show 0 < (9007199254740993 : Int).natAbs by decide)
    have h3 : (9007199254740993 : Int).natAbs = 9007199254740993 := rfl
    omega
  have b4 : m4.natAbs ≤ 16777216 := by
    rw [← hm4]; have := Int.natAbs_tmod n 16777217
    have h2 := Nat.mod_lt n.natAbs (show 0 < (16777217 : Int).natAbs by decide)
    have h3 : (16777217 : Int).natAbs = 16777217 := rfl
    omega
  have hv8 := back_val double (.inr rfl) m8 (by rw [double_bin]; omega)
  have hv4 := back_val single (.inl rfl) m4 (by rw [single_bin]; omega)
  have hl8 := near_lt double (.inr rfl) (m8 < 0) m8.natAbs 0
  have hl4 := near4_lt (m4 < 0) m4.natAbs 0
  have F8 : Hid _ := fun W => float8_any m8 W
  have F4 : Hid _ := fun W => float4_any m4 W
  obtain ⟨x8, hx8⟩ : ∃ x, double.nearest (m8 < 0) m8.natAbs 0 = x := ⟨_, rfl⟩
  obtain ⟨x4, hx4⟩ : ∃ x, single.nearest (m4 < 0) m4.natAbs 0 = x := ⟨_, rfl⟩
  rw [hx8] at F8 hl8 hv8
  rw [hx4] at F4 hl4 hv4
  have T8 : Hid (∀ W, Calls Try.prog 17 #[.int .u64 (x8 : Int), .int .i64 8, .int .i64 8, .bool true] W fun e w' => e = .returned (.tuple #[.int .u64 (clV m8 8 true), .int .i64 0]) ∧ Below W.heap.size W w') := fun W => by
    have := trunc_yes (x8 : Int) 8 8 true W (by omega) (.inl rfl) (by decide) (by decide)
    rwa [fmt8, Int.toNat_natCast, hv8] at this
  have T4 : Hid (∀ W, Calls Try.prog 17 #[.int .u64 (x4 : Int), .int .i64 4, .int .i64 8, .bool true] W fun e w' => e = .returned (.tuple #[.int .u64 (clV m4 8 true), .int .i64 0]) ∧ Below W.heap.size W w') := fun W => by
    have := trunc_yes (x4 : Int) 4 8 true W (by omega) (.inr ⟨rfl, by omega⟩) (by decide) (by decide)
    rwa [fmt4, Int.toNat_natCast, hv4] at this
  have c8 := cl_eight (n := m8) (by omega) (by omega)
  have c4 := cl_eight (n := m4) (by omega) (by omega)
  have HNN : Hid (∀ W, Calls Try.prog 20 #[.int .u64 b, .int .i64 4] W fun e w' => e = .returned (.tuple #[.bool (nan4 b.toNat), .int .i64 0]) ∧ Below W.heap.size W w') := fun W => nan_yes b 4 W hb0 (.inr ⟨rfl, by omega⟩)
  have HWI : Hid _ := fun W => widen_any b W hb0 (by omega)
  have HNW : Hid (∀ W, Calls Try.prog 10 #[.int .u64 (wdV b.toNat : Nat)] W fun r w' => r = .returned (.int .u32 (nwV (wdV b.toNat) : Nat)) ∧ w' = W) := fun W => narrow_any (wdV b.toNat) W (by
    unfold wdV
    split
    · decide
    · have := double.write_lt (single.read b.toNat)
      have e1 : 2 ^ double.width = 18446744073709551616 := by decide
      omega)
  have HNB : nan4 b.toNat = false → Hid (nwV (wdV b.toNat) = b.toNat) := fun h => narrow_wide b.toNat (by omega) h
  have hwr : IntKind.u64.wrap b = b := by simp [IntKind.wrap, IntKind.bits, IntKind.signed]; omega
  clear hv8 hv4 hl8 hl4 hx8 hx4 b8 b4
  go_enter Try.func5, Try.ntmps5
  go_wp2
  go_loopw [5] (fun i wr => ∃ k : Nat, k ≤ 2 ∧ i = .int .i64 k ∧ Below W.heap.size W wr) (fun i _ => 2 - (intOf i).toNat)
  case atStart => exact ⟨0, by decide, rfl, Below.refl _ _⟩
  case round =>
    obtain ⟨k, hk, rfl, hbr⟩ := hrel
    have HBR : Hid (Below W.heap.size W wr) := hbr
    clear hbr
    by_cases hlt : k < 2
    · by_cases h0 : k = 0
      · subst h0
        go_wp2_with (first | (go_at_call 14; refine Calls.mono (F8.out _) ?_; rintro e w2 ⟨rfl, rfl⟩) | (go_at_call 17; refine Calls.mono (T8.out _) ?_; rintro e w3 ⟨rfl, hb3⟩))
        go_roundw
        case rel => exact ⟨1, by omega, by go_num, HBR.out.trans (‹Below w2.heap.size w2 w3›.mono HBR.out.size)⟩
        case measure => simp [intOf]
      · have h1 : k = 1 := by omega
        subst h1
        go_wp2_with (first | (go_at_call 14; refine Calls.mono (F4.out _) ?_; rintro e w2 ⟨rfl, rfl⟩) | (go_at_call 17; refine Calls.mono (T4.out _) ?_; rintro e w3 ⟨rfl, hb3⟩))
        go_roundw
        case rel => exact ⟨2, by omega, by go_num, HBR.out.trans (‹Below w2.heap.size w2 w3›.mono HBR.out.size)⟩
        case measure => simp [intOf]
    · cases hnan : nan4 b.toNat with
      | true =>
        rw [hnan] at HNN
        clear HWI HNW HNB hnan
        go_wp2_with (first | (go_at_call 20; refine Calls.mono (HNN.out _) ?_; rintro e w2 ⟨rfl, hb2⟩) | (go_at_call 16; refine (lives_any _).mono ?_; rintro e w3 ⟨rfl, hb3⟩))
        go_ret
        exact ⟨rfl, HBR.out.trans ((‹Below wr.heap.size wr w2›.trans (‹Below w2.heap.size w2 w3›.mono ‹Below wr.heap.size wr w2›.size)).mono HBR.out.size)⟩
      | false =>
        have HB := HNB hnan
        rw [hnan] at HNN
        have hbt : ((b.toNat : Nat) : Int) = b := by omega
        rw [HB.out, hbt] at HNW
        clear HNB hnan HB
        generalize wdV b.toNat = v at *
        go_wp2_with (first | (go_at_call 20; refine Calls.mono (HNN.out _) ?_; rintro e w2 ⟨rfl, hb2⟩) | (go_at_call 12; refine Calls.mono (HWI.out _) ?_; rintro e w3 ⟨rfl, hb3⟩) | (go_at_call 10; refine Calls.mono (HNW.out _) ?_; rintro e w4 ⟨rfl, rfl⟩) | (go_at_call 16; refine (lives_any _).mono ?_; rintro e w5 ⟨rfl, hb5⟩))
        go_ret
        exact ⟨rfl, HBR.out.trans ((‹Below wr.heap.size wr w2›.trans ((‹Below w2.heap.size w2 w4›.trans (‹Below w4.heap.size w4 w5›.mono ‹Below w2.heap.size w2 w4›.size)).mono ‹Below wr.heap.size wr w2›.size)).mono HBR.out.size)⟩
end Go.Proofs.Ytanchgbpnioomab

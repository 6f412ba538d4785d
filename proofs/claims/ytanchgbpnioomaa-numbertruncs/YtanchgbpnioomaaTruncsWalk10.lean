/-
  The law NumberTruncs walked. No conditions but that the arguments fit their kinds.
-/
import Derived.Test.YtanchgbpnioomaaNRefU
namespace Go.Proofs.Ytanchgbpnioomaa
open Go.RowKit Ieee
set_option linter.unusedVariables false
set_option maxRecDepth 100000
set_option maxHeartbeats 1000000

theorem numberTruncs_walk (b n w : Int) (W : World) (w0 : (Lit.int .u64 b).wf = true) (w1 : (Lit.int .i64 n).wf = true) (w2 : (Lit.int .i64 w).wf = true) :
    Calls Try.prog 4 #[.int .u64 b, .int .i64 n, .int .i64 w] W fun e w' => e = .returned (.bool true) ∧ Below W.heap.size W w' := by
  obtain ⟨hb0, hb1⟩ := bounds_u64 w0
  have hb2 : b < 18446744073709551616 := by omega
  clear w0 w1 w2 hb1
  rcases wOk_cases w with ⟨_, h1, h2⟩ | ⟨_, h⟩
  · by_cases hn : n = 8 ∨ (n = 4 ∧ b < 4294967296)
    · obtain ⟨V, hV⟩ : ∃ V : Bool → Int, ∀ s, V s = trV ((fmt n).read b.toNat) w s := ⟨_, fun _ => rfl⟩
      have H1 : Hid (∀ s W, Calls Try.prog 14 #[.int .u64 b, .int .i64 n, .int .i64 w, .bool s] W fun e w' => e = .returned (.tuple #[.int .u64 (V s), .int .i64 0]) ∧ Below W.heap.size W w') := fun s W => by rw [hV]; exact trunc_yes b n w s W hb0 hn h1 h2
      have H2 : Hid (∀ s W, Calls Try.prog 15 #[.int .u64 b, .int .i64 n, .int .i64 w, .bool s] W fun e w' => e = .returned (.tuple #[.int .u64 (V s), .int .i64 0]) ∧ Below W.heap.size W w') := fun s W => by rw [hV]; exact refTrunc_yes b n w s W hb0 hb2 hn h1 h2
      clear hn hV
      go_enter Try.func4, Try.ntmps4
      go_wp2
      go_loopw [7] (fun i wr => ∃ k : Nat, k ≤ 2 ∧ i = .int .i64 k ∧ Below W.heap.size W wr) (fun i _ => 2 - (intOf i).toNat)
      case atStart => exact ⟨0, by decide, rfl, Below.refl _ _⟩
      case round =>
        obtain ⟨k, hk, rfl, hbr⟩ := hrel
        have HBR : Hid (Below W.heap.size W wr) := hbr
        clear hbr
        by_cases hlt : k < 2
        · go_wp2_with (first | (go_at_call 14; refine Calls.mono (H1.out _ _) ?_; rintro e w2 ⟨rfl, hb2⟩) | (go_at_call 15; refine Calls.mono (H2.out _ _) ?_; rintro e w3 ⟨rfl, hb3⟩))
          go_roundw
          case rel => exact ⟨k + 1, by omega, by go_num, HBR.out.trans ((‹Below wr.heap.size wr w2›.trans (‹Below w2.heap.size w2 w3›.mono ‹Below wr.heap.size wr w2›.size)).mono HBR.out.size)⟩
          case measure => simp [intOf]; omega
        · go_wp2_with (go_at_call 13; refine (lives_any _).mono ?_; rintro e w2 ⟨rfl, hb2⟩)
          go_ret
          exact ⟨rfl, HBR.out.trans (‹Below wr.heap.size wr w2›.mono HBR.out.size)⟩
    · by_cases h4 : n = 4
      · subst h4
        have hbig : 4294967296 ≤ b := by omega
        clear hn
        go_enter Try.func4, Try.ntmps4
        go_wp2
        go_loopw [7] (fun i wr => ∃ k : Nat, k ≤ 2 ∧ i = .int .i64 k ∧ Below W.heap.size W wr) (fun i _ => 2 - (intOf i).toNat)
        case atStart => exact ⟨0, by decide, rfl, Below.refl _ _⟩
        case round =>
          obtain ⟨k, hk, rfl, hbr⟩ := hrel
          have HBR : Hid (Below W.heap.size W wr) := hbr
          clear hbr
          by_cases hlt : k < 2
          · go_wp2_with (first | (go_at_call 14; refine (trunc_big _ _ _ _ h1 h2 hbig).mono ?_; rintro e w2 ⟨rfl, rfl⟩) | (go_at_call 15; refine (refTrunc_big _ _ _ _ h1 h2 hbig).mono ?_; rintro e w3 ⟨rfl, rfl⟩))
            go_roundw
            case rel => exact ⟨k + 1, by omega, by go_num, HBR.out⟩
            case measure => simp [intOf]; omega
          · go_wp2_with (go_at_call 13; refine (lives_any _).mono ?_; rintro e w2 ⟨rfl, hb2⟩)
            go_ret
            exact ⟨rfl, HBR.out.trans (‹Below wr.heap.size wr w2›.mono HBR.out.size)⟩
      · have h8 : n ≠ 8 := by omega
        have HR : Hid ((n ≠ 4 ∧ n ≠ 8) ∨ w < 1 ∨ 8 < w) := .inl ⟨h4, h8⟩
        clear hn
        go_enter Try.func4, Try.ntmps4
        go_wp2
        go_loopw [7] (fun i wr => ∃ k : Nat, k ≤ 2 ∧ i = .int .i64 k ∧ Below W.heap.size W wr) (fun i _ => 2 - (intOf i).toNat)
        case atStart => exact ⟨0, by decide, rfl, Below.refl _ _⟩
        case round =>
          obtain ⟨k, hk, rfl, hbr⟩ := hrel
          have HBR : Hid (Below W.heap.size W wr) := hbr
          clear hbr
          by_cases hlt : k < 2
          · go_wp2_with (first | (go_at_call 14; refine (trunc_from _ _ _ _ _ h1 h2 h4 h8).mono ?_; rintro e w2 ⟨rfl, rfl⟩) | (go_at_call 15; refine (refTrunc_no _ _ _ _ _ HR.out).mono ?_; rintro e w3 ⟨rfl, rfl⟩))
            go_roundw
            case rel => exact ⟨k + 1, by omega, by go_num, HBR.out⟩
            case measure => simp [intOf]; omega
          · go_wp2_with (go_at_call 13; refine (lives_any _).mono ?_; rintro e w2 ⟨rfl, hb2⟩)
            go_ret
            exact ⟨rfl, HBR.out.trans (‹Below wr.heap.size wr w2›.mono HBR.out.size)⟩
  · have HH : Hid (w < 1 ∨ 8 < w) := h
    have HR : Hid ((n ≠ 4 ∧ n ≠ 8) ∨ w < 1 ∨ 8 < w) := .inr h
    clear h
    go_enter Try.func4, Try.ntmps4
    go_wp2
    go_loopw [7] (fun i wr => ∃ k : Nat, k ≤ 2 ∧ i = .int .i64 k ∧ Below W.heap.size W wr) (fun i _ => 2 - (intOf i).toNat)
    case atStart => exact ⟨0, by decide, rfl, Below.refl _ _⟩
    case round =>
      obtain ⟨k, hk, rfl, hbr⟩ := hrel
      have HBR : Hid (Below W.heap.size W wr) := hbr
      clear hbr
      by_cases hlt : k < 2
      · go_wp2_with (first | (go_at_call 14; refine (trunc_no _ _ _ _ _ HH.out).mono ?_; rintro e w2 ⟨rfl, rfl⟩) | (go_at_call 15; refine (refTrunc_no _ _ _ _ _ HR.out).mono ?_; rintro e w3 ⟨rfl, rfl⟩))
        go_roundw
        case rel => exact ⟨k + 1, by omega, by go_num, HBR.out⟩
        case measure => simp [intOf]; omega
      · go_wp2_with (go_at_call 13; refine (lives_any _).mono ?_; rintro e w2 ⟨rfl, hb2⟩)
        go_ret
        exact ⟨rfl, HBR.out.trans (‹Below wr.heap.size wr w2›.mono HBR.out.size)⟩
end Go.Proofs.Ytanchgbpnioomaa

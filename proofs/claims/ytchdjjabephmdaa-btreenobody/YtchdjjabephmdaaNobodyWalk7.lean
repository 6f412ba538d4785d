/-
  The walk of BtreeNobody. Conditions: none.
-/
import Derived.Test.YtchdjjabephmdaaBLives
namespace Go.Proofs.Ytchdjjabephmdaa
open Go.RowKit
set_option linter.unusedVariables false
set_option maxRecDepth 100000

set_option maxHeartbeats 4000000 in
theorem btreeNobody_walk (k : ByteArray) (x : Int) (w : World) (hk : k.size ≤ maxLen) (hx : (Lit.int .u64 x).wf = true) : Calls Try.prog 5 #[.string k, .int .u64 x] w fun e w' => e = .returned (.bool true) ∧ Below w.heap.size w w' := by
  go_enter Try.func5, Try.ntmps5
  go_wp2_with fail
  obtain ⟨w0, HW⟩ : ∃ w0, Hid (w.alloc (.cells #[.nilFunc, .nilFunc, .int .i64 0, .pointer none] 54) = w0) := ⟨_, rfl⟩
  have HB : Hid (Below w.heap.size w (w.alloc (.cells #[.nilFunc, .nilFunc, .int .i64 0, .pointer none] 54))) := (Below.refl _ _).alloc (Nat.le_refl _) _
  have HC : Hid ((w.alloc (.cells #[.nilFunc, .nilFunc, .int .i64 0, .pointer none] 54)).cell? ⟨w.heap.size, 3, none⟩ = some (.pointer none)) := by unfold Hid; simp
  rw [HW.out] at HB HC ⊢
  go_loopw [7] (fun y wr => ∃ i : Nat, i ≤ 2 ∧ y = .int .i64 (i : Int) ∧ wr = w0) (fun y _ => 2 - (intOf y).toNat)
  case atStart => exact ⟨0, by omega, by simp, rfl⟩
  case round =>
    obtain ⟨i, hi, rfl, rfl⟩ := hrel
    rcases (show i = 0 ∨ i = 1 ∨ i = 2 by omega) with rfl | rfl | rfl
    · have HNO : Hid (NoTree wr (.pointer none)) := .inl rfl
      go_wp2_with (first
        | (go_at_call 10; refine (put_no _ k x _ HNO.out).mono ?_; rintro e w1 ⟨rfl, hw1⟩; obtain rfl := hw1.symm)
        | (go_at_call 12; refine (get_no _ k _ HNO.out).mono ?_; rintro e w1 ⟨rfl, hw1⟩; obtain rfl := hw1.symm)
        | (go_at_call 14; refine (drop_no _ k _ HNO.out).mono ?_; rintro e w1 ⟨rfl, hw1⟩; obtain rfl := hw1.symm)
        | (go_at_call 16; refine (len_no _ _ HNO.out).mono ?_; rintro e w1 ⟨rfl, hw1⟩; obtain rfl := hw1.symm)
        | (go_at_call 17; refine (keys_no _ _ HNO.out).mono ?_; rintro e w1 ⟨rfl, hw1⟩; obtain rfl := hw1.symm)
        | (go_at_call 19; refine (span_no _ _ k _ HNO.out).mono ?_; rintro e w1 ⟨rfl, hw1⟩; obtain rfl := hw1.symm)
        | (go_at_call 25; refine (nodes_no _ _ HNO.out).mono ?_; rintro e w1 ⟨rfl, hw1⟩; obtain rfl := hw1.symm))
      go_roundw
      case rel => exact ⟨1, by omega, by simp, by trivial⟩
      case measure => simp [intOf]
    · have HNO : Hid (NoTree wr (.pointer (some ⟨w.heap.size, 0, none⟩))) := .inr ⟨_, rfl, HC.out⟩
      go_wp2_with (first
        | (go_at_call 10; refine (put_no _ k x _ HNO.out).mono ?_; rintro e w1 ⟨rfl, hw1⟩; obtain rfl := hw1.symm)
        | (go_at_call 12; refine (get_no _ k _ HNO.out).mono ?_; rintro e w1 ⟨rfl, hw1⟩; obtain rfl := hw1.symm)
        | (go_at_call 14; refine (drop_no _ k _ HNO.out).mono ?_; rintro e w1 ⟨rfl, hw1⟩; obtain rfl := hw1.symm)
        | (go_at_call 16; refine (len_no _ _ HNO.out).mono ?_; rintro e w1 ⟨rfl, hw1⟩; obtain rfl := hw1.symm)
        | (go_at_call 17; refine (keys_no _ _ HNO.out).mono ?_; rintro e w1 ⟨rfl, hw1⟩; obtain rfl := hw1.symm)
        | (go_at_call 19; refine (span_no _ _ k _ HNO.out).mono ?_; rintro e w1 ⟨rfl, hw1⟩; obtain rfl := hw1.symm)
        | (go_at_call 25; refine (nodes_no _ _ HNO.out).mono ?_; rintro e w1 ⟨rfl, hw1⟩; obtain rfl := hw1.symm))
      go_roundw
      case rel => exact ⟨2, by omega, by simp, by trivial⟩
      case measure => simp [intOf]
    · go_wp2_with (go_at_call 9; refine (lives7_any _).mono ?_; rintro e w1 ⟨rfl, hb1⟩; have HB1 : Hid (Below w.heap.size w w1) := HB.out.trans (hb1.mono HB.out.size); clear hb1)
      go_ret
      exact ⟨rfl, HB1.out⟩
end Go.Proofs.Ytchdjjabephmdaa

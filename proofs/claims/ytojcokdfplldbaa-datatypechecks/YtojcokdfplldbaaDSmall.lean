/-
  The program's small functions over types: is a number within bounds, is a text a name. No conditions.
-/
import Derived.Test.YtojcokdfplldbaaDTy
import Derived.Laws.Externs
import Derived.Lib.Bytealg
import Derived.Lib.IndexLaws
namespace Go.Proofs.Ytojcokdfplldbaa
open Go.RowKit
set_option linter.unusedVariables false
set_option maxRecDepth 100000

theorem within_any (n a b : Int) (w : World) : Calls Try.prog 54 #[.int .i64 n, .int .i64 a, .int .i64 b] w fun e w' => e = .returned (.bool (decide (a ≤ n ∧ n ≤ b))) ∧ w' = w := by
  by_cases h1 : a ≤ n
  · have d1 : decide (a ≤ n) = true := decide_eq_true h1
    go_enter Try.func54, Try.ntmps54
    go_wp2_with fail
    go_ret
    exact ⟨by simp [h1], rfl⟩
  · have d1 : decide (a ≤ n) = false := decide_eq_false h1
    go_enter Try.func54, Try.ntmps54
    go_wp2_with fail
    go_ret
    exact ⟨by simp, rfl⟩
theorem idxLite_any (s : ByteArray) (c : Int) (w : World) : Calls Try.prog 101 #[.string s, .int .u8 c] w fun e w' => e = .returned (.int .i64 (Lib.indexByte s.data.toList c.toNat.toUInt8)) ∧ w' = w := by
  have hx : ∀ W : World, (callFunc 102 #[.string s, .int .u8 c]).run Try.prog W = .ok (.value (.int .i64 (Lib.indexByte s.data.toList c.toNat.toUInt8))) W := fun W => by
    rw [run_callFunc_extern Try.func102 (by kernel_rfl) (by kernel_rfl) (by kernel_rfl) (e := Extern.BytealgIndexByte.indexByte) (by kernel_rfl), Lib.run_indexByteString]
    rfl
  generalize Lib.indexByte s.data.toList c.toNat.toUInt8 = r at hx ⊢
  go_enter Try.func101, Try.ntmps101
  go_wp2
  go_ret
  exact ⟨rfl, rfl⟩
theorem idx_any (s : ByteArray) (c : Int) (w : World) : Calls Try.prog 100 #[.string s, .int .u8 c] w fun e w' => e = .returned (.int .i64 (Lib.indexByte s.data.toList c.toNat.toUInt8)) ∧ w' = w := by
  go_enter Try.func100, Try.ntmps100
  go_wp2_with (go_at_call 101; refine (idxLite_any s c _).mono ?_; rintro e w1 ⟨rfl, hw1⟩; obtain rfl := hw1.symm)
  go_ret
  exact ⟨rfl, rfl⟩
/-- Is a text a name? -/
def nameB (s : ByteArray) : Bool := decide (1 ≤ s.size ∧ s.size ≤ 64) && (!decide (s.toList = [46]) && (!decide (s.toList = [46, 46]) && (!(s.data.toList.contains 0) && !(s.data.toList.contains 47))))
theorem idx_neg (l : List UInt8) (c : UInt8) : decide (Lib.indexByte l c < 0) = !(l.contains c) := by
  by_cases h : Lib.indexByte l c < 0
  · have h1 : Lib.indexByte l c = -1 := by have := Lib.indexByte_ge l c; omega
    have h2 := Lib.indexByte_none h1
    have h3 : ¬ c ∈ l := fun hm => by
      obtain ⟨k, hk⟩ := List.mem_iff_getElem?.1 hm
      exact h2 k hk
    simp [h, h3]
  · obtain ⟨o, ho⟩ : ∃ o : Nat, Lib.indexByte l c = o := ⟨(Lib.indexByte l c).toNat, by omega⟩
    have h2 := (Lib.indexByte_some ho).1
    have h3 : c ∈ l := List.mem_of_getElem? h2
    simp [h, h3]
set_option maxHeartbeats 4000000 in
theorem isName_any (s : ByteArray) (w : World) : Calls Try.prog 91 #[.string s] w fun e w' => e = .returned (.bool (nameB s)) ∧ w' = w := by
  obtain ⟨n, hn⟩ : ∃ n, s.size = n := ⟨_, rfl⟩
  have h0 := idx_neg s.data.toList 0
  have h47 := idx_neg s.data.toList 47
  obtain ⟨c0, hc0⟩ : ∃ c, s.data.toList.contains 0 = c := ⟨_, rfl⟩
  obtain ⟨c1, hc1⟩ : ∃ c, s.data.toList.contains 47 = c := ⟨_, rfl⟩
  have HD : Hid (nameB s = (decide (1 ≤ n ∧ n ≤ 64) && (!decide (s.toList = [46]) && (!decide (s.toList = [46, 46]) && (!c0 && !c1))))) := by rw [Hid, nameB, hn, hc0, hc1]
  rw [hc0] at h0
  rw [hc1] at h47
  have HW : Hid (∀ w', Calls Try.prog 54 #[.int .i64 (n : Int), .int .i64 1, .int .i64 64] w' fun e w1 => e = .returned (.bool (decide (1 ≤ n ∧ n ≤ 64))) ∧ w1 = w') := fun w' => by
    have := within_any (n : Int) 1 64 w'
    rwa [show decide ((1 : Int) ≤ (n : Int) ∧ (n : Int) ≤ 64) = decide (1 ≤ n ∧ n ≤ 64) by congr 1; simp; omega] at this
  have HJ0 : Hid (∀ w', Calls Try.prog 100 #[.string s, .int .u8 0] w' fun e w1 => e = .returned (.int .i64 (Lib.indexByte s.data.toList 0)) ∧ w1 = w') := fun w' => idx_any s 0 w'
  have HJ1 : Hid (∀ w', Calls Try.prog 100 #[.string s, .int .u8 47] w' fun e w1 => e = .returned (.int .i64 (Lib.indexByte s.data.toList 47)) ∧ w1 = w') := fun w' => idx_any s 47 w'
  generalize Lib.indexByte s.data.toList 0 = i0 at *
  generalize Lib.indexByte s.data.toList 47 = i1 at *
  obtain ⟨b, hb⟩ : ∃ b, decide (1 ≤ n ∧ n ≤ 64) = b := ⟨_, rfl⟩
  rw [hb] at HD HW
  clear hb hc0 hc1
  by_cases q1 : s.toList = [46] <;> by_cases q2 : s.toList = [46, 46] <;> cases b <;> cases c0 <;> cases c1 <;> simp only [q1, q2, decide_true, decide_false, Bool.not_true, Bool.not_false, Bool.and_true, Bool.and_false, Bool.false_and] at HD h0 h47
  all_goals
    go_enter Try.func91, Try.ntmps91
    go_wp2_with (first | (go_at_call 54; refine (HW.out _).mono ?_; rintro e w1 ⟨rfl, hw1⟩; obtain rfl := hw1.symm) | (go_at_call 100; first | (refine (HJ0.out _).mono ?_; rintro e w1 ⟨rfl, hw1⟩; obtain rfl := hw1.symm) | (refine (HJ1.out _).mono ?_; rintro e w1 ⟨rfl, hw1⟩; obtain rfl := hw1.symm)))
    go_ret
    exact ⟨by rw [HD.out]; first | rfl | simp [q1, q2], rfl⟩
end Go.Proofs.Ytojcokdfplldbaa

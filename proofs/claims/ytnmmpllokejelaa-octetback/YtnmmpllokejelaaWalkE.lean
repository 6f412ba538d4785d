/-
  The law's own examples hold (lives). No conditions.
-/
import Derived.Test.YtnmmpllokejelaaWalkD
namespace Go.Proofs.Ytnmmpllokejelaa
open Go.RowKit
set_option linter.unusedVariables false

theorem lives_put (w : World) : Calls Try.prog 10 #[.slice none 0 0, .int .i64 2, .bool true, .int .u64 258] w fun e w' =>
    e = .returned (.tuple #[.slice (some ⟨w.heap.size, 0, none⟩) 2 2, .int .i64 0]) ∧ Bs w' (.slice (some ⟨w.heap.size, 0, none⟩) 2 2) [1, 2] ∧ Below w.heap.size w w' := by
  refine (put_yes (.slice none 0 0) [] 258 2 true w (Bs.nil w) (by simp) (by decide) (by decide) (by decide)).mono fun e w' ⟨h1, h2, h3⟩ => ⟨h1, ?_, h3⟩
  have e : [] ++ dig2 true 258 2 = [1, 2] := by decide
  rw [e] at h2
  exact h2.whole
theorem lives_signed (w : World) : Calls Try.prog 17 #[.int .u64 255, .int .i64 1] w fun e w' => e = .returned (.tuple #[.int .i64 (-1), .int .i64 0]) ∧ w' = w :=
  signed_yes 255 1 w (by decide) (by decide) (by decide)

theorem lives_any (w : World) : Calls Try.prog 14 #[] w fun e w' => e = .returned (.bool true) ∧ Below w.heap.size w w' := by
  have ht : ((strOfNums [1, 2]).toList == [1, 2]) = true := by rw [ByteArray.toList_eq, strOfNums_data]; decide
  go_enter Try.func14, Try.ntmps14
  go_wp2_with (first | (go_at_call 10; refine (lives_put _).mono ?_; rintro e w1 ⟨rfl, hb1, hl1⟩; have hs1 := Bs.str (P := Try.prog) hb1 Try.underlying22 Try.underlying5 (dst := 9) Try.underlying9) | (go_at_call 17; refine (lives_signed _).mono ?_; rintro e w2 ⟨rfl, rfl⟩))
  go_ret
  exact ⟨rfl, by assumption⟩
end Go.Proofs.Ytnmmpllokejelaa

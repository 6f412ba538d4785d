/-
  Walks of octet's Put, readDigits, isPlace, Get, Swap. Conditions: lengths within the machine's bounds.
-/
import Derived.Test.YtfnnomjeoaoepaaWalkB
namespace Go.Proofs.Ytfnnomjeoaoepaa
open Go.RowKit
set_option linter.unusedVariables false
set_option maxRecDepth 100000

/-- Put refuses what is no number of the width. -/
theorem put_no (v : Value) (u n : Int) (big : Bool) (w : World) (hu0 : 0 ≤ u) (hu1 : u < 18446744073709551616) (hE : (numErr u n != 0) = true) :
    Calls Try.prog 38 #[v, .int .i64 n, .bool big, .int .u64 u] w fun e w' => e = .returned (.tuple #[.slice none 0 0, .int .i64 (numErr u n)]) ∧ w' = w := by
  go_enter Try.func38, Try.ntmps38
  go_wp2_with (go_at_call 54; refine (numberError_any _ _ _ hu0 hu1).mono ?_; rintro e w' ⟨rfl, rfl⟩)
  go_ret2
  exact ⟨rfl, rfl⟩

/-- Put lays the digits behind a copy of the bytes. -/
theorem put_yes (v : Value) (l : List Int) (u : Int) (m : Nat) (big : Bool) (w : World) (hl : Bs w v l) (hb : l.length ≤ 140737488351232) (hu0 : 0 ≤ u) (hu1 : u < 18446744073709551616) (hE : numErr u m = 0) :
    Calls Try.prog 38 #[v, .int .i64 m, .bool big, .int .u64 u] w fun e w' =>
      e = .returned (.tuple #[.slice (some ⟨w.heap.size, 0, none⟩) (l.length + m) (l.length + m), .int .i64 0]) ∧ Row w' w.heap.size (l ++ dig2 big u m) ∧ Below w.heap.size w w' := by
  obtain ⟨h1, h2, _⟩ := numErr_zero hu0 hE
  have hl0 := hl
  obtain ⟨ao, cap, rfl, hc, hn, hcell⟩ := hl
  clear hcell hn
  go_enter Try.func38, Try.ntmps38
  go_wp2_with (first | (go_at_call 54; refine (numberError_any _ _ _ hu0 hu1).mono ?_; rintro e w' ⟨rfl, rfl⟩) | (go_at_call 55; refine (room_any _ l m _ hl0 (by omega)).mono ?_; rintro e w1 ⟨rfl, hr1, hb1⟩) | (go_at_call 56; refine (layDigits_any _ l.length m m big (l ++ List.replicate m 0) u _ (by assumption) (by simp) (by omega) hu0 hu1).mono ?_; rintro e w2 ⟨rfl, hr2, hg2⟩))
  go_ret2
  refine ⟨rfl, ?_, ?_⟩
  · have e : l ++ dig2 big u m = (l ++ List.replicate m 0).take l.length ++ (dig2 big u m ++ (l ++ List.replicate m 0).drop (l.length + m)) := by
      rw [List.take_left, List.drop_of_length_le (by simp), List.append_nil]
    rw [e]; exact hr2
  · exact hb1.grown hg2 hb1.size (fun k hk => by simp at hk; omega)

/-- A place in bytes, or right behind the last. -/
def pOk (n : Nat) (at_ : Int) : Bool := decide (0 ≤ at_) && decide (at_ ≤ n)
end Go.Proofs.Ytfnnomjeoaoepaa

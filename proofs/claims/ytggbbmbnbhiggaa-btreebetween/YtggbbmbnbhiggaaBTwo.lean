/-
  Two names in a leaf. Conditions: none.
-/
import Derived.Test.YtggbbmbnbhiggaaBNodes
namespace Go.Proofs.Ytggbbmbnbhiggaa
open Go.RowKit
set_option linter.unusedVariables false
set_option maxRecDepth 100000

abbrev sa : ByteArray := ⟨#[97]⟩
abbrev sb : ByteArray := ⟨#[98]⟩
theorem cmp_ab : cmpN sa sb = -1 := by kernel_rfl
theorem cmp_ba : cmpN sb sa = 1 := by kernel_rfl
theorem cmp_aa : cmpN sa sa = 0 := by kernel_rfl
theorem two_low (x y : Int) : Low [(sa, x), (sb, y)] sa := by
  intro i j a b hij ha hb hlt
  match j, hb with
  | 0, hb => omega
  | 1, hb => obtain rfl : (sb, y) = b := by simpa using hb
             have h1 : cmpN sb sa < 0 := hlt
             rw [cmp_ba] at h1; omega
  | j + 2, hb => simp at hb
theorem two_at (x y : Int) (i : Nat) (h : At [(sa, x), (sb, y)] sa i) : i = 0 := by
  rcases Nat.eq_zero_or_pos i with h0 | h0
  · exact h0
  · have h1 : cmpN sa sa < 0 := (h.2 0 (sa, x) rfl).1 h0
    rw [cmp_aa] at h1; omega
theorem two_is (x y : Int) : isAt [(sa, x), (sb, y)] sa 0 = true := by
  show (cmpN sa sa == 0) = true
  rw [cmp_aa]; rfl
theorem row_two {w : World} {B k : Nat} {T : TypeId} {v : Value} {xs : List Value} (h : w.ownsRow B T k v 2 xs) : ∃ g c, v = .slice (some ⟨g, 0, none⟩) 2 c := by
  rcases ownsRow_shape h with ⟨_, h0⟩ | ⟨g, c, e, _⟩
  · omega
  · exact ⟨g, c, e⟩
theorem node_cellsE {w : World} {B g cap : Nat} {T : TypeId} {a b c : Value} (h : w.ownsRow B T 3 (.slice (some ⟨g, 0, none⟩) 1 cap) 1 [a, b, c]) : w.cell? ⟨g, 1, none⟩ = some b ∧ w.cell? ⟨g, 2, none⟩ = some c ∧ 1 ≤ cap := by
  rcases ownsRow_shape h with ⟨h0, _⟩ | ⟨g', c', e, _, _, hle, _, _, hc⟩
  · cases h0
  · injection e with e1 _ e3
    obtain rfl : g = g' := by simpa using e1
    subst e3
    exact ⟨hc 1 b rfl, hc 2 c rfl, hle⟩
end Go.Proofs.Ytggbbmbnbhiggaa

/-
  The walk of the document's Good. Conditions: the numbers are ints, the list's length is one that memory bears.
-/
import Derived.Test.YtdalkjenjnalbaaDoorXGood
import Derived.Test.YtdalkjenjnalbaaDoorTail
import Derived.Shelf.SlSortCmp.QuietGrown
namespace Go.Proofs.YtdalkjenjnalbaaDoor
open Go.RowKit Go.Sort Go.Shelf Go.Lib
set_option linter.unusedVariables false
set_option maxRecDepth 100000

theorem refMay_eq (a b : Int) (w : World) (hx : EW (a, b)) :
    Calls Tryd.prog 55 #[.agg #[.int .i64 a, .int .i64 b]] w fun e w' => e = .returned (.bool (mayB (a, b))) ∧ ∃ q os', w' = grow (w.drewN q) os' := by
  obtain ⟨⟨a1, a2⟩, b1, b2⟩ := hx
  dsimp only at a1 a2 b1 b2
  have HA : Hid (∀ o, w.alloc o = grow (w.drewN 0) #[o]) := fun o => alloc_eq_grow w o
  by_cases h1 : 0 ≤ a
  · by_cases h2 : 0 ≤ b
    · by_cases h4 : a ≤ 4194304
      · by_cases h3 : b ≤ 4194304 - a
        · have H : Hid (mayB (a, b) = true) := by unfold Hid mayB; simp; omega
          go_enter Tryd.func55, Tryd.ntmps55
          go_wp2
          go_ret
          exact ⟨ret_boolX H.out.symm, 0, _, HA.out _⟩
        · have H : Hid (mayB (a, b) = false) := by unfold Hid mayB; simp; omega
          go_enter Tryd.func55, Tryd.ntmps55
          go_wp2
          go_ret
          exact ⟨ret_boolX H.out.symm, 0, _, HA.out _⟩
      · have H : Hid (mayB (a, b) = false) := by unfold Hid mayB; simp; omega
        go_enter Tryd.func55, Tryd.ntmps55
        go_wp2
        go_ret
        exact ⟨ret_boolX H.out.symm, 0, _, HA.out _⟩
    · have H : Hid (mayB (a, b) = false) := by unfold Hid mayB; simp; omega
      go_enter Tryd.func55, Tryd.ntmps55
      go_wp2
      go_ret
      exact ⟨ret_boolX H.out.symm, 0, _, HA.out _⟩
  · have H : Hid (mayB (a, b) = false) := by unfold Hid mayB; simp; omega
    go_enter Tryd.func55, Tryd.ntmps55
    go_wp2
    go_ret
    exact ⟨ret_boolX H.out.symm, 0, _, HA.out _⟩

theorem below_grown {w w' : World} {B : Nat} (h : Below B w w') (hB : B ≤ w'.heap.size) (n : Nat) (os : Array Obj) : Below B w (grow (w'.drewN n) os) :=
  ⟨h.os, h.tape, h.output, Nat.le_trans h.size (by simp), fun k hk => (heap_grow_old _ _ (by simp; omega)).trans (h.block k hk)⟩
theorem nextOf_take {l : List Ext} {p : Nat} (h : p < l.length) : nextOf (l.take (p + 1)) = (l.getD p (0, 0)).1 + (l.getD p (0, 0)).2 + 1 := by
  rw [take_snoc l h, nextOf_snoc]
theorem within_of_may {x : Ext} {size : Int} (h : mayB x = true) (hs : x.1 + x.2 ≤ size) : withinB x size = true := by
  have := mayB_iff.1 h
  unfold withinB; simp; omega

end Go.Proofs.YtdalkjenjnalbaaDoor

/-
  law.lives: the document's example. Conditions: none.
-/
import Derived.Test.YtggbbmbnbhiggaaBTwo
namespace Go.Proofs.Ytggbbmbnbhiggaa
open Go.RowKit
set_option linter.unusedVariables false
set_option maxRecDepth 100000

set_option maxHeartbeats 4000000 in
theorem lives7_any (w : World) : Calls Try.prog 9 #[] w fun e w' => e = .returned (.bool true) ∧ Below w.heap.size w w' := by
  have HN : Hid _ := newNames_any 3 w (by omega) (by omega)
  go_enter Try.func9, Try.ntmps9
  go_wp2_with (first
    | (go_at_call 8; have hg := B6; clear hg; refine (newNames_bad 2 _ (by omega)).mono ?_; rintro e w7 ⟨rfl, hw7⟩; obtain rfl := hw7.symm)
    | (go_at_call 8; refine Calls.mono HN.out ?_; rintro e w1 ⟨p, q, n, rfl, h1, h2⟩; have H1 : Hid (LT w1 w.heap.size p q n 3 0 (.slice none 0 0) []) := h1; have B1 : Hid (Below w.heap.size w w1) := h2; clear h1 h2)
    | (go_at_call 10; have hg := H3; clear hg; refine Calls.mono (put_same H3.out B3.out.size (by simp) sa 7 1 (two_low _ _) 0 rfl (two_at _ _) (two_is _ _)) ?_; rintro e w4 ⟨rfl, h1, h2⟩; have H4 : Hid (LT w4 w.heap.size p q n 3 2 vI3 [(sa, 7), (sb, 2)]) := h1; have B4 : Hid (Below w.heap.size w w4) := B3.out.trans h2; clear h1 h2)
    | (go_at_call 10; have hg := H2; clear hg; refine Calls.mono (put_end H2.out B2.out.size (by simp) sb (by simp [ByteArray.size]) 2 (by intro y hy; rw [List.mem_singleton.1 hy]; show cmpN sa sb < 0; rw [cmp_ab]; omega) (by simp) (by omega) (by omega)) ?_; rintro e w3 ⟨rfl, ⟨vI3, h1⟩, h2⟩; have H3 : Hid (LT w3 w.heap.size p q n 3 2 vI3 [(sa, 1), (sb, 2)]) := h1; have B3 : Hid (Below w.heap.size w w3) := B2.out.trans h2; clear h1 h2)
    | (go_at_call 10; have hg := H1; clear hg; refine Calls.mono (put_end H1.out B1.out.size (by simp) sa (by simp [ByteArray.size]) 1 (by simp) (by simp) (by omega) (by omega)) ?_; rintro e w2 ⟨rfl, ⟨vI2, h1⟩, h2⟩; have H2 : Hid (LT w2 w.heap.size p q n 3 1 vI2 [(sa, 1)]) := h1; have B2 : Hid (Below w.heap.size w w2) := B1.out.trans h2; clear h1 h2)
    | (go_at_call 12; refine Calls.mono (get_at H4.out (by simp) sa 7 (two_low _ _) 0 rfl (two_at _ _) (two_is _ _)) ?_; rintro e w5 ⟨rfl, h2⟩; have H5 : Hid (LT w5 w.heap.size p q n 3 2 vI3 [(sa, 7), (sb, 2)]) := H4.out.below h2; have B5 : Hid (Below w.heap.size w w5) := B4.out.trans (h2.mono B4.out.size); clear h2)
    | (go_at_call 25; refine Calls.mono (nodes_leaf H5.out (by simp) (by intro y hy; simp at hy; rcases hy with rfl | rfl <;> simp [ByteArray.size]) (by omega)) ?_; rintro e w6 ⟨g, cap, vK, rfl, h1, h2, h3⟩; have R1 : Hid (w6.ownsRow w5.heap.size 61 3 (.slice (some ⟨g, 0, none⟩) 1 cap) 1 [.int .i64 0, .bool true, vK]) := h1; have R2 : Hid (w6.ownsRow w5.heap.size 9 1 vK 2 (gc encN [sa, sb])) := h2; have B6 : Hid (Below w.heap.size w w6) := B5.out.trans (h3.mono B5.out.size); obtain ⟨gk, ck, rfl⟩ := row_two h2; obtain ⟨z1, z2, hcp⟩ := node_cellsE h1; clear h1 h2 h3))
  go_ret
  exact ⟨rfl, B6.out⟩
end Go.Proofs.Ytggbbmbnbhiggaa

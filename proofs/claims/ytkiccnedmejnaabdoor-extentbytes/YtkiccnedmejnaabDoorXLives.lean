/-
  The walk of lives: the program tells the document's examples. No conditions.
-/
import Derived.Test.YtkiccnedmejnaabDoorXTakeW
import Derived.Test.YtkiccnedmejnaabDoorXLaw3
namespace Go.Proofs.YtkiccnedmejnaabDoor
open Go.RowKit Go.Sort Go.Shelf Go.Lib
set_option linter.unusedVariables false
set_option maxRecDepth 100000

theorem Xs.lit (w : World) (h : Nat) (l : List Ext) (cs : Array Value) (T : TypeId) (n : Nat) (hh : h = w.heap.size) (hc : cs.toList = ecells l) (hn : l.length = n) : Xs (w.alloc (.cells cs T)) (.slice (some ⟨h, 0, none⟩) n n) l := by
  subst hh; subst hn
  refine ⟨_, _, rfl, Nat.le_refl _, (fun h => by cases h), fun ad ha j u hj => ?_⟩
  obtain rfl := Option.some.inj ha
  rw [addr_addX, Nat.zero_add]
  have hb := heap_alloc_new w (.cells cs T)
  simp only [World.cell?, hb]
  rw [← hc] at hj
  simpa using hj
theorem normL_ex : normErr [(4, 2), (0, 4), (9, 0)] = 0 ∧ normList [(4, 2), (0, 4), (9, 0)] = [(0, 6)] := by
  have h0 : normErr [(4, 2), (0, 4), (9, 0)] = 0 := by decide
  refine ⟨h0, ?_⟩
  unfold normList
  rw [if_pos h0]
  have hp : List.Perm [((0 : Int), (4 : Int)), (4, 2)] ([((4 : Int), (2 : Int)), (0, 4), (9, 0)].filter fitB) := by
    rw [show ([((4 : Int), (2 : Int)), (0, 4), (9, 0)].filter fitB) = [(4, 2), (0, 4)] by decide]
    exact List.Perm.swap _ _ _
  rw [← joinL_sorted hp (by unfold InOrd; simp)]
  decide
theorem take_ex : takeErr [(0, 2), (5, 5)] 3 = 0 ∧ takeAt [(0, 2), (5, 5)] 3 = 5 ∧ (takeList [(0, 2), (5, 5)] 3).length = 2 := by decide

set_option maxHeartbeats 4000000 in
theorem lives_any (w : World) : Calls Tryd.prog 10 #[] w fun e w' => e = .returned (.bool true) ∧ Below w.heap.size w w' := by
  have heq := eqX_run
  have hgd := eqX_guard
  have HN1 : Hid _ := normL_ex
  have HT1 : Hid _ := take_ex
  have HB0 : Hid (Below w.heap.size w (w.alloc (.cells #[.int .i64 4, .int .i64 2, .int .i64 0, .int .i64 4, .int .i64 9, .int .i64 0] 79))) := (Below.refl _ _).alloc (Nat.le_refl _) _
  go_enter Tryd.func10, Tryd.ntmps10
  go_wp2_with (first | (go_at_call 34; refine (normal_any _ [(4, 2), (0, 4), (9, 0)] _ (Xs.lit _ _ _ _ _ 3 rfl rfl rfl) (by intro x hx; simp at hx; rcases hx with rfl | rfl | rfl <;> (unfold EW; simp)) (by simp)).mono ?_; rintro e w1 ⟨ao1, cap1, rfl, ho1, hb1⟩; rw [HN1.out.1, HN1.out.2] at *; have HB1 : Hid (Below w.heap.size w w1) := HB0.out.trans (hb1.mono HB0.out.size); obtain ⟨g1, c1, hv1, hc1, hcl1⟩ := ho1.xs.opened; have HC1 : Hid (∃ b off, ao1 = some ⟨b, off, none⟩ ∧ w1.cell? ⟨b, off, none⟩ = some (.int .i64 0) ∧ w1.cell? ⟨b, off + 1, none⟩ = some (.int .i64 6) ∧ b < w1.heap.size) := by { injection hv1 with e1 e2 e3; subst e1; obtain ⟨b, off, e, q1, q2, q3⟩ := hcl1 0 (by simp); exact ⟨b, off, e, q1, q2, q3⟩ }; obtain ⟨b1, off1, rfl, q1, q2, q3⟩ := HC1.out; clear ho1 hb1 hv1 hcl1 HC1) | (go_at_call 35; refine (take_any _ [(0, 2), (5, 5)] 3 _ (Xs.lit _ _ _ _ _ 2 rfl rfl rfl) (by intro x hx; simp at hx; rcases hx with rfl | rfl <;> (unfold EW; simp)) (by simp)).mono ?_; rintro e w2 ⟨ao2, cap2, rfl, ho2, hb2⟩; rw [HT1.out.1, HT1.out.2.1, HT1.out.2.2]; have HB2 : Hid (Below w1.heap.size w1 w2) := ((Below.refl _ _).alloc (Nat.le_refl _) _).trans (hb2.mono (by simp)); have r1 := cell_later HB2.out q1; have r2 := cell_later HB2.out q2; clear ho2 hb2))
  go_ret
  exact ⟨by simp, HB1.out.trans (HB2.out.mono HB1.out.size)⟩
end Go.Proofs.YtkiccnedmejnaabDoor

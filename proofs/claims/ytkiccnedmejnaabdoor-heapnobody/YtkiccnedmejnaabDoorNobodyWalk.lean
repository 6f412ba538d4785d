/-
  The walk of the law HeapNobody. Conditions: the table of check stands.
-/
import Derived.Test.YtkiccnedmejnaabDoorHLives
namespace Go.Proofs.YtkiccnedmejnaabDoor
open Go.RowKit Go.Maps
set_option linter.unusedVariables false
set_option maxRecDepth 100000

set_option maxHeartbeats 4000000 in
theorem heapNobody_walk (v : Value) (l : List Int) (i : Int) (W : World) (hT : Tab W) (hl : Bs W v l) (hby : Byt l) (hlen : l.length ≤ 140737488351232) (hi : (Lit.int .i64 i).wf = true) :
    Calls Tryd.prog 6 #[v, .int .i64 i] W fun e W' => e = .returned (.bool true) ∧ Below W.heap.size W W' := by
  have HT : Hid (Tab W) := hT
  obtain ⟨ao, cap, rfl, hc, hn, hcell⟩ := hl
  obtain ⟨N, hN⟩ : ∃ N, l.length = N := ⟨_, rfl⟩
  rw [hN]
  clear hcell hn hT
  obtain ⟨W1, HW1⟩ : ∃ W1, W1 = W.alloc (.cells #[.map none, .int .i64 0] 68) := ⟨_, rfl⟩
  have HB1 : Hid (Below W.heap.size W W1) := by rw [HW1]; exact (Below.refl _ _).alloc (Nat.le_refl _) _
  have HNH : Hid (NoHeap W1 (.pointer (some ⟨W.heap.size, 0, none⟩))) := .inr ⟨_, rfl, by rw [HW1]; have h9 := heap_alloc_new W (.cells #[.map none, .int .i64 0] 68); simp only [World.cell?, h9]; rfl⟩
  have HW : Hid (W1 = W.alloc (.cells #[.map none, .int .i64 0] 68)) := HW1
  clear HW1
  go_enter Tryd.func6, Tryd.ntmps6
  go_wp2
  rw [← HW.out]
  go_loopw [7] (fun k wr => ∃ j : Nat, j ≤ 2 ∧ k = .int .i64 (j : Int) ∧ Hid (wr = W1)) (fun k _ => 2 - (intOf k).toNat)
  case atStart => exact ⟨0, by omega, by simp, rfl⟩
  case round =>
    obtain ⟨j, hj, rfl, HR⟩ := hrel
    obtain rfl := HR.out
    clear HR
    rcases (by omega : j = 0 ∨ j = 1 ∨ j = 2) with rfl | rfl | rfl
    · have HN0 : Hid (NoHeap wr (.pointer none)) := .inl rfl
      go_wp2_with (first
        | (go_at_call 20; refine (hadd_no _ _ _ _ _ HN0.out).mono ?_; rintro e w1 ⟨rfl, hw1⟩; obtain rfl := hw1.symm)
        | (go_at_call 22; refine (hget_no _ _ _ HN0.out).mono ?_; rintro e w1 ⟨rfl, hw1⟩; obtain rfl := hw1.symm)
        | (go_at_call 24; refine (hdrop_no _ _ _ HN0.out).mono ?_; rintro e w1 ⟨rfl, hw1⟩; obtain rfl := hw1.symm)
        | (go_at_call 31; refine (hlen_no _ _ HN0.out).mono ?_; rintro e w1 ⟨rfl, hw1⟩; obtain rfl := hw1.symm)
        | (go_at_call 32; refine (hids_no _ _ HN0.out).mono ?_; rintro e w1 ⟨rfl, hw1⟩; obtain rfl := hw1.symm)
        | (go_at_call 27; refine (hbytes_no _ _ HN0.out).mono ?_; rintro e w1 ⟨rfl, hw1⟩; obtain rfl := hw1.symm))
      go_roundw
      case rel => exact ⟨1, by omega, by simp, (by first | exact trivial | exact rfl)⟩
      case measure => simp [intOf]
    · go_wp2_with (first
        | (go_at_call 20; refine (hadd_no _ _ _ _ _ HNH.out).mono ?_; rintro e w1 ⟨rfl, hw1⟩; obtain rfl := hw1.symm)
        | (go_at_call 22; refine (hget_no _ _ _ HNH.out).mono ?_; rintro e w1 ⟨rfl, hw1⟩; obtain rfl := hw1.symm)
        | (go_at_call 24; refine (hdrop_no _ _ _ HNH.out).mono ?_; rintro e w1 ⟨rfl, hw1⟩; obtain rfl := hw1.symm)
        | (go_at_call 31; refine (hlen_no _ _ HNH.out).mono ?_; rintro e w1 ⟨rfl, hw1⟩; obtain rfl := hw1.symm)
        | (go_at_call 32; refine (hids_no _ _ HNH.out).mono ?_; rintro e w1 ⟨rfl, hw1⟩; obtain rfl := hw1.symm)
        | (go_at_call 27; refine (hbytes_no _ _ HNH.out).mono ?_; rintro e w1 ⟨rfl, hw1⟩; obtain rfl := hw1.symm))
      go_roundw
      case rel => exact ⟨2, by omega, by simp, (by first | exact trivial | exact rfl)⟩
      case measure => simp [intOf]
    · go_wp2_with (go_at_call 29; refine (lives6_any _ (HT.out.below HB1.out)).mono ?_; rintro e w9 ⟨rfl, hb9⟩)
      go_ret
      exact ⟨rfl, HB1.out.trans (hb9.mono HB1.out.size)⟩
end Go.Proofs.YtkiccnedmejnaabDoor

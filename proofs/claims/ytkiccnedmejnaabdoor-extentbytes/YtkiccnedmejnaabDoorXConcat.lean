/-
  The walks of slices.Grow at nil and of slices.Concat with two slices of extents. Conditions: the lengths are such as memory bears.
-/
import Derived.Test.YtkiccnedmejnaabDoorXNormal
import Derived.Lib.AppendZerosOnto
namespace Go.Proofs.YtkiccnedmejnaabDoor
open Go.RowKit Go.Sort Go.Shelf Go.Lib
set_option linter.unusedVariables false
set_option maxRecDepth 100000

theorem grow_zero (w : World) : Calls Tryd.prog 88 #[.slice none 0 0, .int .i64 0] w fun e w' => e = .returned (.slice none 0 0) ∧ w' = w := by
  go_enter Tryd.func88, Tryd.ntmps88
  go_wp2
  go_ret
  exact ⟨rfl, rfl⟩

set_option maxHeartbeats 2000000 in
theorem grow_some (n : Nat) (w : World) (h0 : 0 < n) (hn : n ≤ 8796093022208) :
    Calls Tryd.prog 88 #[.slice none 0 0, .int .i64 n] w fun e w' => ∃ g cap, e = .returned (.slice (some ⟨g, 0, none⟩) 0 cap) ∧ OwnX w' w.heap.size 79 (.slice (some ⟨g, 0, none⟩) 0 cap) [] ∧ Below w.heap.size w w' := by
  obtain ⟨i1, hi, hz0, hz1, hz2⟩ := info_parts Tryd.infoX
  have hrz : ∀ ty, (Builtin.append_ #[22, 3] ty #[.slice none 0 0, .int .i64 (n : Int)]).run Tryd.prog w =
      .ok (.slice (some ⟨w.heap.size, 0, none⟩) n (grownCap w n 0 79)) (w.drew.alloc (.cells (#[] ++ Builtin.zeroCells (Value.agg #[.int .i64 0, .int .i64 0]).cells n ++ Builtin.zeroCells (Value.agg #[.int .i64 0, .int .i64 0]).cells (grownCap w n 0 79 - n)) 79)) := fun ty => by
    have h := Lib.run_append_grow_zeros w 22 3 ty 79 i1 (.agg #[.int .i64 0, .int .i64 0]) .i64 .i64 Tryd.underlying22 Tryd.underlying3 hi hz0 none 0 0 [] (run_firstCells_none w.drew i1.size 0 0 0) n h0 (by rw [hz1]; decide) (by omega) (by omega) (by rw [hz2]; omega)
      (by rw [Nat.zero_add]; exact growslice_fits (by omega) (by rw [hz2]; omega))
    simpa using h
  have hGn : n ≤ grownCap w n 0 79 := grownCap_ge w _ _ _
  have hG63 : grownCap w n 0 79 ≤ maxLen := grownCap_le_maxLen w n 0 79 (by unfold maxLen; omega)
  generalize grownCap w n 0 79 = G at hrz hGn hG63
  have HO : Hid (OwnX (w.drew.alloc (.cells (#[] ++ Builtin.zeroCells (Value.agg #[.int .i64 0, .int .i64 0]).cells n ++ Builtin.zeroCells (Value.agg #[.int .i64 0, .int .i64 0]).cells (G - n)) 79)) w.heap.size 79 (.slice (some ⟨w.heap.size, 0, none⟩) 0 G) []) :=
    World.ownsRow_made w.drew _ G (Nat.le_refl _) hG63 (by rw [Array.size_append, Array.size_append, size_zeroCells, size_zeroCells]; simp [Value.cells]; omega)
  have HB : Hid (Below w.heap.size w (w.drew.alloc (.cells (#[] ++ Builtin.zeroCells (Value.agg #[.int .i64 0, .int .i64 0]).cells n ++ Builtin.zeroCells (Value.agg #[.int .i64 0, .int .i64 0]).cells (G - n)) 79))) := (Below.refl w.heap.size w).drew.alloc (Nat.le_refl _) _
  have hG64 : G ≤ 9223372036854775807 := by unfold maxLen at hG63; omega
  clear hG63
  generalize (#[] ++ Builtin.zeroCells (Value.agg #[.int .i64 0, .int .i64 0]).cells n ++ Builtin.zeroCells (Value.agg #[.int .i64 0, .int .i64 0]).cells (G - n)) = cur at *
  have HRZ : Hid (∀ ty, (Builtin.append_ #[22, 3] ty #[.slice none 0 0, .int .i64 (n : Int)]).run Tryd.prog w = .ok (.slice (some ⟨w.heap.size, 0, none⟩) n G) (w.drew.alloc (.cells cur 79))) := hrz
  clear hrz
  go_enter Tryd.func88, Tryd.ntmps88
  go_wp2_with (at_builtin; refine Lib.wpList_append_run _ rfl _ _ _ _ rfl _ _ rfl rfl _ _ (HRZ.out _) ?_)
  all_goals
    go_ret
    exact ⟨w.heap.size, G, rfl, HO.out, HB.out⟩

theorem grow_any (n : Nat) (w : World) (hn : n ≤ 8796093022208) :
    Calls Tryd.prog 88 #[.slice none 0 0, .int .i64 n] w fun e w' => ∃ ao cap, e = .returned (.slice ao 0 cap) ∧ OwnX w' w.heap.size 79 (.slice ao 0 cap) [] ∧ Below w.heap.size w w' := by
  rcases Nat.eq_zero_or_pos n with rfl | h
  · exact (grow_zero w).mono fun e w' ⟨h1, h2⟩ => ⟨none, 0, h1, OwnX.nil _ _ _, by rw [h2]; exact Below.refl _ _⟩
  · exact (grow_some n w h hn).mono fun e w' ⟨g, cap, h1, h2, h3⟩ => ⟨_, cap, h1, h2, h3⟩

set_option maxHeartbeats 4000000 in
theorem concat_any (h : Nat) (va vb : Value) (la lb : List Ext) (w : World) (c0 : w.cell? ⟨h, 0, none⟩ = some va) (c1 : w.cell? ⟨h, 1, none⟩ = some vb) (ha : Xs w va la) (hb : Xs w vb lb) (hn : la.length + lb.length ≤ 8796093022208) :
    Calls Tryd.prog 64 #[.slice (some ⟨h, 0, none⟩) 2 2] w fun e w' => ∃ ao cap, e = .returned (.slice ao (la.length + lb.length) cap) ∧ OwnX w' w.heap.size 79 (.slice ao (la.length + lb.length) cap) (la ++ lb) ∧ Below w.heap.size w w' := by
  obtain ⟨i1, hi, hz0, hz1, hz2⟩ := info_parts Tryd.infoX
  have HA : Hid (Xs w va la) := ha
  have HB : Hid (Xs w vb lb) := hb
  obtain ⟨aa, ca, rfl, hca, _⟩ := ha.opened
  obtain ⟨ab, cb, rfl, hcb, _⟩ := hb.opened
  clear ha hb
  obtain ⟨N, HN⟩ : ∃ N, Hid (la.length = N) := ⟨_, rfl⟩
  obtain ⟨M, HM⟩ : ∃ M, Hid (lb.length = M) := ⟨_, rfl⟩
  rw [HN.out] at hn hca HA c0 ⊢
  rw [HM.out] at hn hcb HB c1 ⊢
  go_enter Tryd.func64, Tryd.ntmps64
  go_wp2
  go_loop [3, 11] (fun s i => (i = .int .i64 0 ∧ s = .int .i64 0) ∨ (i = .int .i64 1 ∧ s = .int .i64 N) ∨ (i = .int .i64 2 ∧ s = .int .i64 ((N + M : Nat) : Int))) (fun _ i => 2 - (intOf i).toNat)
  case atStart => exact .inl ⟨rfl, rfl⟩
  case round =>
    rcases hrel with ⟨rfl, rfl⟩ | ⟨rfl, rfl⟩ | ⟨rfl, rfl⟩
    · go_wp2
      go_round
      case rel => exact .inr (.inl ⟨rfl, rfl⟩)
      case measure => simp [intOf]
    · go_wp2
      go_round
      case rel => exact .inr (.inr ⟨rfl, by simp⟩)
      case measure => simp [intOf]
    · go_wp2_with (go_at_call 88; refine (grow_any (N + M) _ hn).mono ?_; rintro e w1 ⟨ao1, cap1, rfl, ho1, hb1⟩; have HO1 : Hid (OwnX w1 w.heap.size 79 (.slice ao1 0 cap1) []) := ho1; have HB1 : Hid (Below w.heap.size w w1) := hb1; clear ho1 hb1)
      go_loopw [6, 27] (fun o i wr => ∃ (k n c : Nat) (a : Option Addr) (m : List Ext), k ≤ 2 ∧ i = .int .i64 (k : Int) ∧ o = .slice a n c ∧ Hid (m.length = n) ∧ Hid (OwnX wr w.heap.size 79 (.slice a n c) m) ∧ Hid (m = if k = 0 then [] else if k = 1 then la else la ++ lb) ∧ Hid (Below w.heap.size w wr)) (fun _ i _ => 2 - (intOf i).toNat)
      case atStart => exact ⟨0, 0, cap1, ao1, [], by omega, rfl, rfl, rfl, HO1.out, rfl, HB1.out⟩
      case round =>
        obtain ⟨k, n, c, a, m, hk, rfl, rfl, HL, HO, HE, HW⟩ := hrel
        have e0 := cell_later HW.out c0
        have e1 := cell_later HW.out c1
        rcases (show k = 0 ∨ k = 1 ∨ k = 2 by omega) with rfl | rfl | rfl
        · obtain rfl : m = [] := HE.out
          obtain rfl : n = 0 := HL.out.symm
          go_wp2_with (at_builtin; refine wpList_append_x _ rfl (.tmp 31) (.tmp 32) 22 79 rfl i1 Tryd.underlying22 hi hz0 hz1 hz2 w.heap.size _ _ [] la rfl rfl HO.out (HA.out.below HW.out) (by rw [HN.out]; simp; omega) HW.out.size ?_; intro ao3 cap3 w3 ho3 hg3 hc3 _; rw [HN.out] at ho3 hc3 ⊢; simp only [List.length_nil, Nat.zero_add, List.nil_append] at ho3 hc3 ⊢)
          go_roundw
          case rel => exact ⟨1, N, cap3, ao3, la, by omega, rfl, rfl, HN, ho3, rfl, HW.out.grown hg3 HW.out.size (fun j hj => (HO.out.lt j hj).1)⟩
          case measure => simp [intOf]
        · obtain rfl : m = la := HE.out
          obtain rfl : n = N := HL.out.symm.trans HN.out
          go_wp2_with (at_builtin; refine wpList_append_x _ rfl (.tmp 31) (.tmp 32) 22 79 rfl i1 Tryd.underlying22 hi hz0 hz1 hz2 w.heap.size _ _ m lb rfl rfl HO.out (HB.out.below HW.out) (by rw [HL.out, HM.out]; omega) HW.out.size ?_; intro ao3 cap3 w3 ho3 hg3 hc3 _; rw [HL.out, HM.out] at ho3 hc3 ⊢)
          go_roundw
          case rel => exact ⟨2, n + M, cap3, ao3, m ++ lb, by omega, rfl, rfl, by unfold Hid; rw [List.length_append, HL.out, HM.out], ho3, rfl, HW.out.grown hg3 HW.out.size (fun j hj => (HO.out.lt j hj).1)⟩
          case measure => simp [intOf]
        · obtain rfl : m = la ++ lb := HE.out
          obtain rfl : n = N + M := by have := HL.out; rw [List.length_append, HN.out, HM.out] at this; exact this.symm
          go_wp2
          go_ret
          exact ⟨a, c, rfl, HO.out, HW.out⟩
end Go.Proofs.YtkiccnedmejnaabDoor

/-
  The walks of the laws' own functions: lent, kept, spoil. Conditions: the numbers are ints, the list's length is one that memory bears.
-/
import Derived.Test.YtkiccnedmejnaabDoorXLaw2
namespace Go.Proofs.YtkiccnedmejnaabDoor
open Go.RowKit Go.Sort Go.Shelf Go.Lib
set_option linter.unusedVariables false
set_option maxRecDepth 100000

/-- A slice that was lent: one more lies behind its end. -/
def Lent (w : World) (B : Nat) (v : Value) (l : List Ext) : Prop :=
  ∃ g cap, v = .slice (some ⟨g, 0, none⟩) l.length cap ∧ B ≤ g ∧ Xs w (.slice (some ⟨g, 0, none⟩) (l.length + 1) cap) (l ++ [(-9, -9)])
theorem Lent.below {w w' : World} {B : Nat} {v : Value} {l : List Ext} (h : Lent w B v l) (hb : Below w.heap.size w w') : Lent w' B v l := by
  obtain ⟨g, cap, rfl, hB, hx⟩ := h
  exact ⟨g, cap, rfl, hB, hx.below hb⟩
theorem Lent.xs {w : World} {B : Nat} {v : Value} {l : List Ext} (h : Lent w B v l) : Xs w v l := by
  obtain ⟨g, cap, rfl, hB, ao, cap', hv, hc, hn, hcell⟩ := h
  injection hv with e1 e2 e3
  subst e1; subst e3
  refine ⟨_, _, rfl, by simp at hc; omega, hn, fun ad ha j u hj => hcell ad ha j u ?_⟩
  rw [ecells_append, List.getElem?_append_left (by rw [ecells_length]; exact ecells_get hj)]
  exact hj
theorem Lent.grown {w w' : World} {B : Nat} {v : Value} {l : List Ext} {r : Option Nat} (h : Lent w B v l) (hg : w.grownBy w' r) (hr : ∀ k, r = some k → v.ownBlock ≠ some k) : Lent w' B v l := by
  obtain ⟨g, cap, rfl, hB, hx⟩ := h
  refine ⟨g, cap, rfl, hB, ?_⟩
  obtain ⟨ao, cap', hv, hc, hn, hcell⟩ := hx
  have hv' := hv
  injection hv with e1 e2 e3
  subst e1
  refine ⟨_, cap', hv', hc, hn, fun ad ha j u hj => ?_⟩
  have hc0 := hcell ad ha j u hj
  obtain rfl := Option.some.inj ha
  rw [addr_addX] at hc0 ⊢
  have hlt := World.block_lt_of_cell? w _ hc0
  exact (World.cell?_of_block (w := w) (a := ⟨g, 0 + j, none⟩) (hg.block g hlt (fun e => hr g e.symm rfl))).trans hc0

set_option maxHeartbeats 2000000 in
theorem lent_any (v : Value) (l : List Ext) (w : World) (hl : Xs w v l) (hn : l.length ≤ 8796093022207) :
    Calls Tryd.prog 11 #[v] w fun e w' => ∃ x, e = .returned x ∧ Lent w' w.heap.size x l ∧ Below w.heap.size w w' := by
  obtain ⟨i1, hi, hz0, hz1, hz2⟩ := info_parts Tryd.infoX
  have HX : Hid (Xs w v l) := hl
  obtain ⟨ao, cap, rfl, hcap, _⟩ := hl.opened
  clear hl
  obtain ⟨N, HN⟩ : ∃ N, Hid (l.length = N) := ⟨_, rfl⟩
  rw [HN.out] at hcap hn HX ⊢
  have HB0 : Hid (Below w.heap.size w (w.alloc (.cells #[] 79))) := (Below.refl _ _).alloc (Nat.le_refl _) _
  go_enter Tryd.func11, Tryd.ntmps11
  go_wp2_with (first | (at_builtin; refine wpList_append_x _ rfl (.tmp 3) (.tmp 4) 22 79 rfl i1 Tryd.underlying22 hi hz0 hz1 hz2 w.heap.size _ _ [] l rfl rfl (OwnX.empty _ _ _ (Nat.le_refl _)) (HX.out.below HB0.out) (by rw [HN.out]; simp; omega) (by simp) ?_; intro ao1 cap1 w1 ho1 hg1 hc1 _; rw [HN.out] at ho1 hc1 ⊢; simp only [List.length_nil, Nat.zero_add, List.nil_append] at ho1 hc1 ⊢; have HO1 : Hid (OwnX w1 w.heap.size 79 (.slice ao1 N cap1) l) := ho1; have HB1 : Hid (Below w.heap.size w w1) := HB0.out.grown hg1 HB0.out.size (fun j hj => ((OwnX.empty w w.heap.size 79 (Nat.le_refl _)).lt j hj).1); clear ho1 hg1) | (at_builtin; refine wpList_append_x _ rfl (.tmp 5) (.tmp 7) 22 79 rfl i1 Tryd.underlying22 hi hz0 hz1 hz2 w.heap.size _ _ l [(-9, -9)] rfl rfl (HO1.out.below ((Below.refl _ _).alloc (Nat.le_refl _) _)) (Xs.oneAt _ _ (-9, -9) _ rfl) (by rw [HN.out]; simp; omega) (by have := HB1.out.size; simp; omega) ?_; intro ao2 cap2 w2 ho2 hg2 hc2 hne2; obtain ⟨g2, rfl, hB2, hgl2⟩ := hne2 (.inl (by simp)); rw [HN.out] at ho2 hc2 ⊢; simp only [List.length_cons, List.length_nil, Nat.zero_add] at ho2 hc2 ⊢))
  go_ret
  refine ⟨_, rfl, ⟨g2, cap2, by rw [HN.out]; simp, hB2, by rw [HN.out]; exact ho2.xs⟩, ?_⟩
  have hb := HB1.out.alloc HB1.out.size (.cells #[.int .i64 (-9), .int .i64 (-9)] 79)
  exact hb.grown hg2 hb.size (fun j hj => (HO1.out.lt j hj).1)

set_option maxHeartbeats 2000000 in
theorem kept_any (vx vl : Value) (l : List Ext) (B : Nat) (w : World) (hx : Lent w B vx l) (hl : Xs w vl l) (hn : l.length ≤ 8796093022207) :
    Calls Tryd.prog 18 #[vx, vl] w fun e w' => e = .returned (.bool true) ∧ Below w.heap.size w w' := by
  have HX : Hid (Lent w B vx l) := hx
  have HL : Hid (Xs w vl l) := hl
  obtain ⟨ao, cap, rfl, hcap, _⟩ := hl.opened
  obtain ⟨g, capx, rfl, hB, hxx⟩ := hx
  obtain ⟨ao', cap', hv, hc', hcell⟩ := hxx.opened
  have hce : capx = cap' := by injection hv
  subst hce
  have hce2 : ao' = some ⟨g, 0, none⟩ := by injection hv with h; exact h.symm
  subst hce2
  have hcc : l.length + 1 ≤ capx := by simp at hc'; exact hc'
  obtain ⟨b, off, hbo, q1, q2, hgl⟩ := hcell l.length (by simp)
  injection hbo with hbo
  injection hbo with hb1 hb2
  subst hb1; subst hb2
  rw [getD_snoc, Nat.zero_add] at q1 q2
  dsimp only at q1 q2
  clear hl hxx hcell hv hc'
  obtain ⟨N, HN⟩ : ∃ N, Hid (l.length = N) := ⟨_, rfl⟩
  rw [HN.out] at hcap hn HX HL hcc q1 q2 ⊢
  have heq := eqX_run
  have hgd := eqX_guard
  go_enter Tryd.func18, Tryd.ntmps18
  go_wp2_with (first | (go_at_call 14; refine (plain_any _ l _ HL.out (by rw [HN.out]; omega)).mono ?_; rintro e w1 ⟨ao1, cap1, rfl, ho1, hb1⟩; have HO1 : Hid (OwnX w1 w.heap.size 89 (.slice ao1 l.length cap1) l) := ho1; have HB1 : Hid (Below w.heap.size w w1) := hb1; clear ho1 hb1) | (go_at_call 17; refine (same_any _ _ l l _ (HX.out.below HB1.out).xs HO1.out.xs (by rw [HN.out]; omega) (by rw [HN.out]; omega)).mono ?_; rintro e w2 ⟨rfl, hb2⟩; rw [show decide (l = l) = true by simp]; have HB2 : Hid (Below w.heap.size w w2) := HB1.out.trans (hb2.mono HB1.out.size); have r1 := cell_later HB2.out q1; have r2 := cell_later HB2.out q2; clear hb2))
  go_ret
  exact ⟨by simp, HB2.out⟩

end Go.Proofs.YtkiccnedmejnaabDoor

/-
  The walks of the laws' own functions: lent, kept, spoil. Conditions: the numbers are ints, the list's length is one that memory bears.
-/
import Derived.Test.YtbpaiioonljlpabXLaw2
namespace Go.Proofs.Ytbpaiioonljlpab
open Go.RowKit Go.Sort Go.Shelf Go.Lib
set_option linter.unusedVariables false
set_option maxRecDepth 100000

/-- A slice that was lent: one more lies behind its end. -/
def Lent (w : World) (B : Nat) (v : Value) (l : List Ext) : Prop :=
  ∃ g cap, v = .slice (some ⟨g, 0, none⟩) l.length cap ∧ B ≤ g ∧ Xs w (.slice (some ⟨g, 0, none⟩) (l.length + 1) cap) (l ++ [(-9, -9)])
theorem Lent.below {w w' : World} {B : Nat} {v : Value} {l : List Ext} (h : Lent w B v l) (hb : Below w.heap.size w w') : Lent w' B v l := by
  obtain ⟨g, cap, rfl, hB, hx⟩ := h
  exact ⟨g, cap, rfl, hB, hx.below hb⟩
theorem Lent.xs {w : World} {B : Nat} {v : Value} {l : List Ext} (h : Lent w B v l) : Xs w v l := by
  obtain ⟨g, cap, rfl, hB, ao, cap', hv, hc, hn, hcell⟩ := h
  injection hv with e1 e2 e3
  subst e1; subst e3
  refine ⟨_, _, rfl, by simp at hc; omega, hn, fun ad ha j u hj => hcell ad ha j u ?_⟩
  rw [ecells_append, List.getElem?_append_left (by rw [ecells_length]; exact ecells_get hj)]
  exact hj
theorem Lent.grown {w w' : World} {B : Nat} {v : Value} {l : List Ext} {r : Option Nat} (h : Lent w B v l) (hg : w.grownBy w' r) (hr : ∀ k, r = some k → v.ownBlock ≠ some k) : Lent w' B v l := by
  obtain ⟨g, cap, rfl, hB, hx⟩ := h
  refine ⟨g, cap, rfl, hB, ?_⟩
  obtain ⟨ao, cap', hv, hc, hn, hcell⟩ := hx
  have hv' := hv
  injection hv with e1 e2 e3
  subst e1
  refine ⟨_, cap', hv', hc, hn, fun ad ha j u hj => ?_⟩
  have hc0 := hcell ad ha j u hj
  obtain rfl := Option.some.inj ha
  rw [addr_add] at hc0 ⊢
  have hlt := World.block_lt_of_cell? w _ hc0
  exact (World.cell?_of_block (w := w) (a := ⟨g, 0 + j, none⟩) (hg.block g hlt (fun e => hr g e.symm rfl))).trans hc0

set_option maxHeartbeats 2000000 in
theorem lent_any (v : Value) (l : List Ext) (w : World) (hl : Xs w v l) (hn : l.length ≤ 8796093022207) :
    Calls Try.prog 10 #[v] w fun e w' => ∃ x, e = .returned x ∧ Lent w' w.heap.size x l ∧ Below w.heap.size w w' := by
  obtain ⟨i1, hi, hz0, hz1, hz2⟩ := info_parts Try.infoX
  have HX : Hid (Xs w v l) := hl
  obtain ⟨ao, cap, rfl, hcap, _⟩ := hl.opened
  clear hl
  obtain ⟨N, HN⟩ : ∃ N, Hid (l.length = N) := ⟨_, rfl⟩
  rw [HN.out] at hcap hn HX ⊢
  have HB0 : Hid (Below w.heap.size w (w.alloc (.cells #[] 48))) := (Below.refl _ _).alloc (Nat.le_refl _) _
  go_enter Try.func10, Try.ntmps10
  go_wp2_with (first | (at_builtin; refine wpList_append_x _ rfl (.tmp 3) (.tmp 4) 22 48 rfl i1 Try.underlying22 hi hz0 hz1 hz2 w.heap.size _ _ [] l rfl rfl (OwnX.empty _ _ _ (Nat.le_refl _)) (HX.out.below HB0.out) (by rw [HN.out]; simp; omega) (by simp) ?_; intro ao1 cap1 w1 ho1 hg1 hc1 _; rw [HN.out] at ho1 hc1 ⊢; simp only [List.length_nil, Nat.zero_add, List.nil_append] at ho1 hc1 ⊢; have HO1 : Hid (OwnX w1 w.heap.size 48 (.slice ao1 N cap1) l) := ho1; have HB1 : Hid (Below w.heap.size w w1) := HB0.out.grown hg1 HB0.out.size (fun j hj => ((OwnX.empty w w.heap.size 48 (Nat.le_refl _)).lt j hj).1); clear ho1 hg1) | (at_builtin; refine wpList_append_x _ rfl (.tmp 5) (.tmp 7) 22 48 rfl i1 Try.underlying22 hi hz0 hz1 hz2 w.heap.size _ _ l [(-9, -9)] rfl rfl (HO1.out.below ((Below.refl _ _).alloc (Nat.le_refl _) _)) (Xs.oneAt _ _ (-9, -9) _ rfl) (by rw [HN.out]; simp; omega) (by have := HB1.out.size; simp; omega) ?_; intro ao2 cap2 w2 ho2 hg2 hc2 hne2; obtain ⟨g2, rfl, hB2, hgl2⟩ := hne2 (.inl (by simp)); rw [HN.out] at ho2 hc2 ⊢; simp only [List.length_cons, List.length_nil, Nat.zero_add] at ho2 hc2 ⊢))
  go_ret
  refine ⟨_, rfl, ⟨g2, cap2, by rw [HN.out]; simp, hB2, by rw [HN.out]; exact ho2.xs⟩, ?_⟩
  have hb := HB1.out.alloc HB1.out.size (.cells #[.int .i64 (-9), .int .i64 (-9)] 48)
  exact hb.grown hg2 hb.size (fun j hj => (HO1.out.lt j hj).1)

set_option maxHeartbeats 2000000 in
theorem kept_any (vx vl : Value) (l : List Ext) (B : Nat) (w : World) (hx : Lent w B vx l) (hl : Xs w vl l) (hn : l.length ≤ 8796093022207) :
    Calls Try.prog 18 #[vx, vl] w fun e w' => e = .returned (.bool true) ∧ Below w.heap.size w w' := by
  have HX : Hid (Lent w B vx l) := hx
  have HL : Hid (Xs w vl l) := hl
  obtain ⟨ao, cap, rfl, hcap, _⟩ := hl.opened
  obtain ⟨g, capx, rfl, hB, hxx⟩ := hx
  obtain ⟨ao', cap', hv, hc', hcell⟩ := hxx.opened
  have hce : capx = cap' := by injection hv
  subst hce
  have hce2 : ao' = some ⟨g, 0, none⟩ := by injection hv with h; exact h.symm
  subst hce2
  have hcc : l.length + 1 ≤ capx := by simp at hc'; exact hc'
  obtain ⟨b, off, hbo, q1, q2, hgl⟩ := hcell l.length (by simp)
  injection hbo with hbo
  injection hbo with hb1 hb2
  subst hb1; subst hb2
  rw [getD_snoc, Nat.zero_add] at q1 q2
  dsimp only at q1 q2
  clear hl hxx hcell hv hc'
  obtain ⟨N, HN⟩ : ∃ N, Hid (l.length = N) := ⟨_, rfl⟩
  rw [HN.out] at hcap hn HX HL hcc q1 q2 ⊢
  have heq := eqX_run
  have hgd := eqX_guard
  go_enter Try.func18, Try.ntmps18
  go_wp2_with (first | (go_at_call 13; refine (plain_any _ l _ HL.out (by rw [HN.out]; omega)).mono ?_; rintro e w1 ⟨ao1, cap1, rfl, ho1, hb1⟩; have HO1 : Hid (OwnX w1 w.heap.size 51 (.slice ao1 l.length cap1) l) := ho1; have HB1 : Hid (Below w.heap.size w w1) := hb1; clear ho1 hb1) | (go_at_call 21; refine (same_any _ _ l l _ (HX.out.below HB1.out).xs HO1.out.xs (by rw [HN.out]; omega) (by rw [HN.out]; omega)).mono ?_; rintro e w2 ⟨rfl, hb2⟩; rw [show decide (l = l) = true by simp]; have HB2 : Hid (Below w.heap.size w w2) := HB1.out.trans (hb2.mono HB1.out.size); have r1 := cell_later HB2.out q1; have r2 := cell_later HB2.out q2; clear hb2))
  go_ret
  exact ⟨by simp, HB2.out⟩

set_option maxHeartbeats 2000000 in
theorem spoil_any (v : Value) (l : List Ext) (B : Nat) (w : World) (h : OwnX w B 48 v l) (hn : l.length ≤ 8796093022208) :
    Calls Try.prog 22 #[v] w fun e w' => e = .returned (.tuple #[]) ∧ w.grownBy w' v.ownBlock := by
  obtain ⟨ao, cap, rfl, hcap, _, hsh⟩ := h.shape
  obtain ⟨N, HN⟩ : ∃ N, Hid (l.length = N) := ⟨_, rfl⟩
  have HO : Hid (OwnX w B 48 (.slice ao l.length cap) l) := h
  have HSH : Hid (l = [] ∨ ∃ g, ao = some ⟨g, 0, none⟩) := by
    rcases hsh with ⟨_, h, _⟩ | ⟨g, h, _⟩
    · exact .inl h
    · exact .inr ⟨g, h⟩
  clear h hsh
  rw [HN.out] at hcap hn HO ⊢
  go_enter Try.func22, Try.ntmps22
  go_wp2
  go_loopw [2] (fun i wr => ∃ (k : Nat) (m : List Ext), k ≤ N ∧ i = .int .i64 (k : Int) ∧ Hid (m.length = N) ∧ Hid (OwnX wr B 48 (.slice ao N cap) m) ∧ Hid (w.grownBy wr (Value.slice ao N cap).ownBlock)) (fun i _ => N - (intOf i).toNat)
  case atStart => exact ⟨0, l, Nat.zero_le _, rfl, HN, HO.out, World.grownBy.refl _ _⟩
  case round =>
    obtain ⟨k, m, hk, rfl, HM, HO2, HG⟩ := hrel
    by_cases hlt : k < N
    · rcases HSH.out with h0 | ⟨g, rfl⟩
      · have := HN.out; rw [h0] at this; simp at this; omega
      · obtain ⟨c1, c2⟩ := HO2.out.cell (i := k) (by rw [HM.out]; exact hlt)
        have hf : wr.frozen? ⟨g, k * 2, none⟩ = false := by
          obtain ⟨a', c', hv, _, _, hs⟩ := HO2.out.shape
          injection hv with e1
          rcases hs with ⟨h, _⟩ | ⟨g', h, _, _, hf⟩
          · rw [← e1] at h; cases h
          · rw [h] at e1; injection e1 with e1; injection e1 with e1; subst e1; exact hf _
        go_wp2
        go_roundw
        case rel =>
          refine ⟨k + 1, m.set k (-3, (m.getD k (0, 0)).2), by omega, by simp, by unfold Hid; rw [List.length_set]; exact HM.out, HO2.out.setAt (-3) (by rw [HM.out]; exact hlt), ?_⟩
          exact grown_setX HG.out k (-3)
        case measure => simp [intOf]; omega
    · go_wp2
      go_end0
      exact ⟨rfl, HG.out⟩
end Go.Proofs.Ytbpaiioonljlpab

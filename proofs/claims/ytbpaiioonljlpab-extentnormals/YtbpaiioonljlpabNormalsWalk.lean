/-
  The walk of the law ExtentNormals.
-/
import Derived.Test.YtbpaiioonljlpabXLives
import Derived.Test.YtbpaiioonljlpabXRefNormal
namespace Go.Proofs.Ytbpaiioonljlpab
open Go.RowKit Go.Sort Go.Shelf Go.Lib
set_option linter.unusedVariables false
set_option maxRecDepth 100000

theorem Lent.ltN {w : World} {B : Nat} {v : Value} {l : List Ext} (h : Lent w B v l) : ∀ k, v.ownBlock = some k → B ≤ k ∧ k < w.heap.size := by
  obtain ⟨g, cap, rfl, hB, hx⟩ := h
  intro k hk
  cases hk
  obtain ⟨ao, c, hv, _, hcell⟩ := hx.opened
  obtain ⟨b, off, e, q1, _, hb⟩ := hcell 0 (by simp)
  injection hv with e1
  rw [e] at e1
  injection e1 with e1
  injection e1 with e1
  subst e1
  exact ⟨hB, hb⟩

theorem normList_length (l : List Ext) : (normList l).length ≤ l.length := by
  unfold normList
  split
  · have h1 := joinL_length (sortE l)
    have h2 := (sortE_perm l).length_eq
    have h3 := List.length_filter_le fitB l
    unfold normL; omega
  · simp

set_option maxHeartbeats 8000000 in
theorem extentNormals_walk (v : Value) (l : List Ext) (W : World) (hx : Xs W v l) (hE : EWs l) (hlen : l.length ≤ 8796093021952) :
    Calls Try.prog 4 #[v] W fun e W' => e = .returned (.bool true) ∧ Below W.heap.size W W' := by
  have HX : Hid (Xs W v l) := hx
  have HE : Hid (EWs l) := hE
  have HLE : Hid (l.length ≤ 8796093021952) := hlen
  clear hx hE hlen
  cases hf : fewB l with
  | false =>
    go_enter Try.func4, Try.ntmps4
    go_wp2_with (first | (go_at_call 8; refine (few_any _ l _ HX.out (by have := HLE.out; omega)).mono ?_; rintro e w' ⟨rfl, hw'⟩; obtain rfl := hw'.symm; rw [hf]) | (go_at_call 9; refine (lives_any _).mono ?_; rintro e w' ⟨rfl, hb⟩))
    go_ret
    exact ⟨rfl, hb⟩
  | true =>
    have HTL : Hid ((normList l).length ≤ 8796093022208) := by have h1 := normList_length l; have h2 := HLE.out; unfold Hid; omega
    go_enter Try.func4, Try.ntmps4
    go_wp2_with (first | (go_at_call 8; refine (few_any _ l _ HX.out (by have := HLE.out; omega)).mono ?_; rintro e w' ⟨rfl, hw'⟩; obtain rfl := hw'.symm; rw [hf]; clear hf) | (go_at_call 10; refine (lent_any _ l _ HX.out (by have := HLE.out; omega)).mono ?_; rintro e w1 ⟨x1, rfl, hl1, hb1⟩; have HL1 : Hid (Lent w1 W.heap.size x1 l) := hl1; have HB1 : Hid (Below W.heap.size W w1) := hb1; clear hl1 hb1) | fail)
    refine (normal_any _ l _ HL1.out.xs HE.out (by have := HLE.out; omega)).mono ?_
    rintro e w2 ⟨ao2, cap2, rfl, ho2, hb2⟩
    have HO2 : Hid (OwnX w2 w1.heap.size 48 (.slice ao2 (normList l).length cap2) (normList l)) := ho2
    have HB2 : Hid (Below w1.heap.size w1 w2) := hb2
    clear ho2 hb2
    go_wp2_with fail
    refine (normal_any _ l _ (HL1.out.below HB2.out).xs HE.out (by have := HLE.out; omega)).mono ?_
    rintro e w3 ⟨ao3, cap3, rfl, ho3, hb3⟩
    have HO3 : Hid (OwnX w3 w2.heap.size 48 (.slice ao3 (normList l).length cap3) (normList l)) := ho3
    have HB3 : Hid (Below w2.heap.size w2 w3) := hb3
    have HB13 : Hid (Below w1.heap.size w1 w3) := HB2.out.trans (hb3.mono HB2.out.size)
    have HBW3 : Hid (Below W.heap.size W w3) := HB1.out.trans (HB13.out.mono HB1.out.size)
    clear ho3 hb3
    go_wp2_with fail
    refine (plain_any _ l _ (HX.out.below HBW3.out) (by have := HLE.out; omega)).mono ?_
    rintro e w4 ⟨ao4, cap4, rfl, ho4, hb4⟩
    have HO4 : Hid (OwnX w4 w3.heap.size 51 (.slice ao4 l.length cap4) l) := ho4
    have HB4 : Hid (Below w3.heap.size w3 w4) := hb4
    clear ho4 hb4
    go_wp2_with fail
    refine (refNormal_any _ l _ HO4.out.xs HE.out (by have := HLE.out; omega)).mono ?_
    rintro e w5 ⟨ao5, cap5, rfl, ho5, hb5⟩
    have HB35 : Hid (Below w3.heap.size w3 w5) := HB4.out.trans (hb5.mono HB4.out.size)
    have HO5 : Hid (OwnX w5 w3.heap.size 51 (.slice ao5 (normList l).length cap5) (normList l)) := ho5.mono HB4.out.size
    have HY5 : Hid (OwnX w5 w2.heap.size 48 (.slice ao3 (normList l).length cap3) (normList l)) := HO3.out.below HB35.out
    have HB25 : Hid (Below w2.heap.size w2 w5) := HB3.out.trans (HB35.out.mono HB3.out.size)
    have HX5 : Hid (OwnX w5 w1.heap.size 48 (.slice ao2 (normList l).length cap2) (normList l)) := HO2.out.below HB25.out
    have HB15 : Hid (Below w1.heap.size w1 w5) := HB2.out.trans (HB25.out.mono HB2.out.size)
    have HL5 : Hid (Lent w5 W.heap.size x1 l) := HL1.out.below HB15.out
    have HBW5 : Hid (Below W.heap.size W w5) := HB1.out.trans (HB15.out.mono HB1.out.size)
    have H2L : Hid (∀ j, (Value.slice ao2 (normList l).length cap2).ownBlock = some j → w1.heap.size ≤ j ∧ j < w2.heap.size) := fun j hj => HO2.out.lt j hj
    have H23 : Hid (w2.heap.size ≤ w3.heap.size) := HB3.out.size
    have H01 : Hid (W.heap.size ≤ w1.heap.size) := HB1.out.size
    have HL1L : Hid (∀ j, x1.ownBlock = some j → j < w1.heap.size) := fun j hj => (HL1.out.ltN j hj).2
    clear ho5 hb5 HO2 HB2 HO3 HB3 HB13 HBW3 HO4 HB4 HB35 HB25 HB15 HL1 HB1
    go_wp2_with fail
    refine (same_any _ _ (normList l) (normList l) _ HX5.out.xs HO5.out.xs HTL.out HTL.out).mono ?_
    rintro e w6 ⟨rfl, hb6⟩
    rw [show decide (normList l = normList l) = true by simp]
    have HB6 : Hid (Below w5.heap.size w5 w6) := hb6
    clear hb6
    go_wp2_with fail
    refine (kept_any _ _ l W.heap.size _ (HL5.out.below HB6.out) ((HX.out.below HBW5.out).below HB6.out) (by have := HLE.out; omega)).mono ?_
    rintro e w7 ⟨rfl, hb7⟩
    have HB7 : Hid (Below w5.heap.size w5 w7) := HB6.out.trans (hb7.mono HB6.out.size)
    clear hb7
    go_wp2_with fail
    refine (spoil_any _ (normList l) w1.heap.size _ (HX5.out.below HB7.out) HTL.out).mono ?_
    rintro e w8 ⟨rfl, hg8⟩
    have HBW7 : Hid (Below W.heap.size W w7) := HBW5.out.trans (HB7.out.mono HBW5.out.size)
    have HBW8 : Hid (Below W.heap.size W w8) := HBW7.out.grown hg8 HBW7.out.size (fun j hj => Nat.le_trans H01.out (H2L.out j hj).1)
    have HL8 : Hid (Lent w8 W.heap.size x1 l) := (HL5.out.below HB7.out).grown hg8 (fun j hj e => by have h1 := (H2L.out j hj).1; have h2 := HL1L.out j e; omega)
    have HY8 : Hid (OwnX w8 w2.heap.size 48 (.slice ao3 (normList l).length cap3) (normList l)) := (HY5.out.below HB7.out).grown hg8 (fun j hj e => by have h1 := (H2L.out j hj).2; have h2 := (HY5.out.lt j e).1; omega)
    have HO8 : Hid (OwnX w8 w3.heap.size 51 (.slice ao5 (normList l).length cap5) (normList l)) := (HO5.out.below HB7.out).grown hg8 (fun j hj e => by have h1 := (H2L.out j hj).2; have h2 := (HO5.out.lt j e).1; have h3 := H23.out; omega)
    clear hg8
    go_wp2_with fail
    refine (same_any _ _ (normList l) (normList l) _ HY8.out.xs HO8.out.xs HTL.out HTL.out).mono ?_
    rintro e w9 ⟨rfl, hb9⟩
    rw [show decide (normList l = normList l) = true by simp]
    have HB9 : Hid (Below w8.heap.size w8 w9) := hb9
    have HBW9 : Hid (Below W.heap.size W w9) := HBW8.out.trans (hb9.mono HBW8.out.size)
    clear hb9
    go_wp2_with fail
    refine (kept_any _ _ l W.heap.size _ (HL8.out.below HB9.out) (HX.out.below HBW9.out) (by have := HLE.out; omega)).mono ?_
    rintro e w10 ⟨rfl, hb10⟩
    have HBW10 : Hid (Below W.heap.size W w10) := HBW9.out.trans (hb10.mono HBW9.out.size)
    clear hb10
    go_wp2_with fail
    refine (lives_any _).mono ?_
    rintro e w11 ⟨rfl, hb11⟩
    go_wp2_with fail
    go_ret
    exact ⟨rfl, HBW10.out.trans (hb11.mono HBW10.out.size)⟩
end Go.Proofs.Ytbpaiioonljlpab

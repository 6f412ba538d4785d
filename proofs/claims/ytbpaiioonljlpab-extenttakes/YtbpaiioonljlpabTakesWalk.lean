/-
  The walk of the law ExtentTakes.
-/
import Derived.Test.YtbpaiioonljlpabXLives
import Derived.Test.YtbpaiioonljlpabXRefTake
namespace Go.Proofs.Ytbpaiioonljlpab
open Go.RowKit Go.Sort Go.Shelf Go.Lib
set_option linter.unusedVariables false
set_option maxRecDepth 100000

theorem Lent.lt {w : World} {B : Nat} {v : Value} {l : List Ext} (h : Lent w B v l) : ∀ k, v.ownBlock = some k → B ≤ k ∧ k < w.heap.size := by
  obtain ⟨g, cap, rfl, hB, hx⟩ := h
  intro k hk
  cases hk
  obtain ⟨ao, c, hv, _, hcell⟩ := hx.opened
  obtain ⟨b, off, e, q1, _, hb⟩ := hcell 0 (by simp)
  injection hv with e1
  rw [e] at e1
  injection e1 with e1
  injection e1 with e1
  subst e1
  exact ⟨hB, hb⟩

set_option maxHeartbeats 8000000 in
theorem extentTakes_walk (v : Value) (l : List Ext) (n : Int) (W : World) (hx : Xs W v l) (hE : EWs l) (hlen : l.length ≤ 8796093021952) (hn : (Lit.int .i64 n).wf = true) :
    Calls Try.prog 6 #[v, .int .i64 n] W fun e W' => e = .returned (.bool true) ∧ Below W.heap.size W W' := by
  have HX : Hid (Xs W v l) := hx
  have HE : Hid (EWs l) := hE
  have HLE : Hid (l.length ≤ 8796093021952) := hlen
  clear hx hE hlen hn
  cases hf : fewB l with
  | false =>
    go_enter Try.func6, Try.ntmps6
    go_wp2_with (first | (go_at_call 8; refine (few_any _ l _ HX.out (by have := HLE.out; omega)).mono ?_; rintro e w' ⟨rfl, hw'⟩; obtain rfl := hw'.symm; rw [hf]) | (go_at_call 9; refine (lives_any _).mono ?_; rintro e w' ⟨rfl, hb⟩))
    go_ret
    exact ⟨rfl, hb⟩
  | true =>
    go_enter Try.func6, Try.ntmps6
    go_wp2_with (first | (go_at_call 8; refine (few_any _ l _ HX.out (by have := HLE.out; omega)).mono ?_; rintro e w' ⟨rfl, hw'⟩; obtain rfl := hw'.symm; rw [hf]; clear hf) | (go_at_call 10; refine (lent_any _ l _ HX.out (by have := HLE.out; omega)).mono ?_; rintro e w1 ⟨x1, rfl, hl1, hb1⟩; have HL1 : Hid (Lent w1 W.heap.size x1 l) := hl1; have HB1 : Hid (Below W.heap.size W w1) := hb1; clear hl1 hb1) | (go_at_call 25; refine (take_any _ l n _ HL1.out.xs HE.out (by have := HLE.out; omega)).mono ?_; rintro e w2 ⟨ao2, cap2, rfl, ho2, hb2⟩; have HO2 : Hid (OwnX w2 w1.heap.size 48 (.slice ao2 (takeList l n).length cap2) (takeList l n)) := ho2; have HB2 : Hid (Below w1.heap.size w1 w2) := hb2; clear ho2 hb2) | (go_at_call 13; refine (plain_any _ l _ (HX.out.below (HB1.out.trans (HB2.out.mono HB1.out.size))) (by have := HLE.out; omega)).mono ?_; rintro e w3 ⟨ao3, cap3, rfl, ho3, hb3⟩; have HO3 : Hid (OwnX w3 w2.heap.size 51 (.slice ao3 l.length cap3) l) := ho3; have HB3 : Hid (Below w2.heap.size w2 w3) := hb3; clear ho3 hb3) | (go_at_call 26; refine (refTake_any _ l n _ HO3.out.xs HE.out (by have := HLE.out; omega)).mono ?_; rintro e w4 ⟨x4, rfl, ho4, hb4⟩; have HO4 : Hid (OwnX w4 w3.heap.size 51 x4 (takeList l n)) := ho4; have HB4 : Hid (Below w3.heap.size w3 w4) := hb4; have HB24 : Hid (Below w2.heap.size w2 w4) := HB3.out.trans (hb4.mono HB3.out.size); have HB14 : Hid (Below w1.heap.size w1 w4) := HB2.out.trans (HB24.out.mono HB2.out.size); have HBW4 : Hid (Below W.heap.size W w4) := HB1.out.trans (HB14.out.mono HB1.out.size); clear ho4 hb4) | fail)
    have HTL : Hid ((takeList l n).length ≤ 8796093022208) := by have h1 := takeList_length l n; have h2 := HLE.out; unfold Hid; omega
    refine (same_any _ _ (takeList l n) (takeList l n) _ (HO2.out.xs.below HB24.out) HO4.out.xs HTL.out HTL.out).mono ?_
    rintro e w5 ⟨rfl, hb5⟩
    rw [show decide (takeList l n = takeList l n) = true by simp]
    have HB5 : Hid (Below w4.heap.size w4 w5) := hb5
    have HB15 : Hid (Below w1.heap.size w1 w5) := HB14.out.trans (hb5.mono HB14.out.size)
    have HB25 : Hid (Below w2.heap.size w2 w5) := HB24.out.trans (hb5.mono HB24.out.size)
    have HBW5 : Hid (Below W.heap.size W w5) := HBW4.out.trans (hb5.mono HBW4.out.size)
    clear hb5
    go_wp2_with fail
    refine (kept_any _ _ l W.heap.size _ (HL1.out.below HB15.out) (HX.out.below HBW5.out) (by have := HLE.out; omega)).mono ?_
    rintro e w6 ⟨rfl, hb6⟩
    have HB16 : Hid (Below w1.heap.size w1 w6) := HB15.out.trans (hb6.mono HB15.out.size)
    have HB26 : Hid (Below w2.heap.size w2 w6) := HB25.out.trans (hb6.mono HB25.out.size)
    have HBW6 : Hid (Below W.heap.size W w6) := HBW5.out.trans (hb6.mono HBW5.out.size)
    clear hb6
    go_wp2_with fail
    refine (spoil_any _ (takeList l n) w1.heap.size _ (HO2.out.below HB26.out) HTL.out).mono ?_
    rintro e w7 ⟨rfl, hg7⟩
    have HOL : Hid (∀ j, (Value.slice ao2 (takeList l n).length cap2).ownBlock = some j → w1.heap.size ≤ j) := fun j hj => (HO2.out.lt j hj).1
    have HBW7 : Hid (Below W.heap.size W w7) := HBW6.out.grown hg7 HBW6.out.size (fun j hj => Nat.le_trans HB1.out.size (HOL.out j hj))
    have HL7 : Hid (Lent w7 W.heap.size x1 l) := (HL1.out.below HB16.out).grown hg7 (fun j hj e => by have h1 := HOL.out j hj; have h2 := (HL1.out.lt j e).2; omega)
    clear hg7
    go_wp2_with fail
    refine (kept_any _ _ l W.heap.size _ HL7.out (HX.out.below HBW7.out) (by have := HLE.out; omega)).mono ?_
    rintro e w8 ⟨rfl, hb8⟩
    have HBW8 : Hid (Below W.heap.size W w8) := HBW7.out.trans (hb8.mono HBW7.out.size)
    clear hb8
    go_wp2_with fail
    refine (lives_any _).mono ?_
    rintro e w9 ⟨rfl, hb9⟩
    go_wp2_with fail
    go_ret
    exact ⟨rfl, HBW8.out.trans (hb9.mono HBW8.out.size)⟩
end Go.Proofs.Ytbpaiioonljlpab

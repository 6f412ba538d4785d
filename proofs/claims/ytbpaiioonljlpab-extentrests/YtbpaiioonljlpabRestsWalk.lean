/-
  The walk of the law ExtentRests.
-/
import Derived.Test.YtbpaiioonljlpabXLives
import Derived.Test.YtbpaiioonljlpabXRefRest
namespace Go.Proofs.Ytbpaiioonljlpab
open Go.RowKit Go.Sort Go.Shelf Go.Lib
set_option linter.unusedVariables false
set_option maxRecDepth 100000

theorem restList_length (l : List Ext) (size : Int) (h : l.length ≤ 8796093021952) : (restList l size).length ≤ 8796093022208 := by
  unfold restList
  split
  · have h1 := gapsTo_length (normL l)
    have h2 := gapB_length (gapsTo (normL l)).1 size
    have h3 := normL_len l
    unfold gapsL; rw [List.length_append]; omega
  · simp

set_option maxHeartbeats 8000000 in
theorem extentRests_walk (v : Value) (l : List Ext) (size : Int) (W : World) (hx : Xs W v l) (hE : EWs l) (hlen : l.length ≤ 8796093021952) (hn : (Lit.int .i64 size).wf = true) :
    Calls Try.prog 5 #[v, .int .i64 size] W fun e W' => e = .returned (.bool true) ∧ Below W.heap.size W W' := by
  have HX : Hid (Xs W v l) := hx
  have HE : Hid (EWs l) := hE
  have HLE : Hid (l.length ≤ 8796093021952) := hlen
  clear hx hE hlen hn
  cases hf : fewB l with
  | false =>
    go_enter Try.func5, Try.ntmps5
    go_wp2_with (first | (go_at_call 8; refine (few_any _ l _ HX.out (by have := HLE.out; omega)).mono ?_; rintro e w' ⟨rfl, hw'⟩; obtain rfl := hw'.symm; rw [hf]) | (go_at_call 9; refine (lives_any _).mono ?_; rintro e w' ⟨rfl, hb⟩))
    go_ret
    exact ⟨rfl, hb⟩
  | true =>
    have HTL : Hid ((restList l size).length ≤ 8796093022208) := restList_length l size HLE.out
    go_enter Try.func5, Try.ntmps5
    go_wp2_with (first | (go_at_call 8; refine (few_any _ l _ HX.out (by have := HLE.out; omega)).mono ?_; rintro e w' ⟨rfl, hw'⟩; obtain rfl := hw'.symm; rw [hf]; clear hf) | (go_at_call 10; refine (lent_any _ l _ HX.out (by have := HLE.out; omega)).mono ?_; rintro e w1 ⟨x1, rfl, hl1, hb1⟩; have HL1 : Hid (Lent w1 W.heap.size x1 l) := hl1; have HB1 : Hid (Below W.heap.size W w1) := hb1; clear hl1 hb1) | fail)
    refine (rest_any _ l size _ HL1.out.xs HE.out (by have := HLE.out; omega)).mono ?_
    rintro e w2 ⟨x2, rfl, ho2, hb2⟩
    have HO2 : Hid (OwnX w2 w1.heap.size 48 x2 (restList l size)) := ho2
    have HB2 : Hid (Below w1.heap.size w1 w2) := hb2
    have HBW2 : Hid (Below W.heap.size W w2) := HB1.out.trans (hb2.mono HB1.out.size)
    clear ho2 hb2
    go_wp2_with fail
    refine (plain_any _ l _ (HX.out.below HBW2.out) (by have := HLE.out; omega)).mono ?_
    rintro e w4 ⟨ao4, cap4, rfl, ho4, hb4⟩
    have HO4 : Hid (OwnX w4 w2.heap.size 51 (.slice ao4 l.length cap4) l) := ho4
    have HB4 : Hid (Below w2.heap.size w2 w4) := hb4
    clear ho4 hb4
    go_wp2_with fail
    refine (refRest_any _ l size _ HO4.out.xs HE.out (by have := HLE.out; omega)).mono ?_
    rintro e w5 ⟨x5, rfl, ho5, hb5⟩
    have HB25 : Hid (Below w2.heap.size w2 w5) := HB4.out.trans (hb5.mono HB4.out.size)
    have HO5 : Hid (OwnX w5 w4.heap.size 51 x5 (restList l size)) := ho5
    have HX5 : Hid (OwnX w5 w1.heap.size 48 x2 (restList l size)) := HO2.out.below HB25.out
    have HB15 : Hid (Below w1.heap.size w1 w5) := HB2.out.trans (HB25.out.mono HB2.out.size)
    have HL5 : Hid (Lent w5 W.heap.size x1 l) := HL1.out.below HB15.out
    have HBW5 : Hid (Below W.heap.size W w5) := HB1.out.trans (HB15.out.mono HB1.out.size)
    clear ho5 hb5 HO2 HB2 HBW2 HO4 HB4 HB25 HB15 HL1 HB1
    go_wp2_with fail
    refine (same_any _ _ (restList l size) (restList l size) _ HX5.out.xs HO5.out.xs HTL.out HTL.out).mono ?_
    rintro e w6 ⟨rfl, hb6⟩
    rw [show decide (restList l size = restList l size) = true by simp]
    have HB6 : Hid (Below w5.heap.size w5 w6) := hb6
    have HBW6 : Hid (Below W.heap.size W w6) := HBW5.out.trans (hb6.mono HBW5.out.size)
    clear hb6
    go_wp2_with fail
    refine (kept_any _ _ l W.heap.size _ (HL5.out.below HB6.out) (HX.out.below HBW6.out) (by have := HLE.out; omega)).mono ?_
    rintro e w7 ⟨rfl, hb7⟩
    have HBW7 : Hid (Below W.heap.size W w7) := HBW6.out.trans (hb7.mono HBW6.out.size)
    clear hb7
    go_wp2_with fail
    refine (lives_any _).mono ?_
    rintro e w8 ⟨rfl, hb8⟩
    go_wp2_with fail
    go_ret
    exact ⟨rfl, HBW7.out.trans (hb8.mono HBW7.out.size)⟩
end Go.Proofs.Ytbpaiioonljlpab

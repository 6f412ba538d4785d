/-
  The walk of the law ExtentGoods.
-/
import Derived.Test.YtbpaiioonljlpabXLives
import Derived.Test.YtbpaiioonljlpabXRefTotal
namespace Go.Proofs.Ytbpaiioonljlpab
open Go.RowKit Go.Sort Go.Shelf Go.Lib
set_option linter.unusedVariables false
set_option maxRecDepth 100000

set_option maxHeartbeats 8000000 in
theorem extentGoods_walk (v : Value) (l : List Ext) (n : Int) (W : World) (hx : Xs W v l) (hE : EWs l) (hlen : l.length ≤ 8796093021952) (hn : (Lit.int .i64 n).wf = true) :
    Calls Try.prog 3 #[v, .int .i64 n] W fun e W' => e = .returned (.bool true) ∧ Below W.heap.size W W' := by
  have HX : Hid (Xs W v l) := hx
  have HE : Hid (EWs l) := hE
  have HLE : Hid (l.length ≤ 8796093021952) := hlen
  obtain ⟨ao, cap, rfl, hcap, _⟩ := hx.opened
  clear hx hE hn
  obtain ⟨N, HN⟩ : ∃ N, Hid (l.length = N) := ⟨_, rfl⟩
  rw [HN.out] at hcap hlen HX ⊢
  cases hf : fewB l with
  | false =>
    go_enter Try.func3, Try.ntmps3
    go_wp2_with (first | (go_at_call 8; refine (few_any _ l _ HX.out (by have := HLE.out; omega)).mono ?_; rintro e w' ⟨rfl, hw'⟩; obtain rfl := hw'.symm; rw [hf]) | (go_at_call 9; refine (lives_any _).mono ?_; rintro e w' ⟨rfl, hb⟩))
    go_ret
    exact ⟨rfl, hb⟩
  | true =>
    go_enter Try.func3, Try.ntmps3
    go_wp2_with (first | (go_at_call 8; refine (few_any _ l _ HX.out (by have := HLE.out; omega)).mono ?_; rintro e w' ⟨rfl, hw'⟩; obtain rfl := hw'.symm; rw [hf]; clear hf) | (go_at_call 10; refine (lent_any _ l _ HX.out (by have := HLE.out; omega)).mono ?_; rintro e w1 ⟨x1, rfl, hl1, hb1⟩; have HL1 : Hid (Lent w1 W.heap.size x1 l) := hl1; have HB1 : Hid (Below W.heap.size W w1) := hb1; clear hl1 hb1) | (go_at_call 11; refine (good_any _ l n _ HL1.out.xs HE.out (by have := HLE.out; omega)).mono ?_; rintro e w2 ⟨rfl, hb2⟩; have HB12 : Hid (Below w1.heap.size w1 w2) := hb2; have HBW2 : Hid (Below W.heap.size W w2) := HB1.out.trans (hb2.mono HB1.out.size); clear hb2))
    refine (plain_any _ l _ (HX.out.below HBW2.out) (by have := HLE.out; omega)).mono ?_
    rintro e w3 ⟨ao3, cap3, rfl, ho3, hb3⟩
    have HO3 : Hid (OwnX w3 w2.heap.size 51 (.slice ao3 l.length cap3) l) := ho3
    have HB13 : Hid (Below w1.heap.size w1 w3) := HB12.out.trans (hb3.mono HB12.out.size)
    clear ho3 hb3
    go_wp2_with fail
    refine (refGood_any _ l n _ HO3.out.xs HE.out (by have := HLE.out; omega)).mono ?_
    rintro e w4 ⟨rfl, hb4⟩
    have HB14 : Hid (Below w1.heap.size w1 w4) := HB13.out.trans (hb4.mono HB13.out.size)
    clear hb4
    go_wp2_with fail
    refine (total_any _ l _ (HL1.out.below HB14.out).xs HE.out (by have := HLE.out; omega)).mono ?_
    rintro e w5 ⟨rfl, hb5⟩
    have HB15 : Hid (Below w1.heap.size w1 w5) := HB14.out.trans (hb5.mono HB14.out.size)
    have HBW5 : Hid (Below W.heap.size W w5) := HB1.out.trans (HB15.out.mono HB1.out.size)
    clear hb5
    go_wp2_with fail
    refine (plain_any _ l _ (HX.out.below HBW5.out) (by have := HLE.out; omega)).mono ?_
    rintro e w6 ⟨ao6, cap6, rfl, ho6, hb6⟩
    have HO6 : Hid (OwnX w6 w5.heap.size 51 (.slice ao6 l.length cap6) l) := ho6
    have HB16 : Hid (Below w1.heap.size w1 w6) := HB15.out.trans (hb6.mono HB15.out.size)
    clear ho6 hb6
    go_wp2_with fail
    refine (refTotal_any _ l _ HO6.out.xs HE.out (by have := HLE.out; omega)).mono ?_
    rintro e w7 ⟨rfl, hb7⟩
    have HB17 : Hid (Below w1.heap.size w1 w7) := HB16.out.trans (hb7.mono HB16.out.size)
    have HBW7 : Hid (Below W.heap.size W w7) := HB1.out.trans (HB17.out.mono HB1.out.size)
    clear hb7
    by_cases h300 : 300 < N
    · have h300' : decide (300 < (N : Int)) = true := by simp; omega
      go_wp2_with fail
      refine (kept_any _ _ l W.heap.size _ (HL1.out.below HB17.out) (HX.out.below HBW7.out) (by have := HLE.out; omega)).mono ?_
      rintro e w11 ⟨rfl, hb11⟩
      have HBW11 : Hid (Below W.heap.size W w11) := HBW7.out.trans (hb11.mono HBW7.out.size)
      clear hb11
      go_wp2_with fail
      refine (lives_any _).mono ?_
      rintro e w12 ⟨rfl, hb12⟩
      go_wp2_with fail
      go_ret
      exact ⟨rfl, HBW11.out.trans (hb12.mono HBW11.out.size)⟩
    · have h300' : decide (300 < (N : Int)) = false := by simp; omega
      go_wp2_with fail
      refine (meets_any _ l _ (HL1.out.below HB17.out).xs HE.out (by have := HLE.out; omega)).mono ?_
      rintro e w8 ⟨rfl, hb8⟩
      have HB18 : Hid (Below w1.heap.size w1 w8) := HB17.out.trans (hb8.mono HB17.out.size)
      have HBW8 : Hid (Below W.heap.size W w8) := HB1.out.trans (HB18.out.mono HB1.out.size)
      clear hb8
      go_wp2_with fail
      refine (plain_any _ l _ (HX.out.below HBW8.out) (by have := HLE.out; omega)).mono ?_
      rintro e w9 ⟨ao9, cap9, rfl, ho9, hb9⟩
      have HO9 : Hid (OwnX w9 w8.heap.size 51 (.slice ao9 l.length cap9) l) := ho9
      have HB19 : Hid (Below w1.heap.size w1 w9) := HB18.out.trans (hb9.mono HB18.out.size)
      clear ho9 hb9
      go_wp2_with fail
      refine (refMeets_any _ l _ HO9.out.xs HE.out (by have := HLE.out; omega)).mono ?_
      rintro e w10 ⟨rfl, hb10⟩
      have HB110 : Hid (Below w1.heap.size w1 w10) := HB19.out.trans (hb10.mono HB19.out.size)
      have HBW10 : Hid (Below W.heap.size W w10) := HB1.out.trans (HB110.out.mono HB1.out.size)
      clear hb10
      go_wp2_with fail
      refine (kept_any _ _ l W.heap.size _ (HL1.out.below HB110.out) (HX.out.below HBW10.out) (by have := HLE.out; omega)).mono ?_
      rintro e w11 ⟨rfl, hb11⟩
      have HBW11 : Hid (Below W.heap.size W w11) := HBW10.out.trans (hb11.mono HBW10.out.size)
      clear hb11
      go_wp2_with fail
      refine (lives_any _).mono ?_
      rintro e w12 ⟨rfl, hb12⟩
      go_wp2_with fail
      go_ret
      exact ⟨rfl, HBW11.out.trans (hb12.mono HBW11.out.size)⟩
end Go.Proofs.Ytbpaiioonljlpab

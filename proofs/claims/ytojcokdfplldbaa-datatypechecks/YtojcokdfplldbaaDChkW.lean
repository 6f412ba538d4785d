/-
  Any type may be, or not, and has the size, as the document says: the law's walk. No conditions.
-/
import Derived.Test.YtojcokdfplldbaaRSized
import Derived.Test.YtojcokdfplldbaaRSameY
import Derived.Test.YtojcokdfplldbaaROwnZ
import Derived.Test.YtojcokdfplldbaaDLiv
import Derived.Test.YtojcokdfplldbaaDLeft
namespace Go.Proofs.Ytojcokdfplldbaa
open Go.RowKit Go.Shelf
set_option linter.unusedVariables false
set_option maxRecDepth 100000

set_option maxHeartbeats 32000000 in
theorem datatypeChecks_walk (n : Nat) (T : Ty n) (V : TV) (w : World) (h : TR n w V T) :
    Calls Try.prog 3 #[tyV (hd T) V] w fun e w' => e = .returned (.bool true) ∧ Below w.heap.size w w' := by
  have HBG : Hid (∀ w', Below w.heap.size w w' → Calls Try.prog 9 #[.agg #[.int .i64 (hd T).1, .int .i64 (hd T).2.1, .bool (hd T).2.2, V.f, V.d, V.b, V.n]] w' fun e w2 => (∃ b, e = .returned (.bool b)) ∧ Below w'.heap.size w' w2) := fun w' hb => big_any n T V w' (h.below hb)
  have HOW : Hid (∀ w', Below w.heap.size w w' → Calls Try.prog 11 #[.agg #[.int .i64 (hd T).1, .int .i64 (hd T).2.1, .bool (hd T).2.2, V.f, V.d, V.b, V.n]] w' (OwnP T w')) := fun w' hb => own_any n T V w' (h.below hb)
  have HRZ : Hid (∀ w', Below w.heap.size w w' → Calls Try.prog 13 #[.agg #[.int .i64 (hd T).1, .int .i64 (hd T).2.1, .bool (hd T).2.2, V.f, V.d, V.b, V.n]] w' fun e w2 => e = .returned (.tuple #[.int .i64 (sz n T 1), .int .i64 (szE T)]) ∧ Below w'.heap.size w' w2) := fun w' hb => refSize_any n T V w' (h.below hb)
  have HLI : Hid (∀ w', Calls Try.prog 10 #[] w' fun e w2 => e = .returned (.bool true) ∧ Below w'.heap.size w' w2) := fun w' => lives9_any w'
  have HSZ : Hid (∀ (U : TV) w', TR n w' U T → Calls Try.prog 12 #[.agg #[.int .i64 (hd T).1, .int .i64 (hd T).2.1, .bool (hd T).2.2, U.f, U.d, U.b, U.n]] w' fun e w2 => e = .returned (.tuple #[.int .i64 (sz n T 1), .int .i64 (szE T)]) ∧ Below w'.heap.size w' w2) := fun U w' hu => size_any n T U w' hu
  have HCK : Hid (∀ (U : TV) w', TR n w' U T → Calls Try.prog 14 #[.agg #[.int .i64 (hd T).1, .int .i64 (hd T).2.1, .bool (hd T).2.2, U.f, U.d, U.b, U.n]] w' fun e w2 => e = .returned (.int .i64 (szE T)) ∧ Below w'.heap.size w' w2) := fun U w' hu => check_any n T U w' hu
  have HSM : Hid (∀ (U : TV) w', Below w.heap.size w w' → TR n w' U T → Calls Try.prog 15 #[.agg #[.int .i64 (hd T).1, .int .i64 (hd T).2.1, .bool (hd T).2.2, U.f, U.d, U.b, U.n], .agg #[.int .i64 (hd T).1, .int .i64 (hd T).2.1, .bool (hd T).2.2, V.f, V.d, V.b, V.n]] w' fun e w2 => e = .returned (.bool true) ∧ Below w'.heap.size w' w2) := fun U w' hb hu => refSame_yes n T U V w' hu (h.below hb)
  have hOP : ∀ w', OwnP T w' = fun e w2 => ∃ a1 m1 c1 a2 m2 c2 a3 m3 c3 a4 m4 c4, e = .returned (.agg #[.int .i64 (hd T).1, .int .i64 (hd T).2.1, .bool (hd T).2.2, .slice a1 m1 c1, .slice a2 m2 c2, .slice a3 m3 c3, .slice a4 m4 c4]) ∧ Below w'.heap.size w' w2 ∧ ∀ W, (∀ x, w'.heap.size ≤ x → x < w2.heap.size → W.heap[x]? = w2.heap[x]?) → TR n W ⟨.slice a1 m1 c1, .slice a2 m2 c2, .slice a3 m3 c3, .slice a4 m4 c4⟩ T := fun w' => OwnP.eq1 rfl rfl rfl
  simp only [hOP] at HOW
  unfold tyV
  clear h hOP
  generalize szE T = E at *
  generalize sz n T 1 = Z at *
  generalize (hd T).1 = x1 at *
  generalize (hd T).2.1 = x2 at *
  generalize (hd T).2.2 = x3 at *
  obtain ⟨w1, hw1, hb1, hs1, hx1⟩ := bx_made w x1 x2 x3 V.f V.d V.b V.n
  have HB1 : Hid (Below w.heap.size w w1) := hb1
  have HX1 : Hid (∀ w', Below w1.heap.size w1 w' → Bx w' w.heap.size x1 x2 x3 V.f V.d V.b V.n) := fun w' hb => hx1.below hb
  obtain ⟨c0, c1, c2, c3, c4, c5, c6⟩ := hx1
  clear hb1 hs1
  go_enter Try.func3, Try.ntmps3
  go_wp2_with fail
  refine Calls.mono (HBG.out _ HB1.out) ?_
  rintro e w2 ⟨⟨b, rfl⟩, hb2⟩
  have HB2 : Hid (Below w1.heap.size w1 w2) := hb2
  clear c0 c1 c2 c3 c4 c5 c6
  obtain ⟨c0, c1, c2, c3, c4, c5, c6⟩ := HX1.out w2 hb2
  clear hb2
  cases b with
  | true =>
    go_wp2_with (go_at_call 10; refine Calls.mono (HLI.out _) ?_; rintro e w3 ⟨rfl, hb3⟩; have HB3 : Hid (Below w.heap.size w w3) := bel_next (bel_next HB1.out HB2.out) hb3; clear hb3)
    go_ret
    exact ⟨rfl, HB3.out⟩
  | false =>
    go_wp2_with fail
    refine Calls.mono (HOW.out _ (bel_next HB1.out HB2.out)) ?_
    rintro e w3 ⟨a1, m1, k1, a2, m2, k2, a3, m3, k3, a4, m4, k4, rfl, hb3, hst⟩
    have HB3 : Hid (Below w1.heap.size w1 w3) := bel_next HB2.out hb3
    have HT3 : Hid (TR n w3 ⟨.slice a1 m1 k1, .slice a2 m2 k2, .slice a3 m3 k3, .slice a4 m4 k4⟩ T) := hst w3 (fun x _ _ => rfl)
    obtain ⟨w4, hw4, hb4, hs4, hx4⟩ := bx_made w3 x1 x2 x3 (.slice a1 m1 k1) (.slice a2 m2 k2) (.slice a3 m3 k3) (.slice a4 m4 k4)
    have HB4 : Hid (Below w3.heap.size w3 w4) := hb4
    have HX4 : Hid (∀ w', Below w4.heap.size w4 w' → Bx w' w3.heap.size x1 x2 x3 (.slice a1 m1 k1) (.slice a2 m2 k2) (.slice a3 m3 k3) (.slice a4 m4 k4)) := fun w' hb => hx4.below hb
    have HZ4 : Hid _ := HSZ.out ⟨.slice a1 m1 k1, .slice a2 m2 k2, .slice a3 m3 k3, .slice a4 m4 k4⟩ w4 (HT3.out.below hb4)
    obtain ⟨d0, d1, d2, d3, d4, d5, d6⟩ := hx4
    clear c0 c1 c2 c3 c4 c5 c6 hb3 hst hb4 hs4
    go_wp2_with fail
    refine Calls.mono HZ4.out ?_
    rintro e w5 ⟨rfl, hb5⟩
    have HB5 : Hid (Below w4.heap.size w4 w5) := hb5
    have HB15 : Hid (Below w1.heap.size w1 w5) := bel_next (bel_next HB3.out HB4.out) hb5
    clear d0 d1 d2 d3 d4 d5 d6
    obtain ⟨c0, c1, c2, c3, c4, c5, c6⟩ := HX1.out w5 HB15.out
    clear hb5
    go_wp2_with fail
    refine Calls.mono (HRZ.out _ (bel_next HB1.out HB15.out)) ?_
    rintro e w6 ⟨rfl, hb6⟩
    have HB46 : Hid (Below w4.heap.size w4 w6) := bel_next HB5.out hb6
    have HB16 : Hid (Below w1.heap.size w1 w6) := bel_next HB15.out hb6
    clear c0 c1 c2 c3 c4 c5 c6
    obtain ⟨d0, d1, d2, d3, d4, d5, d6⟩ := HX4.out w6 HB46.out
    have HC6 : Hid _ := HCK.out ⟨.slice a1 m1 k1, .slice a2 m2 k2, .slice a3 m3 k3, .slice a4 m4 k4⟩ w6 (HT3.out.below (bel_next HB4.out HB46.out))
    clear hb6
    go_wp2_with fail
    refine Calls.mono HC6.out ?_
    rintro e w7 ⟨rfl, hb7⟩
    have HB47 : Hid (Below w4.heap.size w4 w7) := bel_next HB46.out hb7
    have HB17 : Hid (Below w1.heap.size w1 w7) := bel_next HB16.out hb7
    clear d0 d1 d2 d3 d4 d5 d6
    obtain ⟨d0, d1, d2, d3, d4, d5, d6⟩ := HX4.out w7 HB47.out
    obtain ⟨c0, c1, c2, c3, c4, c5, c6⟩ := HX1.out w7 HB17.out
    have HS7 : Hid _ := HSM.out ⟨.slice a1 m1 k1, .slice a2 m2 k2, .slice a3 m3 k3, .slice a4 m4 k4⟩ w7 (bel_next HB1.out HB17.out) (HT3.out.below (bel_next HB4.out HB47.out))
    clear hb7
    go_wp2_with fail
    refine Calls.mono HS7.out ?_
    rintro e w8 ⟨rfl, hb8⟩
    have HB18 : Hid (Below w1.heap.size w1 w8) := bel_next HB17.out hb8
    clear hb8
    go_wp2_with fail
    refine Calls.mono (HLI.out _) ?_
    rintro e w9 ⟨rfl, hb9⟩
    have HB9 : Hid (Below w.heap.size w w9) := bel_next (bel_next HB1.out HB18.out) hb9
    clear hb9
    go_wp2_with fail
    go_ret
    exact ⟨rfl, HB9.out⟩
end Go.Proofs.Ytojcokdfplldbaa

/-
  The walk of the law OctetBack: it returns true, and writes nothing that was there. No condition but that the arguments fit their kinds.
-/
import Derived.Test.YtnmmpllokejelaaWalkF
import Derived.OpenShut
import Derived.Deep.RegionHeld3
namespace Go.Proofs.Ytnmmpllokejelaa
open Go.RowKit
set_option linter.unusedVariables false

theorem get_back (g m : Nat) (u : Int) (big : Bool) (w : World) (hr : Row w g (dig2 big u m)) (hu0 : 0 ≤ u) (hE : numErr u m = 0) :
    Calls Try.prog 15 #[.slice (some ⟨g, 0, none⟩) m m, .int .i64 0, .int .i64 m, .bool big] w fun e w' => e = .returned (.tuple #[.int .u64 u, .int .i64 0]) ∧ Below w.heap.size w w' := by
  obtain ⟨h1, h2, h3⟩ := numErr_zero hu0 hE
  rw [pow_toNat (by omega), Int.toNat_natCast] at h3
  have hlen := dig2_length big u m
  have hw := hr.whole
  rw [hlen] at hw
  have h := get_yes _ _ 0 m big w hw (by omega) (byt_dig2 big u m) (by omega) (by omega) (by omega)
  rw [List.drop_zero, List.take_of_length_le (by omega), val_back big hu0 h3] at h
  exact h

theorem put_back (m : Nat) (u : Int) (big : Bool) (w : World) (hu0 : 0 ≤ u) (hu1 : u < 18446744073709551616) (hE : numErr u m = 0) :
    Calls Try.prog 10 #[.slice none 0 0, .int .i64 m, .bool big, .int .u64 u] w fun e w' =>
      e = .returned (.tuple #[.slice (some ⟨w.heap.size, 0, none⟩) m m, .int .i64 0]) ∧ Row w' w.heap.size (dig2 big u m) ∧ Below w.heap.size w w' := by
  have h := put_yes (.slice none 0 0) [] u m big w (Bs.nil _) (by simp) hu0 hu1 hE
  simpa using h

set_option maxHeartbeats 2000000 in
theorem octetBack_walk (a0 a1 : Int) (w : World) (w0 : (Lit.int .i64 a0).wf = true) (w1 : (Lit.int .u64 a1).wf = true) :
    Calls Try.prog 8 #[.int .i64 a0, .int .u64 a1] w fun e w' => e = .returned (.bool true) ∧ Below w.heap.size w w' := by
  obtain ⟨hu0, hu1⟩ := bounds_u64 w1
  have hu1 : a1 < 18446744073709551616 := by omega
  clear w0 w1
  by_cases hE : numErr a1 a0 = 0
  · obtain ⟨h1, h2, _⟩ := numErr_zero hu0 hE
    obtain ⟨m, rfl⟩ := Int.eq_ofNat_of_zero_le (show 0 ≤ a0 by omega)
    go_enter Try.func8, Try.ntmps8
    go_wp2_with fail
    refine (put_back m a1 true w hu0 hu1 hE).mono ?_
    rintro e w1 ⟨rfl, hr1, hb1⟩
    have hz1 := hb1.size
    have hl1 := hr1.lt
    go_wp2_with fail
    refine (put_back m a1 false w1 hu0 hu1 hE).mono ?_
    rintro e w2 ⟨rfl, hr2, hb2⟩
    have hz2 := hb2.size
    have hl2 := hr2.lt
    have HX2 : Hid (Row w2 w.heap.size (dig2 true a1 m)) := hr1.below hb2 hl1
    have HB2 : Hid (Below w.heap.size w w2) := hb1.trans (hb2.mono hz1)
    clear hr1 hb1 hb2
    go_wp2_with fail
    refine (get_back _ m a1 true w2 HX2.out hu0 hE).mono ?_
    rintro e w3 ⟨rfl, hb3⟩
    have hz3 := hb3.size
    go_wp2_with fail
    refine (get_back _ m a1 false w3 (hr2.below hb3 hl2) hu0 hE).mono ?_
    rintro e w4 ⟨rfl, hb4⟩
    have hz4 := hb4.size
    have HB24 : Hid (Below w2.heap.size w2 w4) := hb3.trans (hb4.mono hz3)
    have hx4 := (HX2.out.below HB24.out (by omega)).whole
    have hy4 := (hr2.below HB24.out (by omega)).whole
    rw [dig2_length] at hx4 hy4
    have HY0 : Hid (Bs w4 (.slice (some ⟨w1.heap.size, 0, none⟩) m m) (dig2 false a1 m)) := hy4
    have HX4 : Hid (Bs w4.drew (.slice (some ⟨w.heap.size, 0, none⟩) m m) (dig2 true a1 m)) := hx4.drew
    have HLd : Hid ((dig2 true a1 m).length = m) := dig2_length _ _ _
    have HRv : Hid ((dig2 true a1 m).reverse = dig2 false a1 m) := by show _ = _; simp [dig2]
    have HF4 : Hid (Below w.heap.size w w4) := HB2.out.trans (HB24.out.mono (by omega))
    clear hx4 hy4 hb3 hb4 hr2 HB24 HX2 HB2 hz1 hz2 hz3 hz4 hl1 hl2 hu0 hu1
    go_wp2_with fail
    have hd0 : Below w4.heap.size w4 w4.drew := (Below.refl _ _).drew
    have HS : Hid (∀ w', Below w4.heap.size w4 w' → Sem.run Try.prog (convert 22 9 (.slice (some ⟨w1.heap.size, 0, none⟩) m m)) w' = .ok (.string (strOfNums (dig2 false a1 m))) w') := fun w' hw => str_run (HY0.out.below hw)
    go_region_held (fun w' => Sem.run Try.prog (convert 22 9 (.slice (some ⟨w1.heap.size, 0, none⟩) m m)) w' = .ok (.string (strOfNums (dig2 false a1 m))) w' ∧ Below w4.heap.size w4 w') (exact ⟨HS.out _ (by assumption), by assumption⟩) (first | (go_at_call 19; have hsw := swap_any _ (dig2 true a1 m) _ HX4.out (by rw [HLd.out]; omega); rw [HLd.out, HRv.out] at hsw; refine hsw.mono ?_; clear hsw; rintro e w6 ⟨rfl, hr6, hb6⟩; have hbs6 := hr6.whole; rw [dig2_length] at hbs6; have hs6 : Sem.run Try.prog (convert 22 9 (.slice (some ⟨w4.heap.size, 0, none⟩) m m)) w6 = .ok (.string (strOfNums (dig2 false a1 m))) w6 := str_run hbs6; have hb46 := below_undrew hb6) | (go_at_call 14; refine (lives_any _).mono ?_; rintro e w8 ⟨rfl, hb8⟩; have hb48 := hb46.trans (hb8.mono hb46.size)))
    all_goals
      go_wp2
      go_ret
      exact ⟨rfl, HF4.out.trans (hb48.mono HF4.out.size)⟩
  · have hb : (numErr a1 a0 != 0) = true := by simp [hE]
    clear hE
    go_enter Try.func8, Try.ntmps8
    go_wp2_with (first | (go_at_call 10; refine (put_no _ a1 a0 _ _ hu0 hu1 hb).mono ?_; rintro e w2 ⟨rfl, rfl⟩) | (go_at_call 14; refine (lives_any _).mono ?_; rintro e w2 ⟨rfl, hb2⟩))
    go_ret
    exact ⟨rfl, by assumption⟩
end Go.Proofs.Ytnmmpllokejelaa

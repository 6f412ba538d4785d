/-
  The document's number of elements, and that the program tells it. No conditions.
-/
import Derived.Test.YtnikbcljonbpcaaSLaw
namespace Go.Proofs.Ytnikbcljonbpcaa
open Go.RowKit Go.Shelf
set_option linter.unusedVariables false
set_option maxRecDepth 100000

set_option maxHeartbeats 8000000 in
theorem refElements_any (D : List Int) (v : Value) (w : World) (h : Is w v D) : Calls Try.prog 10 #[v] w fun e w' => e = .returned (.tuple #[.int .i64 (elN D), .int .i64 (elE D)]) ∧ Below w.heap.size w w' := by
  have HI : Hid (Is w v D) := h
  obtain ⟨ao, n, cap, rfl, hn, hc, hb⟩ := h.open
  have HN : Hid _ := hn
  clear h hn
  by_cases hr : n ≤ 4
  · have hr1 : decide (4 < (n : Int)) = false := by simpa using (by omega : ¬ 4 < (n : Int))
    go_enter Try.func10, Try.ntmps10
    go_wp2_with fail
    go_loopw [5] (fun y wr => ∃ i : Nat, i ≤ n ∧ y = .int .i64 (i : Int) ∧ Hid (∀ x ∈ D.take i, 0 ≤ x ∧ x ≤ 1048576) ∧ Hid (Below w.heap.size w wr)) (fun y _ => n - (intOf y).toNat)
    case atStart => exact ⟨0, by omega, by simp, fun x hx => by simp at hx, Below.refl _ _⟩
    case round =>
      obtain ⟨i, hin, rfl, HP, HB⟩ := hrel
      by_cases h1 : i < n
      · obtain ⟨g, o, x, rfl, hx, hxr, d1⟩ := (HI.out.below HB.out).at h1
        have HX : Hid _ := hx
        have hili : (i : Int) < (n : Int) := by omega
        have HBAD : Hid (¬ (0 ≤ x ∧ x ≤ 1048576) → elN D = 0 ∧ elE D = 2) := by
          intro hbad
          have : dimsB D = false := by
            unfold dimsB
            have h3 : (D.all fun x => decide (0 ≤ x) && decide (x ≤ 1048576)) = false := by
              rw [List.all_eq_false]
              refine ⟨x, List.mem_of_getElem? HX.out, ?_⟩
              simpa using hbad
            rw [h3, Bool.and_false]
          simp [elN, elE, this]
        clear hx
        by_cases q1 : x < 0
        · have e1 : decide (x < 0) = true := by simpa using q1
          have HV := HBAD.out (by omega)
          have HV' : Hid _ := HV
          clear HV HBAD
          go_wp2_with fail
          go_ret2
          exact ⟨by rw [HV'.out.1, HV'.out.2]; rfl, HB.out⟩
        · have e1 : decide (x < 0) = false := by simpa using q1
          by_cases q2 : 1048576 < x
          · have e2 : decide (1048576 < x) = true := by simpa using q2
            have HV := HBAD.out (by omega)
            have HV' : Hid _ := HV
            clear HV HBAD
            go_wp2_with fail
            go_ret2
            exact ⟨by rw [HV'.out.1, HV'.out.2]; rfl, HB.out⟩
          · have e2 : decide (1048576 < x) = false := by simpa using q2
            clear HBAD
            go_wp2_with fail
            go_roundw
            case rel =>
              refine ⟨i + 1, by omega, by simp, fun y hy => ?_, HB.out⟩
              rw [List.take_add_one, HX.out] at hy
              rcases List.mem_append.1 hy with h3 | h3
              · exact HP.out y h3
              · have : y = x := by simpa using h3
                omega
            case measure => simp [intOf]; omega
      · rename World => w9
        have HD : Hid (∀ x ∈ D, 0 ≤ x ∧ x ≤ 1048576) := fun x hx => HP.out x (by rwa [List.take_of_length_le (by rw [HN.out]; omega)])
        have HDB : Hid (dimsB D = true) := by
          rw [Hid, dimsB, Bool.and_eq_true]
          refine ⟨by rw [HN.out]; simpa using hr, ?_⟩
          rw [List.all_eq_true]
          intro x hx
          have := HD.out x hx
          simp [this.1, this.2]
        clear HP
        go_wp2_with fail
        go_loopw [6] (fun y wr => ∃ i : Nat, i ≤ n ∧ y = .int .i64 (i : Int) ∧ Hid (∀ x ∈ D.take i, x ≠ 0) ∧ Hid (Below w.heap.size w wr)) (fun y _ => n - (intOf y).toNat)
        case atStart => exact ⟨0, by omega, by simp, fun x hx => by simp at hx, HB.out⟩
        case round =>
          clear HB
          obtain ⟨i2, hin2, rfl, HP, HB⟩ := hrel
          by_cases h2 : i2 < n
          · obtain ⟨g, o, x, rfl, hx, hxr, d1⟩ := (HI.out.below HB.out).at h2
            have HX : Hid _ := hx
            have hili : (i2 : Int) < (n : Int) := by omega
            clear hx
            by_cases q1 : x = 0
            · subst q1
              have HV : Hid (elN D = 0 ∧ elE D = 0) := by
                have hp : prd D = 0 := prd_zero (List.mem_of_getElem? HX.out)
                simp [Hid, elN, elE, HDB.out, hp]
              go_wp2_with fail
              go_ret2
              exact ⟨by rw [HV.out.1, HV.out.2]; rfl, HB.out⟩
            · have e1 : (x == 0) = false := by simp [q1]
              go_wp2_with fail
              go_roundw
              case rel =>
                refine ⟨i2 + 1, by omega, by simp, fun y hy => ?_, HB.out⟩
                rw [List.take_add_one, HX.out] at hy
                rcases List.mem_append.1 hy with h3 | h3
                · exact HP.out y h3
                · have : y = x := by simpa using h3
                  rw [this]; exact q1
              case measure => simp [intOf]; omega
          · rename World => w8
            have HPOS : Hid (∀ x ∈ D, 1 ≤ x) := fun x hx => by
              have h3 := HP.out x (by rwa [List.take_of_length_le (by rw [HN.out]; omega)])
              have h4 := HD.out x hx
              omega
            have HPT : Hid (∀ i, 1 ≤ prd (D.take i) ∧ prd (D.take i) ≤ prd D) := prd_take_le HPOS.out
            clear HP
            go_wp2_with fail
            go_loopw [7, 4] (fun y z wr => ∃ (i : Nat) (p : Int), i ≤ n ∧ y = .int .i64 (i : Int) ∧ z = .int .i64 p ∧ Hid (p = prd (D.take i)) ∧ 1 ≤ p ∧ p ≤ 1048576 ∧ Hid (Below w.heap.size w wr)) (fun y _ _ => n - (intOf y).toNat)
            case atStart => exact ⟨0, 1, by omega, by simp, rfl, by rw [Hid, List.take_zero]; rfl, by omega, by omega, HB.out⟩
            case round =>
              clear HB
              obtain ⟨i3, p, hin3, rfl, rfl, HPP, hp1, hp2, HB⟩ := hrel
              by_cases h3 : i3 < n
              · obtain ⟨g, o, x, rfl, hx, hxr, d1⟩ := (HI.out.below HB.out).at h3
                have hili : (i3 : Int) < (n : Int) := by omega
                have hx1 := HPOS.out x (List.mem_of_getElem? hx)
                have hx2 := (HD.out x (List.mem_of_getElem? hx)).2
                have HNX : Hid (p * x = prd (D.take (i3 + 1))) := by rw [Hid, List.take_add_one, hx, prd_append, HPP.out]; simp [prd]
                have hm1 : 1 * 1 ≤ p * x := Int.mul_le_mul hp1 hx1 (by omega) (by omega)
                have hm2 : p * x ≤ 1048576 * 1048576 := Int.mul_le_mul hp2 hx2 (by omega) (by omega)
                have hw : IntKind.i64.wrap (p * x) = p * x := wrap_i64_in _ (by omega) (by omega)
                clear hx
                by_cases q : 1048576 < p * x
                · have e1 : decide (1048576 < p * x) = true := by simpa using q
                  have HV : Hid (elN D = 0 ∧ elE D = 3) := by
                    have h9 := (HPT.out (i3 + 1)).2
                    rw [← HNX.out] at h9
                    have hp : ¬ prd D ≤ 1048576 := by omega
                    simp [Hid, elN, elE, HDB.out, hp]
                  go_wp2_with fail
                  go_ret2
                  exact ⟨by rw [HV.out.1, HV.out.2]; rfl, HB.out⟩
                · have e1 : decide (1048576 < p * x) = false := by simpa using q
                  have hq : p * x ≤ 1048576 := by omega
                  have hq1 : 1 ≤ p * x := by omega
                  go_wp2_with fail
                  go_roundw
                  case rel => exact ⟨i3 + 1, p * x, by omega, by simp, rfl, HNX.out, hq1, hq, HB.out⟩
                  case measure => simp [intOf]; omega
              · have HV : Hid (elN D = p ∧ elE D = 0) := by
                  have h9 := HPP.out
                  rw [List.take_of_length_le (by rw [HN.out]; omega)] at h9
                  have hp : prd D ≤ 1048576 := by omega
                  exact ⟨by rw [elN, if_pos ⟨HDB.out, hp⟩]; exact h9.symm, by rw [elE, if_pos HDB.out, if_pos hp]⟩
                go_wp2_with fail
                go_ret2
                exact ⟨by rw [HV.out.1, HV.out.2]; rfl, HB.out⟩
  · have hr1 : decide (4 < (n : Int)) = true := by simpa using (by omega : 4 < (n : Int))
    have HV : Hid (elN D = 0 ∧ elE D = 2) := by
      have : dimsB D = false := by unfold dimsB; rw [HN.out, decide_eq_false hr, Bool.false_and]
      simp [Hid, elN, elE, this]
    go_enter Try.func10, Try.ntmps10
    go_wp2_with fail
    go_ret2
    exact ⟨by rw [HV.out.1, HV.out.2]; rfl, Below.refl _ _⟩
theorem spaceElements_walk (v : Value) (D : List Int) (w : World) (h : Is w v D) : Calls Try.prog 3 #[v] w fun e w' => e = .returned (.bool true) ∧ Below w.heap.size w w' := by
  have HI : Hid (Is w v D) := h
  obtain ⟨ao, n, cap, rfl, hn, hc, hb⟩ := h.open
  clear h hn
  obtain ⟨en, HEN⟩ : ∃ en, Hid (elN D = en) := ⟨_, rfl⟩
  obtain ⟨ee, HEE⟩ : ∃ ee, Hid (elE D = ee) := ⟨_, rfl⟩
  have HE : Hid (∀ w1, Below w.heap.size w w1 → Calls Try.prog 9 #[.slice ao n cap] w1 fun e w' => e = .returned (.tuple #[.int .i64 en, .int .i64 ee]) ∧ Below w1.heap.size w1 w') := fun w1 hb => by
    have := elements_any D _ w1 (HI.out.below hb)
    rwa [HEN.out, HEE.out] at this
  have HR : Hid (∀ w1, Below w.heap.size w w1 → Calls Try.prog 10 #[.slice ao n cap] w1 fun e w' => e = .returned (.tuple #[.int .i64 en, .int .i64 ee]) ∧ Below w1.heap.size w1 w') := fun w1 hb => by
    have := refElements_any D _ w1 (HI.out.below hb)
    rwa [HEN.out, HEE.out] at this
  go_enter Try.func3, Try.ntmps3
  go_wp2_with (first
    | (go_at_call 9; refine (HE.out _ (Below.refl _ _)).mono ?_; rintro e w2 ⟨rfl, hb2⟩; have HB2 : Hid (Below w.heap.size w w2) := hb2; clear hb2)
    | (go_at_call 10; refine (HR.out _ HB2.out).mono ?_; rintro e w3 ⟨rfl, hb3⟩; have HB3 : Hid (Below w.heap.size w w3) := HB2.out.trans (hb3.mono HB2.out.size); clear hb3)
    | (go_at_call 11; refine (lives_any _).mono ?_; rintro e w4 ⟨rfl, hb4⟩; have HB4 : Hid (Below w.heap.size w w4) := HB3.out.trans (hb4.mono HB3.out.size); clear hb4))
  go_ret
  exact ⟨rfl, HB4.out⟩
end Go.Proofs.Ytnikbcljonbpcaa

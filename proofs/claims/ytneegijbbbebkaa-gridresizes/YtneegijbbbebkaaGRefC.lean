/-
  The document's tests, and whether two lists of numbers are the same. Conditions: ranks are at most 4.
-/
import Derived.Test.YtneegijbbbebkaaGPush
namespace Go.Proofs.Ytneegijbbbebkaa
open Go.RowKit Go.Shelf
set_option linter.unusedVariables false
set_option maxRecDepth 100000

set_option maxHeartbeats 4000000 in
theorem refRight_any (l : List Int) (v : Value) (rank : Nat) (w : World) (h : Is w v l) (hr : rank ≤ 4) : Calls Try.prog 36 #[v, .int .i64 (rank : Int)] w fun e w' => e = .returned (.bool (okB rank l)) ∧ Below w.heap.size w w' := by
  have HI : Hid (Is w v l) := h
  obtain ⟨ao, n, cap, rfl, hn, hc, hb⟩ := h.open
  have HN : Hid _ := hn
  clear h hn
  by_cases h1 : n = rank
  · subst h1
    go_enter Try.func36, Try.ntmps36
    go_wp2_with fail
    go_loopw [5] (fun x wr => ∃ i : Nat, i ≤ n ∧ x = .int .i64 (i : Int) ∧ Hid (∀ y ∈ l.take i, 0 ≤ y) ∧ Hid (Below w.heap.size w wr)) (fun x _ => n - (intOf x).toNat)
    case atStart => exact ⟨0, Nat.zero_le _, rfl, fun y hy => by simp at hy, Below.refl _ _⟩
    case round =>
      obtain ⟨i, hin, rfl, HP, HB⟩ := hrel
      by_cases hlt : i < n
      · obtain ⟨g, o, x, rfl, hx, _, d1⟩ := (HI.out.below HB.out).at hlt
        have HX : Hid _ := hx
        have hili : (i : Int) < (n : Int) := by omega
        clear hx
        by_cases q : x < 0
        · have e1 : decide (x < 0) = true := by simpa using q
          have HV : Hid (okB n l = false) := by
            rw [Hid, ← Bool.not_eq_true]
            intro hok
            have := (okB_iff.1 hok).2 x (List.mem_of_getElem? HX.out)
            omega
          go_wp2_with fail
          go_ret
          exact ⟨by rw [HV.out]; rfl, HB.out⟩
        · have e1 : decide (x < 0) = false := by simpa using q
          go_wp2_with fail
          go_roundw
          case rel =>
            refine ⟨i + 1, by omega, by simp, fun y hy => ?_, HB.out⟩
            rw [List.take_add_one, HX.out] at hy
            rcases List.mem_append.1 hy with h3 | h3
            · exact HP.out y h3
            · have : y = x := by simpa using h3
              omega
          case measure => simp [intOf]; omega
      · have HV : Hid (okB n l = true) := okB_iff.2 ⟨HN.out, fun y hy => HP.out y (by rwa [List.take_of_length_le (by rw [HN.out]; omega)])⟩
        go_wp2_with fail
        go_ret
        exact ⟨by rw [HV.out]; rfl, HB.out⟩
  · have e1 : ((n : Int) != (rank : Int)) = true := by simp; omega
    have HV : Hid (okB rank l = false) := by
      rw [Hid, ← Bool.not_eq_true]
      intro hok
      have := (okB_iff.1 hok).1
      have := HN.out
      omega
    go_enter Try.func36, Try.ntmps36
    go_wp2_with fail
    go_ret
    exact ⟨by rw [HV.out]; rfl, Below.refl _ _⟩
set_option maxHeartbeats 4000000 in
theorem ints_any (a b : List Int) (va vb : Value) (w : World) (hA : Is w va a) (hB : Is w vb b) : Calls Try.prog 13 #[va, vb] w fun e w' => e = .returned (.bool (decide (a = b))) ∧ Below w.heap.size w w' := by
  have HI : Hid (Is w va a) := hA
  have HJ : Hid (Is w vb b) := hB
  obtain ⟨ao, n, cap, rfl, hn, hc, hb⟩ := hA.open
  obtain ⟨bo, m, dap, rfl, hm, hdc, hb2⟩ := hB.open
  have HN : Hid _ := hn
  have HM : Hid _ := hm
  clear hA hB hn hm
  by_cases hnm : n = m
  · subst hnm
    go_enter Try.func13, Try.ntmps13
    go_wp2_with fail
    go_loopw [5] (fun x wr => ∃ i : Nat, i ≤ n ∧ x = .int .i64 (i : Int) ∧ Hid (a.take i = b.take i) ∧ Hid (Below w.heap.size w wr)) (fun x _ => n - (intOf x).toNat)
    case atStart => exact ⟨0, Nat.zero_le _, rfl, rfl, Below.refl _ _⟩
    case round =>
      obtain ⟨i, hin, rfl, HT, HB⟩ := hrel
      by_cases hlt : i < n
      · obtain ⟨g, o, x, rfl, hma, _, c0⟩ := (HI.out.below HB.out).at hlt
        obtain ⟨g2, o2, y, rfl, hmx, _, c1⟩ := (HJ.out.below HB.out).at hlt
        have hili : (i : Int) < (n : Int) := by omega
        have HX : Hid _ := hma
        have HY : Hid _ := hmx
        clear hma hmx
        by_cases q : x = y
        · subst q
          go_wp2_with fail
          go_region
          go_wp2_with fail
          go_roundw
          case rel => exact ⟨i + 1, by omega, by simp, by rw [Hid, List.take_add_one, List.take_add_one, HX.out, HY.out, HT.out], HB.out.drew⟩
          case measure => simp [intOf]; omega
        · have q1 : (x != y) = true := by simp [q]
          have q2 : (x == y) = false := by simp [q]
          have HNE : Hid (decide (a = b) = false) := decide_eq_false (fun e => q (by have h1 := HX.out; rw [e, HY.out] at h1; injection h1 with h1; exact h1.symm))
          go_wp2_with fail
          go_region
          go_wp2_with fail
          go_ret
          exact ⟨by rw [HNE.out]; rfl, HB.out.drew⟩
      · have HE : Hid (decide (a = b) = true) := decide_eq_true (by have h1 := HT.out; rwa [List.take_of_length_le (by rw [HN.out]; omega), List.take_of_length_le (by rw [HM.out]; omega)] at h1)
        go_wp2_with fail
        go_ret
        exact ⟨by rw [HE.out]; rfl, HB.out⟩
  · have q1 : ((n : Int) != (m : Int)) = true := by simp; omega
    have HNE : Hid (decide (a = b) = false) := decide_eq_false (fun e => hnm (by rw [← HN.out, ← HM.out, e]))
    go_enter Try.func13, Try.ntmps13
    go_wp2_with fail
    go_ret
    exact ⟨by rw [HNE.out]; rfl, Below.refl _ _⟩
set_option maxHeartbeats 8000000 in
theorem refFit_any (D S : List Int) (vd vs : Value) (w : World) (hD : Is w vd D) (hS : Is w vs S) : Calls Try.prog 32 #[vd, vs] w fun e w' => e = .returned (.int .i64 (fitE D S)) ∧ Below w.heap.size w w' := by
  have HD : Hid (Is w vd D) := hD
  have HS : Hid (Is w vs S) := hS
  obtain ⟨a1, n, c1, rfl, e1, k1, l1⟩ := hD.open
  obtain ⟨a2, m, c2, rfl, e2, k2, l2⟩ := hS.open
  have HN : Hid (D.length = n) := e1
  have HM : Hid (S.length = m) := e2
  obtain ⟨en, HEN⟩ : ∃ en, Hid (elN D = en) := ⟨_, rfl⟩
  obtain ⟨ee, HEE⟩ : ∃ ee, Hid (elE D = ee) := ⟨_, rfl⟩
  obtain ⟨sn, HSN⟩ : ∃ sn, Hid (elN S = sn) := ⟨_, rfl⟩
  obtain ⟨se, HSE⟩ : ∃ se, Hid (elE S = se) := ⟨_, rfl⟩
  have HE1 : Hid (Calls Try.prog 30 #[.slice a1 n c1] w fun e w' => e = .returned (.tuple #[.int .i64 en, .int .i64 ee]) ∧ Below w.heap.size w w') := by
    have := refElements_any D _ w hD
    rwa [HEN.out, HEE.out] at this
  have HE2 : Hid (∀ w1, Below w.heap.size w w1 → Calls Try.prog 30 #[.slice a2 m c2] w1 fun e w' => e = .returned (.tuple #[.int .i64 sn, .int .i64 se]) ∧ Below w1.heap.size w1 w') := fun w1 h1 => by
    have := refElements_any S _ w1 (HS.out.below h1)
    rwa [HSN.out, HSE.out] at this
  obtain ⟨fe, HFE⟩ : ∃ fe, Hid (fitE D S = fe) := ⟨_, rfl⟩
  have HFD : Hid (fe = if ee ≠ 0 then ee else if shB n S = false then 2 else se) := by rw [Hid, ← HFE.out, fitE, HEE.out, HN.out, HSE.out]
  rw [HFE.out]
  clear hD hS e1 e2
  by_cases h1 : ee = 0
  · subst h1
    by_cases h2 : m = n
    · have HBAD : Hid (∀ x ∈ S, ¬ (1 ≤ x ∧ x ≤ 1048576) → fe = 2) := fun x hx hb => by
        rw [HFD.out, if_neg (by simp)]
        have : shB n S = false := by
          rw [← Bool.not_eq_true]
          intro h9
          exact hb ((shB_iff.1 h9).2 x hx)
        rw [this, if_pos rfl]
      have HGOOD : Hid ((∀ x ∈ S, 1 ≤ x ∧ x ≤ 1048576) → fe = se) := fun h => by
        rw [HFD.out, if_neg (by simp), shB_iff.2 ⟨by rw [HM.out, h2], h⟩, if_neg (by simp)]
      subst h2
      go_enter Try.func32, Try.ntmps32
      go_wp2_with (go_at_call 30; refine Calls.mono HE1.out ?_; rintro e w1 ⟨rfl, hb1⟩; have HB1 : Hid (Below w.heap.size w w1) := hb1; clear hb1)
      go_loopw [7] (fun x wr => ∃ i : Nat, i ≤ m ∧ x = .int .i64 (i : Int) ∧ Hid (∀ x ∈ S.take i, 1 ≤ x ∧ x ≤ 1048576) ∧ Hid (Below w.heap.size w wr)) (fun x _ => m - (intOf x).toNat)
      case atStart => exact ⟨0, Nat.zero_le _, rfl, fun x hx => by simp at hx, HB1.out⟩
      case round =>
        obtain ⟨i, hin, rfl, HA, HB⟩ := hrel
        by_cases hlt : i < m
        · obtain ⟨g, o, x, rfl, hx, _, cx⟩ := (HS.out.below HB.out).at hlt
          have hili : (i : Int) < (m : Int) := by omega
          have HX : Hid (S[i]? = some x) := hx
          clear hx
          by_cases q1 : x < 1
          · have b1 : decide (x < 1) = true := by simpa using q1
            have hfe : fe = 2 := HBAD.out x (List.mem_of_getElem? HX.out) (by omega)
            subst hfe
            go_wp2_with fail
            go_ret
            exact ⟨rfl, HB.out⟩
          · have b1 : decide (x < 1) = false := by simpa using q1
            by_cases q2 : 1048576 < x
            · have b2 : decide (1048576 < x) = true := by simpa using q2
              have hfe : fe = 2 := HBAD.out x (List.mem_of_getElem? HX.out) (by omega)
              subst hfe
              go_wp2_with fail
              go_ret
              exact ⟨rfl, HB.out⟩
            · have b2 : decide (1048576 < x) = false := by simpa using q2
              go_wp2_with fail
              go_roundw
              case rel =>
                refine ⟨i + 1, by omega, by simp, fun y hy => ?_, HB.out⟩
                rw [List.take_add_one, HX.out] at hy
                rcases List.mem_append.1 hy with h3 | h3
                · exact HA.out y h3
                · have : y = x := by simpa using h3
                  omega
              case measure => simp [intOf]; omega
        · have hfe : fe = se := HGOOD.out (fun x hx => HA.out x (by rwa [List.take_of_length_le (by rw [HM.out]; omega)]))
          subst hfe
          go_wp2_with (go_at_call 30; refine Calls.mono (HE2.out _ HB.out) ?_; rintro e w2 ⟨rfl, hb2⟩; have HB2 : Hid (Below w.heap.size w w2) := HB.out.trans (hb2.mono HB.out.size); clear hb2)
          go_ret
          exact ⟨rfl, HB2.out⟩
    · have hfe : fe = 2 := by
        rw [HFD.out, if_neg (by simp)]
        have : shB n S = false := by
          rw [← Bool.not_eq_true]
          intro h9
          have := (shB_iff.1 h9).1
          have := HM.out
          omega
        rw [this, if_pos rfl]
      subst hfe
      have b2 : ((m : Int) != (n : Int)) = true := by simp; omega
      go_enter Try.func32, Try.ntmps32
      go_wp2_with (go_at_call 30; refine Calls.mono HE1.out ?_; rintro e w1 ⟨rfl, hb1⟩; have HB1 : Hid (Below w.heap.size w w1) := hb1; clear hb1)
      go_ret
      exact ⟨rfl, HB1.out⟩
  · have hfe : fe = ee := by rw [HFD.out, if_pos h1]
    subst hfe
    have b2 : (fe != 0) = true := by simpa using h1
    go_enter Try.func32, Try.ntmps32
    go_wp2_with (go_at_call 30; refine Calls.mono HE1.out ?_; rintro e w1 ⟨rfl, hb1⟩; have HB1 : Hid (Below w.heap.size w w1) := hb1; clear hb1)
    go_ret
    exact ⟨rfl, HB1.out⟩
end Go.Proofs.Ytneegijbbbebkaa

/-
  The document's small functions: is a list right, do steps lead beyond, the product that is capped, a tuple's place. Conditions: numbers are not below 0.
-/
import Derived.Test.YtnikbcljonbpcaaSPl
namespace Go.Proofs.Ytnikbcljonbpcaa
open Go.RowKit Go.Shelf
set_option linter.unusedVariables false
set_option maxRecDepth 100000

set_option maxHeartbeats 4000000 in
theorem refRight_any (l : List Int) (v : Value) (rank : Nat) (w : World) (h : Is w v l) (hr : rank ≤ 4) : Calls Try.prog 37 #[v, .int .i64 (rank : Int)] w fun e w' => e = .returned (.bool (okB rank l)) ∧ Below w.heap.size w w' := by
  have HI : Hid (Is w v l) := h
  obtain ⟨ao, n, cap, rfl, hn, hc, hb⟩ := h.open
  have HN : Hid _ := hn
  clear h hn
  by_cases h1 : n = rank
  · subst h1
    go_enter Try.func37, Try.ntmps37
    go_wp2_with fail
    go_loopw [5] (fun x wr => ∃ i : Nat, i ≤ n ∧ x = .int .i64 (i : Int) ∧ Hid (∀ y ∈ l.take i, 0 ≤ y) ∧ Hid (Below w.heap.size w wr)) (fun x _ => n - (intOf x).toNat)
    case atStart => exact ⟨0, Nat.zero_le _, rfl, fun y hy => by simp at hy, Below.refl _ _⟩
    case round =>
      obtain ⟨i, hin, rfl, HP, HB⟩ := hrel
      by_cases hlt : i < n
      · obtain ⟨g, o, x, rfl, hx, _, d1⟩ := (HI.out.below HB.out).at hlt
        have HX : Hid _ := hx
        have hili : (i : Int) < (n : Int) := by omega
        clear hx
        by_cases q : x < 0
        · have e1 : decide (x < 0) = true := by simpa using q
          have HV : Hid (okB n l = false) := by
            rw [Hid, ← Bool.not_eq_true]
            intro hok
            have := (okB_iff.1 hok).2 x (List.mem_of_getElem? HX.out)
            omega
          go_wp2_with fail
          go_ret
          exact ⟨by rw [HV.out]; rfl, HB.out⟩
        · have e1 : decide (x < 0) = false := by simpa using q
          go_wp2_with fail
          go_roundw
          case rel =>
            refine ⟨i + 1, by omega, by simp, fun y hy => ?_, HB.out⟩
            rw [List.take_add_one, HX.out] at hy
            rcases List.mem_append.1 hy with h3 | h3
            · exact HP.out y h3
            · have : y = x := by simpa using h3
              omega
          case measure => simp [intOf]; omega
      · have HV : Hid (okB n l = true) := okB_iff.2 ⟨HN.out, fun y hy => HP.out y (by rwa [List.take_of_length_le (by rw [HN.out]; omega)])⟩
        go_wp2_with fail
        go_ret
        exact ⟨by rw [HV.out]; rfl, HB.out⟩
  · have e1 : ((n : Int) != (rank : Int)) = true := by simp; omega
    have HV : Hid (okB rank l = false) := by
      rw [Hid, ← Bool.not_eq_true]
      intro hok
      have := (okB_iff.1 hok).1
      have := HN.out
      omega
    go_enter Try.func37, Try.ntmps37
    go_wp2_with fail
    go_ret
    exact ⟨by rw [HV.out]; rfl, Below.refl _ _⟩
theorem refPlace_any (D t : List Int) (vd vt : Value) (w : World) (hD : Is w vd D) (hT : Is w vt t) (hi : Ins2 D t) (hp : prd D ≤ 1048576) : Calls Try.prog 30 #[vd, vt] w fun e w' => e = .returned (.int .i64 (plc D t)) ∧ Below w.heap.size w w' := by
  have HI : Hid (Is w vd D) := hD
  have HJ : Hid (Is w vt t) := hT
  have HIN : Hid (Ins2 D t) := hi
  have HPT : Hid (∀ i, 1 ≤ prd (D.take i) ∧ prd (D.take i) ≤ prd D) := prd_take_le (ins_pos hi)
  obtain ⟨ao, n, cap, rfl, hn, hc, hb⟩ := hD.open
  obtain ⟨bo, m, dap, rfl, hm, hdc, hb2⟩ := hT.open
  obtain rfl : n = m := by have := hi.1; omega
  have HN : Hid _ := hn
  have HM : Hid _ := hm
  have HP : Hid (prd D ≤ 1048576) := hp
  clear hD hT hi hn hm hp
  go_enter Try.func30, Try.ntmps30
  go_wp2_with fail
  go_loopw [6, 5] (fun x y wr => ∃ (i : Nat) (p : Int), i ≤ n ∧ x = .int .i64 (i : Int) ∧ y = .int .i64 p ∧ 0 ≤ p ∧ Hid (p < prd (D.take i)) ∧ Hid (plc D t = placeZ (D.drop i) (t.drop i) p) ∧ Hid (Below w.heap.size w wr)) (fun x _ _ => n - (intOf x).toNat)
  case atStart => exact ⟨0, 0, Nat.zero_le _, rfl, rfl, by omega, by rw [Hid, List.take_zero]; simp [prd], rfl, Below.refl _ _⟩
  case round =>
    obtain ⟨i, p, hin, rfl, rfl, hp0, HP1, HPL, HB⟩ := hrel
    by_cases hlt : i < n
    · obtain ⟨g, o, a, rfl, hma, _, c0⟩ := (HI.out.below HB.out).at hlt
      obtain ⟨g2, o2, x, rfl, hmx, _, c1⟩ := (HJ.out.below HB.out).at hlt
      have hx := HIN.out.2 i x a hmx hma
      have hili : (i : Int) < (n : Int) := by omega
      have HPN : Hid (plc D t = placeZ (D.drop (i + 1)) (t.drop (i + 1)) (p * a + x)) := by rw [Hid, HPL.out, plc_step hmx hma]
      have hst : prd (D.take (i + 1)) = prd (D.take i) * a := by rw [List.take_add_one, hma, prd_append]; simp [prd]
      have h1 := HPT.out (i + 1)
      have h2 := HP.out
      have h3 : (p + 1) * a ≤ prd (D.take i) * a := Int.mul_le_mul_of_nonneg_right (by have := HP1.out; omega) (by omega)
      have h4 : (p + 1) * a = p * a + a := by rw [Int.add_mul, Int.one_mul]
      have h5 : 0 ≤ p * a := Int.mul_nonneg hp0 (by omega)
      have HP2 : Hid (p * a + x < prd (D.take (i + 1))) := by rw [Hid, hst]; omega
      have hb1 : p * a ≤ 1048576 := by omega
      have hb3 : p * a + x ≤ 1048576 := by omega
      have hw1 : IntKind.i64.wrap (p * a) = p * a := wrap_i64_in _ (by omega) (by omega)
      have hw2 : IntKind.i64.wrap (p * a + x) = p * a + x := wrap_i64_in _ (by omega) (by omega)
      have hge : 0 ≤ p * a + x := by omega
      clear hma hmx hst h1 h2 h3 h4
      go_wp2_with fail
      go_region
      go_wp2_with fail
      go_roundw
      case rel => exact ⟨i + 1, p * a + x, by omega, by simp, rfl, hge, HP2.out, HPN.out, HB.out.drew⟩
      case measure => simp [intOf]; omega
    · have HE : Hid (plc D t = p) := by rw [Hid, HPL.out, List.drop_of_length_le (by rw [HN.out]; omega)]; rfl
      go_wp2_with fail
      go_ret
      exact ⟨by rw [HE.out]; rfl, HB.out⟩
set_option maxHeartbeats 4000000 in
theorem refBeyond_any (n : Int) (a : Ax) (w : World) (ha : AxOk a) (hn0 : 0 ≤ n) (hn1 : n ≤ 1048576) (hb : 1 ≤ a.bl) (hc : 1 ≤ a.ct) : Calls Try.prog 29 #[.int .i64 n, .int .i64 a.st, .int .i64 a.sd, .int .i64 a.ct, .int .i64 a.bl] w fun e w' => e = .returned (.bool (!fitB n a)) ∧ w' = w := by
  obtain ⟨s0, s1, d0, d1, c0, c1, b0, b1⟩ := ha
  obtain ⟨st, sd, ct, bl⟩ := a
  simp only [] at *
  have w1 : IntKind.i64.wrap (n - st) = n - st := wrap_i64_in _ (by omega) (by omega)
  by_cases h1 : n ≤ st
  · have e1 : decide (n ≤ st) = true := by simpa using h1
    have HV : Hid (fitB n ⟨st, sd, ct, bl⟩ = false) := by
      simp only [Hid, fitB]
      rw [decide_eq_false (by omega), Bool.false_and]
    go_enter Try.func29, Try.ntmps29
    go_wp2_with fail
    go_ret
    exact ⟨by rw [HV.out]; rfl, rfl⟩
  · have e1 : decide (n ≤ st) = false := by simpa using h1
    by_cases h2 : n - st < bl
    · have e2 : decide (n - st < bl) = true := by simpa using h2
      have HV : Hid (fitB n ⟨st, sd, ct, bl⟩ = false) := by
        simp only [Hid, fitB]
        rw [decide_eq_false (by omega), Bool.false_and]
      go_enter Try.func29, Try.ntmps29
      go_wp2_with fail
      go_ret
      exact ⟨by rw [HV.out]; rfl, rfl⟩
    · have e2 : decide (n - st < bl) = false := by simpa using h2
      have w2 : IntKind.i64.wrap (n - st - bl) = n - st - bl := wrap_i64_in _ (by omega) (by omega)
      have w3 : IntKind.i64.wrap (ct - 1) = ct - 1 := wrap_i64_in _ (by omega) (by omega)
      have hr0 : 0 ≤ n - st - bl := by omega
      have er : n - 1 - st - (bl - 1) = n - st - bl := by omega
      by_cases h3 : 0 < sd
      · have e3 : decide (0 < sd) = true := by simpa using h3
        have hsz : (sd == 0) = false := by simpa using (by omega : sd ≠ 0)
        have hsn : sd ≠ 0 := by omega
        have hsm : sd ≠ -1 := by omega
        have HV : Hid (fitB n ⟨st, sd, ct, bl⟩ = decide (ct - 1 ≤ (n - st - bl) / sd)) := by
          simp only [Hid, fitB, er]
          rw [decide_eq_true (by omega), decide_eq_false hsn, Bool.true_and, Bool.false_or]
        by_cases h4 : (n - st - bl) / sd < ct - 1
        · have e4 : decide ((n - st - bl) / sd < ct - 1) = true := by simpa using h4
          have HV2 : Hid (fitB n ⟨st, sd, ct, bl⟩ = false) := by rw [Hid, HV.out]; exact decide_eq_false (by omega)
          go_enter Try.func29, Try.ntmps29
          go_wp2_with fail
          go_ret
          exact ⟨by rw [HV2.out]; rfl, rfl⟩
        · have e4 : decide ((n - st - bl) / sd < ct - 1) = false := by simpa using h4
          have HV2 : Hid (fitB n ⟨st, sd, ct, bl⟩ = true) := by rw [Hid, HV.out]; exact decide_eq_true (by omega)
          go_enter Try.func29, Try.ntmps29
          go_wp2_with fail
          go_ret
          exact ⟨by rw [HV2.out]; rfl, rfl⟩
      · have e3 : decide (0 < sd) = false := by simpa using h3
        have HV : Hid (fitB n ⟨st, sd, ct, bl⟩ = true) := by
          simp only [Hid, fitB]
          rw [decide_eq_true (by omega), decide_eq_true (show sd = 0 by omega), Bool.true_and, Bool.true_or]
        go_enter Try.func29, Try.ntmps29
        go_wp2_with fail
        go_ret
        exact ⟨by rw [HV.out]; rfl, rfl⟩
/-- The document's product, at most one more than can be selected. -/
def capP (a b : Int) : Int := if a = 0 ∨ b = 0 then 0 else if 4096 < a ∨ 4096 < b then 4097 else min (a * b) 4097
theorem refProduct_any (a b : Int) (w : World) (ha : 0 ≤ a) (hb : 0 ≤ b) : Calls Try.prog 38 #[.int .i64 a, .int .i64 b] w fun e w' => e = .returned (.int .i64 (capP a b)) ∧ w' = w := by
  by_cases a0 : a = 0
  · subst a0
    have HV : Hid (capP 0 b = 0) := by rw [Hid, capP, if_pos (.inl rfl)]
    go_enter Try.func38, Try.ntmps38
    go_wp2_with fail
    go_ret
    exact ⟨by rw [HV.out]; rfl, rfl⟩
  · have a1 : (a == 0) = false := by simp [a0]
    by_cases b0 : b = 0
    · subst b0
      have HV : Hid (capP a 0 = 0) := by rw [Hid, capP, if_pos (.inr rfl)]
      go_enter Try.func38, Try.ntmps38
      go_wp2_with fail
      go_ret
      exact ⟨by rw [HV.out]; rfl, rfl⟩
    · have b1 : (b == 0) = false := by simp [b0]
      by_cases a2 : 4096 < a
      · have a3 : decide (4096 < a) = true := by simpa using a2
        have HV : Hid (capP a b = 4097) := by rw [Hid, capP, if_neg (by omega), if_pos (.inl a2)]
        go_enter Try.func38, Try.ntmps38
        go_wp2_with fail
        go_ret
        exact ⟨by rw [HV.out]; rfl, rfl⟩
      · have a3 : decide (4096 < a) = false := by simpa using a2
        by_cases b2 : 4096 < b
        · have b3 : decide (4096 < b) = true := by simpa using b2
          have HV : Hid (capP a b = 4097) := by rw [Hid, capP, if_neg (by omega), if_pos (.inr b2)]
          go_enter Try.func38, Try.ntmps38
          go_wp2_with fail
          go_ret
          exact ⟨by rw [HV.out]; rfl, rfl⟩
        · have b3 : decide (4096 < b) = false := by simpa using b2
          have hm0 : 0 ≤ a * b := Int.mul_nonneg ha hb
          have hm1 : a * b ≤ 4096 * 4096 := Int.mul_le_mul (by omega) (by omega) (by omega) (by omega)
          have hw : IntKind.i64.wrap (a * b) = a * b := wrap_i64_in _ (by omega) (by omega)
          by_cases hmn : a * b ≤ 4097
          · have HV : Hid (capP a b = a * b) := by rw [Hid, capP, if_neg (by omega), if_neg (by omega)]; omega
            go_enter Try.func38, Try.ntmps38
            go_wp2_with fail
            go_ret
            refine ⟨?_, rfl⟩
            rw [HV.out]
            first | rfl | (congr 2; simp; omega)
          · have HV : Hid (capP a b = 4097) := by rw [Hid, capP, if_neg (by omega), if_neg (by omega)]; omega
            go_enter Try.func38, Try.ntmps38
            go_wp2_with fail
            go_ret
            refine ⟨?_, rfl⟩
            rw [HV.out]
            first | rfl | (congr 2; simp; omega)
end Go.Proofs.Ytnikbcljonbpcaa

/-
  The document's errors of Cut and Paste. Conditions: lengths are such as memory bears.
-/
import Derived.Test.YtneegijbbbebkaaGRefC
import Derived.Test.YtneegijbbbebkaaGPaste
namespace Go.Proofs.Ytneegijbbbebkaa
open Go.RowKit Go.Shelf
set_option linter.unusedVariables false
set_option maxRecDepth 100000

def byE (wh : Bool) (dl : Nat) (z : Int) (D S C : List Int) (fl : Nat) : Int := if wh = true then pasE dl z D S C fl else cutE dl z D S C fl
def wantZ (wh : Bool) (z n : Int) : Int := if wh = true then n * z else z
theorem byE_eq (wh : Bool) (dl : Nat) (z : Int) (D S C : List Int) (fl : Nat) : byE wh dl z D S C fl = if fbE D S z ≠ 0 then fbE D S z else if (dl : Int) = elN D * z ∧ (fl : Int) = wantZ wh z (elN S) ∧ okB D.length C = true then 0 else 2 := by
  cases wh <;> rfl
set_option maxHeartbeats 16000000 in
theorem refBytes_any (wh : Bool) (D S C : List Int) (da : Option Addr) (dl dc : Nat) (oa : Option Addr) (fl oc : Nat) (vd vs vc : Value) (z : Int) (w : World) (hdl : dl ≤ 140737488351232) (hfl : fl ≤ 140737488351232) (hD : Is w vd D) (hS : Is w vs S) (hC : Is w vc C) :
    Calls Try.prog 41 #[.slice da dl dc, .int .i64 z, vd, vs, vc, .slice oa fl oc, .bool wh] w fun e w' => e = .returned (.int .i64 (byE wh dl z D S C fl)) ∧ Below w.heap.size w w' := by
  have HFI : Hid _ := refFit_any D S vd vs w hD hS
  have HD : Hid (Is w vd D) := hD
  have HS : Hid (Is w vs S) := hS
  have HC : Hid (Is w vc C) := hC
  obtain ⟨a1, m1, c1, rfl, e1, k1, l1⟩ := hD.open
  obtain ⟨a2, m2, c2, rfl, e2, k2, l2⟩ := hS.open
  obtain ⟨a3, m3, c3, rfl, e3, k3, l3⟩ := hC.open
  obtain ⟨fe, HFE⟩ : ∃ fe, Hid (fitE D S = fe) := ⟨_, rfl⟩
  rw [HFE.out] at HFI
  obtain ⟨en, HEN⟩ : ∃ en, Hid (elN D = en) := ⟨_, rfl⟩
  obtain ⟨ee, HEE⟩ : ∃ ee, Hid (elE D = ee) := ⟨_, rfl⟩
  obtain ⟨sn, HSN⟩ : ∃ sn, Hid (elN S = sn) := ⟨_, rfl⟩
  obtain ⟨se, HSE⟩ : ∃ se, Hid (elE S = se) := ⟨_, rfl⟩
  obtain ⟨be, HBE⟩ : ∃ be, Hid (byE wh dl z D S C fl = be) := ⟨_, rfl⟩
  have HBV : Hid (be = if (if fe ≠ 0 then fe else wgE z en sn) ≠ 0 then (if fe ≠ 0 then fe else wgE z en sn) else if (dl : Int) = en * z ∧ (fl : Int) = wantZ wh z sn ∧ okB m1 C = true then 0 else 2) := by
    rw [Hid, ← HBE.out, byE_eq, fbE, HFE.out, HEN.out, HSN.out, e1]
  rw [HBE.out]
  have hbn := elN_bd D
  have hbs := elN_bd S
  rw [HEN.out] at hbn
  rw [HSN.out] at hbs
  obtain ⟨hbn0, hbn1⟩ := hbn
  obtain ⟨hbs0, hbs1⟩ := hbs
  have HE1 : Hid (∀ w1, Below w.heap.size w w1 → Calls Try.prog 30 #[.slice a1 m1 c1] w1 fun e w' => e = .returned (.tuple #[.int .i64 en, .int .i64 ee]) ∧ Below w1.heap.size w1 w') := fun w1 h1 => by
    have := refElements_any D _ w1 (HD.out.below h1)
    rwa [HEN.out, HEE.out] at this
  have HE2 : Hid (∀ w1, Below w.heap.size w w1 → Calls Try.prog 30 #[.slice a2 m2 c2] w1 fun e w' => e = .returned (.tuple #[.int .i64 sn, .int .i64 se]) ∧ Below w1.heap.size w1 w') := fun w1 h1 => by
    have := refElements_any S _ w1 (HS.out.below h1)
    rwa [HSN.out, HSE.out] at this
  by_cases h1 : fe = 0
  · have HW : Hid (be = if wgE z en sn ≠ 0 then wgE z en sn else if (dl : Int) = en * z ∧ (fl : Int) = wantZ wh z sn ∧ okB m1 C = true then 0 else 2) := by rw [Hid, HBV.out, if_neg (show ¬ fe ≠ 0 by omega)]
    obtain ⟨f1, f2, f3⟩ := fitE_zero (HFE.out.trans h1)
    have hm4 : m1 ≤ 4 := by have := (dims_of (elE_ok f1).1).1; omega
    subst h1
    clear HBV f1 f2 f3
    by_cases z1 : z < 1
    · have d1 : decide (z < 1) = true := by simpa using z1
      have HO : Hid (be = 2) := by
        have e : wgE z en sn = 2 := by rw [wgE, if_pos (.inl z1)]
        rw [Hid, HW.out, e, if_pos (by omega)]
      clear HW
      go_enter Try.func41, Try.ntmps41
      go_wp2_with (go_at_call 32; refine Calls.mono HFI.out ?_; rintro e w1 ⟨rfl, hb1⟩; have HB1 : Hid (Below w.heap.size w w1) := hb1; clear hb1)
      go_ret
      exact ⟨by rw [HO.out]; rfl, HB1.out⟩
    · have d1 : decide (z < 1) = false := by simpa using z1
      by_cases z2 : 256 < z
      · have d2 : decide (256 < z) = true := by simpa using z2
        have HO : Hid (be = 2) := by
          have e : wgE z en sn = 2 := by rw [wgE, if_pos (.inr z2)]
          rw [Hid, HW.out, e, if_pos (by omega)]
        clear HW
        go_enter Try.func41, Try.ntmps41
        go_wp2_with (go_at_call 32; refine Calls.mono HFI.out ?_; rintro e w1 ⟨rfl, hb1⟩; have HB1 : Hid (Below w.heap.size w w1) := hb1; clear hb1)
        go_ret
        exact ⟨by rw [HO.out]; rfl, HB1.out⟩
      · have d2 : decide (256 < z) = false := by simpa using z2
        have hmn : ∀ x : Int, 0 ≤ x → x ≤ 1048576 → 0 ≤ x * z ∧ x * z ≤ 268435456 := fun x hx0 hx1 => ⟨Int.mul_nonneg hx0 (by omega), by
          have := Int.mul_le_mul hx1 (show z ≤ 256 by omega) (by omega) (by omega : (0 : Int) ≤ 1048576)
          omega⟩
        obtain ⟨pn, hpn⟩ : ∃ pn, en * z = pn := ⟨_, rfl⟩
        obtain ⟨ps, hps⟩ : ∃ ps, sn * z = ps := ⟨_, rfl⟩
        have hn := hmn en hbn0 hbn1
        have hs := hmn sn hbs0 hbs1
        rw [hpn] at hn
        rw [hps] at hs
        have hw1 : IntKind.i64.wrap (en * z) = pn := by rw [hpn]; exact wrap_i64_in _ (by omega) (by omega)
        have hw2 : IntKind.i64.wrap (sn * z) = ps := by rw [hps]; exact wrap_i64_in _ (by omega) (by omega)
        have hmx : max en sn * z = max pn ps := by
          rcases Int.le_total en sn with h | h
          · have := Int.mul_le_mul_of_nonneg_right h (show 0 ≤ z by omega)
            rw [Int.max_eq_right h, hps, Int.max_eq_right (by omega)]
          · have := Int.mul_le_mul_of_nonneg_right h (show 0 ≤ z by omega)
            rw [Int.max_eq_left h, hpn, Int.max_eq_left (by omega)]
        have HWG : Hid (wgE z en sn = if 65536 < max pn ps then 3 else 0) := by rw [Hid, wgE, if_neg (by omega), hmx]
        rw [hpn] at HW
        by_cases g1 : 65536 < pn
        · have d3 : decide (65536 < pn) = true := by simpa using g1
          have HO : Hid (be = 3) := by
            have e : wgE z en sn = 3 := by rw [HWG.out, if_pos (by omega)]
            rw [Hid, HW.out, e, if_pos (by omega)]
          clear HW HWG hmn hmx
          go_enter Try.func41, Try.ntmps41
          go_wp2_with (first
            | (have hg := HB2; clear hg; go_at_call 30; refine Calls.mono (HE2.out _ HB2.out) ?_; rintro e w3 ⟨rfl, hb3⟩; have HB3 : Hid (Below w.heap.size w w3) := HB2.out.trans (hb3.mono HB2.out.size); clear hb3)
            | (go_at_call 30; refine Calls.mono (HE1.out _ HB1.out) ?_; rintro e w2 ⟨rfl, hb2⟩; have HB2 : Hid (Below w.heap.size w w2) := HB1.out.trans (hb2.mono HB1.out.size); clear hb2)
            | (go_at_call 32; refine Calls.mono HFI.out ?_; rintro e w1 ⟨rfl, hb1⟩; have HB1 : Hid (Below w.heap.size w w1) := hb1; clear hb1))
          go_ret
          exact ⟨by rw [HO.out]; rfl, HB3.out⟩
        · have d3 : decide (65536 < pn) = false := by simpa using g1
          by_cases g2 : 65536 < ps
          · have d4 : decide (65536 < ps) = true := by simpa using g2
            have HO : Hid (be = 3) := by
              have e : wgE z en sn = 3 := by rw [HWG.out, if_pos (by omega)]
              rw [Hid, HW.out, e, if_pos (by omega)]
            clear HW HWG hmn hmx
            go_enter Try.func41, Try.ntmps41
            go_wp2_with (first
              | (have hg := HB2; clear hg; go_at_call 30; refine Calls.mono (HE2.out _ HB2.out) ?_; rintro e w3 ⟨rfl, hb3⟩; have HB3 : Hid (Below w.heap.size w w3) := HB2.out.trans (hb3.mono HB2.out.size); clear hb3)
              | (go_at_call 30; refine Calls.mono (HE1.out _ HB1.out) ?_; rintro e w2 ⟨rfl, hb2⟩; have HB2 : Hid (Below w.heap.size w w2) := HB1.out.trans (hb2.mono HB1.out.size); clear hb2)
              | (go_at_call 32; refine Calls.mono HFI.out ?_; rintro e w1 ⟨rfl, hb1⟩; have HB1 : Hid (Below w.heap.size w w1) := hb1; clear hb1))
            go_ret
            exact ⟨by rw [HO.out]; rfl, HB3.out⟩
          · have d4 : decide (65536 < ps) = false := by simpa using g2
            have HW2 : Hid (be = if (dl : Int) = pn ∧ (fl : Int) = wantZ wh z sn ∧ okB m1 C = true then 0 else 2) := by
              have e : wgE z en sn = 0 := by rw [HWG.out, if_neg (by omega)]
              rw [Hid, HW.out, e, if_neg (by omega)]
            obtain ⟨wv, HWV⟩ : ∃ wv, Hid (wantZ wh z sn = wv) := ⟨_, rfl⟩
            rw [HWV.out] at HW2
            obtain ⟨ok, HOK⟩ : ∃ ok, Hid (okB m1 C = ok) := ⟨_, rfl⟩
            rw [HOK.out] at HW2
            have HRT : Hid (∀ w1, Below w.heap.size w w1 → Calls Try.prog 36 #[.slice a3 m3 c3, .int .i64 (m1 : Int)] w1 fun e w' => e = .returned (.bool ok) ∧ Below w1.heap.size w1 w') := fun w1 h => by
              have := refRight_any C _ m1 w1 (HC.out.below h) hm4
              rwa [HOK.out] at this
            clear HW HWG hmn hmx
            by_cases c1' : (dl : Int) = pn
            · have b1 : ((dl : Int) != pn) = false := by simpa using c1'
              by_cases c2' : (fl : Int) = wv
              · have b2 : ((fl : Int) != wv) = false := by simpa using c2'
                have HO : Hid (be = if ok = true then 0 else 2) := by
                  rw [Hid, HW2.out]
                  cases ok with
                  | true => rw [if_pos ⟨c1', c2', rfl⟩, if_pos rfl]
                  | false => rw [if_neg (fun h => by cases h.2.2), if_neg (by simp)]
                clear HW2 hD hS hC e1 e2 e3 c1' c2'
                cases wh with
                | true =>
                  have hwv : wv = ps := by rw [← HWV.out, wantZ, if_pos rfl, hps]
                  subst hwv
                  cases ok with
                  | true =>
                    go_enter Try.func41, Try.ntmps41
                    go_wp2_with (first
                      | (go_at_call 36; refine Calls.mono (HRT.out _ HB3.out) ?_; rintro e w4 ⟨rfl, hb4⟩; have HB4 : Hid (Below w.heap.size w w4) := HB3.out.trans (hb4.mono HB3.out.size); clear hb4)
                      | (have hg := HB2; clear hg; go_at_call 30; refine Calls.mono (HE2.out _ HB2.out) ?_; rintro e w3 ⟨rfl, hb3⟩; have HB3 : Hid (Below w.heap.size w w3) := HB2.out.trans (hb3.mono HB2.out.size); clear hb3)
                      | (go_at_call 30; refine Calls.mono (HE1.out _ HB1.out) ?_; rintro e w2 ⟨rfl, hb2⟩; have HB2 : Hid (Below w.heap.size w w2) := HB1.out.trans (hb2.mono HB1.out.size); clear hb2)
                      | (go_at_call 32; refine Calls.mono HFI.out ?_; rintro e w1 ⟨rfl, hb1⟩; have HB1 : Hid (Below w.heap.size w w1) := hb1; clear hb1))
                    go_ret
                    exact ⟨by rw [HO.out]; rfl, HB4.out⟩
                  | false =>
                    go_enter Try.func41, Try.ntmps41
                    go_wp2_with (first
                      | (go_at_call 36; refine Calls.mono (HRT.out _ HB3.out) ?_; rintro e w4 ⟨rfl, hb4⟩; have HB4 : Hid (Below w.heap.size w w4) := HB3.out.trans (hb4.mono HB3.out.size); clear hb4)
                      | (have hg := HB2; clear hg; go_at_call 30; refine Calls.mono (HE2.out _ HB2.out) ?_; rintro e w3 ⟨rfl, hb3⟩; have HB3 : Hid (Below w.heap.size w w3) := HB2.out.trans (hb3.mono HB2.out.size); clear hb3)
                      | (go_at_call 30; refine Calls.mono (HE1.out _ HB1.out) ?_; rintro e w2 ⟨rfl, hb2⟩; have HB2 : Hid (Below w.heap.size w w2) := HB1.out.trans (hb2.mono HB1.out.size); clear hb2)
                      | (go_at_call 32; refine Calls.mono HFI.out ?_; rintro e w1 ⟨rfl, hb1⟩; have HB1 : Hid (Below w.heap.size w w1) := hb1; clear hb1))
                    go_ret
                    exact ⟨by rw [HO.out]; rfl, HB4.out⟩
                | false =>
                  have hwv : wv = z := by rw [← HWV.out, wantZ, if_neg (by simp)]
                  subst hwv
                  cases ok with
                  | true =>
                    go_enter Try.func41, Try.ntmps41
                    go_wp2_with (first
                      | (go_at_call 36; refine Calls.mono (HRT.out _ HB3.out) ?_; rintro e w4 ⟨rfl, hb4⟩; have HB4 : Hid (Below w.heap.size w w4) := HB3.out.trans (hb4.mono HB3.out.size); clear hb4)
                      | (have hg := HB2; clear hg; go_at_call 30; refine Calls.mono (HE2.out _ HB2.out) ?_; rintro e w3 ⟨rfl, hb3⟩; have HB3 : Hid (Below w.heap.size w w3) := HB2.out.trans (hb3.mono HB2.out.size); clear hb3)
                      | (go_at_call 30; refine Calls.mono (HE1.out _ HB1.out) ?_; rintro e w2 ⟨rfl, hb2⟩; have HB2 : Hid (Below w.heap.size w w2) := HB1.out.trans (hb2.mono HB1.out.size); clear hb2)
                      | (go_at_call 32; refine Calls.mono HFI.out ?_; rintro e w1 ⟨rfl, hb1⟩; have HB1 : Hid (Below w.heap.size w w1) := hb1; clear hb1))
                    go_ret
                    exact ⟨by rw [HO.out]; rfl, HB4.out⟩
                  | false =>
                    go_enter Try.func41, Try.ntmps41
                    go_wp2_with (first
                      | (go_at_call 36; refine Calls.mono (HRT.out _ HB3.out) ?_; rintro e w4 ⟨rfl, hb4⟩; have HB4 : Hid (Below w.heap.size w w4) := HB3.out.trans (hb4.mono HB3.out.size); clear hb4)
                      | (have hg := HB2; clear hg; go_at_call 30; refine Calls.mono (HE2.out _ HB2.out) ?_; rintro e w3 ⟨rfl, hb3⟩; have HB3 : Hid (Below w.heap.size w w3) := HB2.out.trans (hb3.mono HB2.out.size); clear hb3)
                      | (go_at_call 30; refine Calls.mono (HE1.out _ HB1.out) ?_; rintro e w2 ⟨rfl, hb2⟩; have HB2 : Hid (Below w.heap.size w w2) := HB1.out.trans (hb2.mono HB1.out.size); clear hb2)
                      | (go_at_call 32; refine Calls.mono HFI.out ?_; rintro e w1 ⟨rfl, hb1⟩; have HB1 : Hid (Below w.heap.size w w1) := hb1; clear hb1))
                    go_ret
                    exact ⟨by rw [HO.out]; rfl, HB4.out⟩
              · have b2 : ((fl : Int) != wv) = true := by simpa using c2'
                have HO : Hid (be = 2) := by rw [Hid, HW2.out, if_neg (fun h => c2' h.2.1)]
                clear HW2 hD hS hC e1 e2 e3 c1' c2'
                cases wh with
                | true =>
                  have hwv : wv = ps := by rw [← HWV.out, wantZ, if_pos rfl, hps]
                  subst hwv
                  go_enter Try.func41, Try.ntmps41
                  go_wp2_with (first
                    | (have hg := HB2; clear hg; go_at_call 30; refine Calls.mono (HE2.out _ HB2.out) ?_; rintro e w3 ⟨rfl, hb3⟩; have HB3 : Hid (Below w.heap.size w w3) := HB2.out.trans (hb3.mono HB2.out.size); clear hb3)
                    | (go_at_call 30; refine Calls.mono (HE1.out _ HB1.out) ?_; rintro e w2 ⟨rfl, hb2⟩; have HB2 : Hid (Below w.heap.size w w2) := HB1.out.trans (hb2.mono HB1.out.size); clear hb2)
                    | (go_at_call 32; refine Calls.mono HFI.out ?_; rintro e w1 ⟨rfl, hb1⟩; have HB1 : Hid (Below w.heap.size w w1) := hb1; clear hb1))
                  go_ret
                  exact ⟨by rw [HO.out]; rfl, HB3.out⟩
                | false =>
                  have hwv : wv = z := by rw [← HWV.out, wantZ, if_neg (by simp)]
                  subst hwv
                  go_enter Try.func41, Try.ntmps41
                  go_wp2_with (first
                    | (have hg := HB2; clear hg; go_at_call 30; refine Calls.mono (HE2.out _ HB2.out) ?_; rintro e w3 ⟨rfl, hb3⟩; have HB3 : Hid (Below w.heap.size w w3) := HB2.out.trans (hb3.mono HB2.out.size); clear hb3)
                    | (go_at_call 30; refine Calls.mono (HE1.out _ HB1.out) ?_; rintro e w2 ⟨rfl, hb2⟩; have HB2 : Hid (Below w.heap.size w w2) := HB1.out.trans (hb2.mono HB1.out.size); clear hb2)
                    | (go_at_call 32; refine Calls.mono HFI.out ?_; rintro e w1 ⟨rfl, hb1⟩; have HB1 : Hid (Below w.heap.size w w1) := hb1; clear hb1))
                  go_ret
                  exact ⟨by rw [HO.out]; rfl, HB3.out⟩
            · have b1 : ((dl : Int) != pn) = true := by simpa using c1'
              have HO : Hid (be = 2) := by rw [Hid, HW2.out, if_neg (fun h => c1' h.1)]
              clear HW2 hD hS hC e1 e2 e3 c1'
              cases wh <;>
              · go_enter Try.func41, Try.ntmps41
                go_wp2_with (first
                  | (have hg := HB2; clear hg; go_at_call 30; refine Calls.mono (HE2.out _ HB2.out) ?_; rintro e w3 ⟨rfl, hb3⟩; have HB3 : Hid (Below w.heap.size w w3) := HB2.out.trans (hb3.mono HB2.out.size); clear hb3)
                  | (go_at_call 30; refine Calls.mono (HE1.out _ HB1.out) ?_; rintro e w2 ⟨rfl, hb2⟩; have HB2 : Hid (Below w.heap.size w w2) := HB1.out.trans (hb2.mono HB1.out.size); clear hb2)
                  | (go_at_call 32; refine Calls.mono HFI.out ?_; rintro e w1 ⟨rfl, hb1⟩; have HB1 : Hid (Below w.heap.size w w1) := hb1; clear hb1))
                go_ret
                exact ⟨by rw [HO.out]; rfl, HB3.out⟩
  · have HO : Hid (be = fe) := by rw [Hid, HBV.out, if_pos (show fe ≠ 0 from h1), if_pos h1]
    have b2 : (fe != 0) = true := by simpa using h1
    clear hD hS hC e1 e2 e3 HBV
    go_enter Try.func41, Try.ntmps41
    go_wp2_with (go_at_call 32; refine Calls.mono HFI.out ?_; rintro e w1 ⟨rfl, hb1⟩; have HB1 : Hid (Below w.heap.size w w1) := hb1; clear hb1)
    go_ret
    exact ⟨by rw [HO.out]; rfl, HB1.out⟩
/-- What the document tells of bytes. -/
def RfP (w : World) (er : Int) (R : List Int) (e : Ending) (w' : World) : Prop := ∃ x, e = .returned (.tuple #[x, .int .i64 er]) ∧ Own w' w.heap.size x (if er = 0 then R else []) ∧ Below w.heap.size w w'
theorem rfP_no {w w' : World} {er : Int} {R : List Int} (h : er ≠ 0) (hb : Below w.heap.size w w') : RfP w er R (.returned (.tuple #[.slice none 0 0, .int .i64 er])) w' := ⟨_, rfl, by rw [if_neg h]; exact Own.nil _ _, hb⟩
/-- A part of a slice. -/
theorem bs_part {w : World} {b off n cap : Nat} {l : List Int} (h : Bs w (.slice (some ⟨b, off, none⟩) n cap) l) (p z : Nat) (hp : p + z ≤ n) : Bs w (.slice (some ⟨b, off + p, none⟩) z (cap - p)) ((l.drop p).take z) := by
  obtain ⟨ao', cap', e, hc, hn, hcell⟩ := h
  injection e with e1 e2 e3
  subst e1 e2 e3
  have hl : ((l.drop p).take z).length = z := by rw [List.length_take, List.length_drop]; omega
  refine ⟨_, _, by rw [hl], by rw [hl]; omega, (fun h => by cases h), ?_⟩
  intro ad' h' i hi
  obtain rfl := Option.some.inj h'
  rw [hl] at hi
  have := hcell _ rfl (p + i) (by omega)
  rw [addr_add] at this
  rw [addr_add, Nat.add_assoc, this]
  simp [List.getD, List.getElem?_drop, hi]
theorem some_at {w : World} {ao : Option Addr} {n cap : Nat} {l : List Int} (h : Bs w (.slice ao n cap) l) (h0 : 0 < n) : ∃ b off, ao = some ⟨b, off, none⟩ ∧ ∀ i, i < n → w.cell? ⟨b, off + i, none⟩ = some (.int .u8 (l.getD i 0)) := by
  obtain ⟨ao', cap', e, _⟩ := id h
  injection e with e1 e2 e3
  subst e2
  obtain ⟨b, off, cap2, e4, _, hc⟩ := h.opened h0
  injection e4 with e5 _ _
  exact ⟨b, off, e5, hc⟩
/-- What the document tells of bytes, read once. -/
def RfB (w : World) (er : Int) (R : List Int) (e : Ending) (w' : World) : Prop := ∃ x, e = .returned (.tuple #[x, .int .i64 er]) ∧ Bs w' x (if er = 0 then R else []) ∧ Below w.heap.size w w'
theorem rfB_no {w w' : World} {er : Int} {R : List Int} (h : er ≠ 0) (hb : Below w.heap.size w w') : RfB w er R (.returned (.tuple #[.slice none 0 0, .int .i64 er])) w' := ⟨_, rfl, by rw [if_neg h]; exact Bs.nil _, hb⟩
end Go.Proofs.Ytneegijbbbebkaa

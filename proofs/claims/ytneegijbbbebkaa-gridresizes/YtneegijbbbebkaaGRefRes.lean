/-
  The document's Resize. Conditions: the new extent has at most 3000 elements, lengths are such as memory bears.
-/
import Derived.Test.YtneegijbbbebkaaGRefT
import Derived.Test.YtneegijbbbebkaaGRefW
import Derived.Test.YtneegijbbbebkaaGRefB
namespace Go.Proofs.Ytneegijbbbebkaa
open Go.RowKit Go.Shelf
set_option linter.unusedVariables false
set_option maxRecDepth 100000

/-- What there is where a resize may be. -/
theorem rs_ok {dl fl : Nat} {z : Int} {A B : List Int} (h : rsE dl z A B fl = 0) : elE A = 0 ∧ elE B = 0 ∧ A.length = B.length ∧ elN A = prd A ∧ elN B = prd B ∧ 1 ≤ z ∧ z ≤ 256 ∧ prd A * z ≤ 65536 ∧ prd B * z ≤ 65536 ∧ (dl : Int) = prd A * z ∧ (fl : Int) = z := by
  unfold rsE at h
  by_cases h1 : elE A = 0
  · rw [if_neg (by simpa using h1)] at h
    by_cases h2 : elE B = 0
    · rw [if_neg (by simpa using h2)] at h
      by_cases h3 : A.length = B.length
      · rw [if_neg (by simpa using h3)] at h
        by_cases h4 : wgE z (elN A) (elN B) = 0
        · rw [if_neg (by simpa using h4)] at h
          by_cases h5 : (dl : Int) = elN A * z ∧ (fl : Int) = z
          · have e1 : elN A = prd A := by rw [elN, if_pos (elE_ok h1)]
            have e2 : elN B = prd B := by rw [elN, if_pos (elE_ok h2)]
            obtain ⟨z1, z2, z3⟩ := wgE_zero h4
            rw [e1] at h5
            rw [e1, e2] at z3
            have a1 := Int.mul_le_mul_of_nonneg_right (show prd A ≤ max (prd A) (prd B) by omega) (show 0 ≤ z by omega)
            have a2 := Int.mul_le_mul_of_nonneg_right (show prd B ≤ max (prd A) (prd B) by omega) (show 0 ≤ z by omega)
            exact ⟨h1, h2, h3, e1, e2, z1, z2, by omega, by omega, h5.1, h5.2⟩
          · rw [if_neg h5] at h; cases h
        · rw [if_pos h4] at h; exact absurd h h4
      · rw [if_pos h3] at h; cases h
    · rw [if_pos h2] at h; exact absurd h h2
  · rw [if_pos h1] at h; exact absurd h h1
/-- A resize, tuple by tuple. -/
theorem rs_el {data fill A B : List Int} {z N : Nat} (h : rsE data.length (z : Int) A B fill.length = 0) (hN : prdN (dN B) = N) : (rsR data fill A B z).length = N * z ∧ ∀ K, K < N → ∃ t, tG B K = t ∧ t.length = A.length ∧ Ins2 B t ∧
      (inbB (minL A B) t = true → Ins2 A t ∧ ∃ p : Nat, plc A t = (p : Int) ∧ (p + 1) * z ≤ data.length ∧ (rsR data fill A B z).take ((K + 1) * z) = (rsR data fill A B z).take (K * z) ++ (data.drop (p * z)).take z) ∧
      (inbB (minL A B) t = false → (rsR data fill A B z).take ((K + 1) * z) = (rsR data fill A B z).take (K * z) ++ fill) := by
  obtain ⟨h1, h2, h3, e1, e2, z1, z2, p1, p2, hd, hf⟩ := rs_ok h
  have pa : ∀ x ∈ A, 0 ≤ x := fun x hx => ((dims_of (elE_ok h1).1).2 x hx).1
  have pb : ∀ x ∈ B, 0 ≤ x := fun x hx => ((dims_of (elE_ok h2).1).2 x hx).1
  obtain ⟨bx1, bx2⟩ := min_box (A := A) (B := B) (r := A.length) rfl h3.symm pa pb
  have hR : rsR data fill A B z = boxB B (List.replicate A.length 0) A (List.replicate A.length 0) data z (minL A B) (repL N fill) := by
    rw [rsR, e2, ← prd_dN pb, hN, ← h3]; rfl
  obtain ⟨hl, hel⟩ := box_el (z := z) (N := N) (x := data) (fill := fill) bx1 bx2 (by omega) hd (by omega) pb hN
  rw [← hR] at hl hel
  refine ⟨hl, fun K hK => ?_⟩
  obtain ⟨t, ht, htl, hti, hy, hn⟩ := hel K hK
  rw [addL_zero htl] at hy
  exact ⟨t, ht, htl, hti, hy, hn⟩
theorem rs_len {data own A B : List Int} {z : Int} (h : rsE data.length z A B own.length = 0) : (rsR data own A B z.toNat).length ≤ 65536 := by
  obtain ⟨h1, h2, h3, e1, e2, z1, z2, p1, p2, hd, hf⟩ := rs_ok h
  obtain ⟨zn, rfl⟩ : ∃ zn : Nat, z = (zn : Int) := ⟨z.toNat, by omega⟩
  have pb : ∀ x ∈ B, 0 ≤ x := fun x hx => ((dims_of (elE_ok h2).1).2 x hx).1
  obtain ⟨hl, _⟩ := rs_el (z := zn) h rfl
  rw [show ((zn : Int)).toNat = zn from rfl, hl]
  have h9 := prd_dN pb
  rw [← h9, ← Int.natCast_mul] at p2
  omega
/-- Where the numbers are all below. -/
theorem inb_min {A B t : List Int} (hl : A.length = B.length) (ht : Ins2 B t) : inbB (minL A B) t = true ↔ ∀ (j : Nat) x a, t[j]? = some x → A[j]? = some a → x < a := by
  have hm := minL_length (n := A.length) rfl hl.symm
  rw [inbB_iff (by rw [hm, ht.1, hl])]
  constructor
  · intro h j x a hx ha
    have hj := (List.getElem?_eq_some_iff.1 ha).1
    have hb := List.getElem?_eq_getElem (show j < B.length by omega)
    have := h j x _ hx (minL_at ha hb)
    omega
  · intro h j x y hx hy
    have hj := (List.getElem?_eq_some_iff.1 hx).1
    rw [ht.1] at hj
    have hb := List.getElem?_eq_getElem hj
    have ha := List.getElem?_eq_getElem (show j < A.length by omega)
    rw [minL_at ha hb] at hy
    obtain rfl := Option.some.inj hy
    have h1 := h j x _ hx ha
    have h2 := ht.2 j x _ hx hb
    omega
set_option maxHeartbeats 16000000 in
theorem refResize_any (data fill A B : List Int) (vda va vb vf : Value) (z : Int) (w : World) (hda : Bs w vda data) (hdl : data.length ≤ 140737488351232) (hfi : Bs w vf fill) (hfl : fill.length ≤ 140737488351232) (hA : Is w va A) (hB : Is w vb B) (hz : I64 z) (hlt : elN B ≤ 3000) :
    Calls Try.prog 26 #[vda, .int .i64 z, va, vb, vf] w (RfB w (rsE data.length z A B fill.length) (rsR data fill A B z.toNat)) := by
  have HDA : Hid (Bs w vda data) := hda
  have HFI : Hid (Bs w vf fill) := hfi
  have HA : Hid (Is w va A) := hA
  have HB : Hid (Is w vb B) := hB
  obtain ⟨xa, xc, rfl, xl1, xl2, _⟩ := hda
  obtain ⟨fa, fc, rfl, fl1, fl2, _⟩ := hfi
  obtain ⟨a1, m1, c1, rfl, e1, k1, l1⟩ := hA.open
  obtain ⟨a2, m2, c2, rfl, e2, k2, l2⟩ := hB.open
  obtain ⟨dl, hdl'⟩ : ∃ dl, data.length = dl := ⟨_, rfl⟩
  obtain ⟨fl, hfl'⟩ : ∃ fl, fill.length = fl := ⟨_, rfl⟩
  have HDL : Hid (data.length = dl) := hdl'
  have HFL : Hid (fill.length = fl) := hfl'
  rw [hdl'] at hdl xl1 ⊢
  rw [hfl'] at hfl fl1 ⊢
  obtain ⟨ce, HCE⟩ : ∃ ce, Hid (rsE dl z A B fl = ce) := ⟨_, rfl⟩
  obtain ⟨en, HEN⟩ : ∃ en, Hid (elN A = en) := ⟨_, rfl⟩
  obtain ⟨ee, HEE⟩ : ∃ ee, Hid (elE A = ee) := ⟨_, rfl⟩
  obtain ⟨bn, HBN⟩ : ∃ bn, Hid (elN B = bn) := ⟨_, rfl⟩
  obtain ⟨be, HBE⟩ : ∃ be, Hid (elE B = be) := ⟨_, rfl⟩
  have HE1 : Hid (Calls Try.prog 30 #[.slice a1 m1 c1] w fun e w' => e = .returned (.tuple #[.int .i64 en, .int .i64 ee]) ∧ Below w.heap.size w w') := by
    have := refElements_any A _ w hA
    rwa [HEN.out, HEE.out] at this
  have HE2 : Hid (∀ w1, Below w.heap.size w w1 → Calls Try.prog 30 #[.slice a2 m2 c2] w1 fun e w' => e = .returned (.tuple #[.int .i64 bn, .int .i64 be]) ∧ Below w1.heap.size w1 w') := fun w1 h1 => by
    have := refElements_any B _ w1 (HB.out.below h1)
    rwa [HBN.out, HBE.out] at this
  rw [HCE.out]
  have HCD : Hid (ce = if ee ≠ 0 then ee else if be ≠ 0 then be else if m1 ≠ m2 then 2 else if wgE z en bn ≠ 0 then wgE z en bn else if (dl : Int) = en * z ∧ (fl : Int) = z then 0 else 2) := by rw [Hid, ← HCE.out, rsE, HEE.out, HBE.out, HEN.out, HBN.out, e1, e2]
  by_cases h1 : ee = 0
  · by_cases h2 : be = 0
    · have HC1 : Hid (ce = if m1 ≠ m2 then 2 else if wgE z en bn ≠ 0 then wgE z en bn else if (dl : Int) = en * z ∧ (fl : Int) = z then 0 else 2) := by rw [Hid, HCD.out, if_neg (by omega), if_neg (by omega)]
      have hbn := elN_bd A
      have hbs := elN_bd B
      rw [HEN.out] at hbn
      rw [HBN.out] at hbs
      obtain ⟨hbn0, hbn1⟩ := hbn
      obtain ⟨hbs0, hbs1⟩ := hbs
      subst h1 h2
      clear HCD
      by_cases h3 : m1 = m2
      · subst h3
        have d0 : ((m1 : Int) != (m1 : Int)) = false := by simp
        have HC2 : Hid (ce = if wgE z en bn ≠ 0 then wgE z en bn else if (dl : Int) = en * z ∧ (fl : Int) = z then 0 else 2) := by rw [Hid, HC1.out, if_neg (by omega)]
        clear HC1 e2
        by_cases z1 : z < 1
        · have d1 : decide (z < 1) = true := by simpa using z1
          have HO : Hid (ce = 2) := by
            have e : wgE z en bn = 2 := by rw [wgE, if_pos (.inl z1)]
            rw [Hid, HC2.out, e, if_pos (by omega)]
          obtain rfl := HO.out
          clear hA hB HC2 hdl' hfl'
          go_enter Try.func26, Try.ntmps26
          go_wp2_with (first
            | (have hg := HB1; clear hg; go_at_call 30; refine Calls.mono (HE2.out _ HB1.out) ?_; rintro e w2 ⟨rfl, hb2⟩; have HB2 : Hid (Below w.heap.size w w2) := HB1.out.trans (hb2.mono HB1.out.size); clear hb2)
            | (go_at_call 30; refine Calls.mono HE1.out ?_; rintro e w1 ⟨rfl, hb1⟩; have HB1 : Hid (Below w.heap.size w w1) := hb1; clear hb1))
          go_ret2
          exact rfB_no (by omega) HB2.out
        · have d1 : decide (z < 1) = false := by simpa using z1
          by_cases z2 : 256 < z
          · have d2 : decide (256 < z) = true := by simpa using z2
            have HO : Hid (ce = 2) := by
              have e : wgE z en bn = 2 := by rw [wgE, if_pos (.inr z2)]
              rw [Hid, HC2.out, e, if_pos (by omega)]
            obtain rfl := HO.out
            clear hA hB HC2 hdl' hfl'
            go_enter Try.func26, Try.ntmps26
            go_wp2_with (first
              | (have hg := HB1; clear hg; go_at_call 30; refine Calls.mono (HE2.out _ HB1.out) ?_; rintro e w2 ⟨rfl, hb2⟩; have HB2 : Hid (Below w.heap.size w w2) := HB1.out.trans (hb2.mono HB1.out.size); clear hb2)
              | (go_at_call 30; refine Calls.mono HE1.out ?_; rintro e w1 ⟨rfl, hb1⟩; have HB1 : Hid (Below w.heap.size w w1) := hb1; clear hb1))
            go_ret2
            exact rfB_no (by omega) HB2.out
          · have d2 : decide (256 < z) = false := by simpa using z2
            have hmn : ∀ x : Int, 0 ≤ x → x ≤ 1048576 → 0 ≤ x * z ∧ x * z ≤ 268435456 := fun x hx0 hx1 => ⟨Int.mul_nonneg hx0 (by omega), by
              have := Int.mul_le_mul hx1 (show z ≤ 256 by omega) (by omega) (by omega : (0 : Int) ≤ 1048576)
              omega⟩
            obtain ⟨pn, hpn⟩ : ∃ pn, en * z = pn := ⟨_, rfl⟩
            obtain ⟨ps, hps⟩ : ∃ ps, bn * z = ps := ⟨_, rfl⟩
            have hn := hmn en hbn0 hbn1
            have hs := hmn bn hbs0 hbs1
            rw [hpn] at hn
            rw [hps] at hs
            have hw1 : IntKind.i64.wrap (en * z) = pn := by rw [hpn]; exact wrap_i64_in _ (by omega) (by omega)
            have hw2 : IntKind.i64.wrap (bn * z) = ps := by rw [hps]; exact wrap_i64_in _ (by omega) (by omega)
            have hmx : max en bn * z = max pn ps := by
              rcases Int.le_total en bn with h | h
              · have := Int.mul_le_mul_of_nonneg_right h (show 0 ≤ z by omega)
                rw [Int.max_eq_right h, hps, Int.max_eq_right (by omega)]
              · have := Int.mul_le_mul_of_nonneg_right h (show 0 ≤ z by omega)
                rw [Int.max_eq_left h, hpn, Int.max_eq_left (by omega)]
            have HWG : Hid (wgE z en bn = if 65536 < max pn ps then 3 else 0) := by rw [Hid, wgE, if_neg (by omega), hmx]
            rw [hpn] at HC2
            by_cases g1 : 65536 < pn
            · have d3 : decide (65536 < pn) = true := by simpa using g1
              have HO : Hid (ce = 3) := by
                have e : wgE z en bn = 3 := by rw [HWG.out, if_pos (by omega)]
                rw [Hid, HC2.out, e, if_pos (by omega)]
              obtain rfl := HO.out
              clear hA hB HC2 hdl' hfl' HWG hmn hmx
              go_enter Try.func26, Try.ntmps26
              go_wp2_with (first
                | (have hg := HB1; clear hg; go_at_call 30; refine Calls.mono (HE2.out _ HB1.out) ?_; rintro e w2 ⟨rfl, hb2⟩; have HB2 : Hid (Below w.heap.size w w2) := HB1.out.trans (hb2.mono HB1.out.size); clear hb2)
                | (go_at_call 30; refine Calls.mono HE1.out ?_; rintro e w1 ⟨rfl, hb1⟩; have HB1 : Hid (Below w.heap.size w w1) := hb1; clear hb1))
              go_ret2
              exact rfB_no (by omega) HB2.out
            · have d3 : decide (65536 < pn) = false := by simpa using g1
              by_cases g2 : 65536 < ps
              · have d4 : decide (65536 < ps) = true := by simpa using g2
                have HO : Hid (ce = 3) := by
                  have e : wgE z en bn = 3 := by rw [HWG.out, if_pos (by omega)]
                  rw [Hid, HC2.out, e, if_pos (by omega)]
                obtain rfl := HO.out
                clear hA hB HC2 hdl' hfl' HWG hmn hmx
                go_enter Try.func26, Try.ntmps26
                go_wp2_with (first
                  | (have hg := HB1; clear hg; go_at_call 30; refine Calls.mono (HE2.out _ HB1.out) ?_; rintro e w2 ⟨rfl, hb2⟩; have HB2 : Hid (Below w.heap.size w w2) := HB1.out.trans (hb2.mono HB1.out.size); clear hb2)
                  | (go_at_call 30; refine Calls.mono HE1.out ?_; rintro e w1 ⟨rfl, hb1⟩; have HB1 : Hid (Below w.heap.size w w1) := hb1; clear hb1))
                go_ret2
                exact rfB_no (by omega) HB2.out
              · have d4 : decide (65536 < ps) = false := by simpa using g2
                have HC3 : Hid (ce = if (dl : Int) = pn ∧ (fl : Int) = z then 0 else 2) := by
                  have e : wgE z en bn = 0 := by rw [HWG.out, if_neg (by omega)]
                  rw [Hid, HC2.out, e, if_neg (by omega)]
                clear HC2 HWG hmn hmx
                by_cases c1' : (dl : Int) = pn
                · have b1 : ((dl : Int) != pn) = false := by simpa using c1'
                  by_cases c2' : (fl : Int) = z
                  · have b2 : ((fl : Int) != z) = false := by simpa using c2'
                    have HO : Hid (ce = 0) := by rw [Hid, HC3.out, if_pos ⟨c1', c2'⟩]
                    obtain rfl := HO.out
                    have hce := HCE.out
                    obtain ⟨zn, rfl⟩ : ∃ zn : Nat, z = (zn : Int) := ⟨z.toNat, by omega⟩
                    obtain rfl : fl = zn := by omega
                    obtain ⟨f1, f2, f3, f4, f5, _, _, _, _, g1, _⟩ := rs_ok hce
                    have hz1 : 1 ≤ fl := by omega
                    have hz2 : fl ≤ 256 := by omega
                    have hdA := (dims_of (elE_ok f1).1).2
                    have hdB := (dims_of (elE_ok f2).1).2
                    have hd4 : m1 ≤ 4 := by have := (dims_of (elE_ok f1).1).1; omega
                    by_cases hb0 : bn = 0
                    · have d5 : (bn == 0) = true := by simpa using hb0
                      have HV : Hid (∀ w', Below w.heap.size w w' → RfB w 0 (rsR data fill A B ((fl : Int)).toNat) (.returned (.tuple #[.slice none 0 0, .int .i64 0])) w') := fun w' h => by
                        refine ⟨_, rfl, ?_, h⟩
                        have h9 : prdN (dN B) = 0 := by
                          have := prd_dN (D := B) (fun x hx => (hdB x hx).1)
                          have := HBN.out
                          omega
                        obtain ⟨hl, _⟩ := rs_el (data := data) (fill := fill) (A := A) (B := B) (z := fl) (by rw [HDL.out, HFL.out]; exact hce) h9
                        rw [Nat.zero_mul] at hl
                        rw [if_pos rfl, show ((fl : Int)).toNat = fl from rfl, List.eq_nil_of_length_eq_zero hl]
                        exact Bs.nil _
                      clear hA hB HC3 hdl' hfl' hce f1 f2 f3 f4 f5 g1 hdA hdB e1 c1' c2' hb0
                      go_enter Try.func26, Try.ntmps26
                      go_wp2_with (first
                        | (have hg := HB1; clear hg; go_at_call 30; refine Calls.mono (HE2.out _ HB1.out) ?_; rintro e w2 ⟨rfl, hb2⟩; have HB2 : Hid (Below w.heap.size w w2) := HB1.out.trans (hb2.mono HB1.out.size); clear hb2)
                        | (go_at_call 30; refine Calls.mono HE1.out ?_; rintro e w1 ⟨rfl, hb1⟩; have HB1 : Hid (Below w.heap.size w w1) := hb1; clear hb1))
                      go_ret2
                      exact HV.out _ HB2.out
                    · have d5 : (bn == 0) = false := by simpa using hb0
                      obtain ⟨N, hN⟩ : ∃ N, prdN (dN B) = N := ⟨_, rfl⟩
                      have hNi : (N : Int) = prd B := by rw [← hN]; exact prd_dN (fun x hx => (hdB x hx).1)
                      have hbp : bn = prd B := by rw [← HBN.out, f5]
                      have hN3 : N ≤ 3000 := by omega
                      have hB1 : ∀ x ∈ B, 1 ≤ x ∧ x ≤ 1048576 := fun x hx => by
                        have h8 := hdB x hx
                        refine ⟨?_, h8.2⟩
                        rcases Int.lt_or_eq_of_le h8.1 with h | h
                        · omega
                        · subst h
                          rw [prd_zero hx] at hbp
                          exact absurd hbp hb0
                      obtain ⟨hRl, hEL⟩ := rs_el (data := data) (fill := fill) (A := A) (B := B) (z := fl) (by rw [HDL.out, HFL.out]; exact hce) hN
                      obtain ⟨R, HR⟩ : ∃ R, Hid (rsR data fill A B fl = R) := ⟨_, rfl⟩
                      rw [HR.out] at hRl hEL
                      have HEL : Hid _ := hEL
                      have HRL : Hid (R.length = N * fl) := hRl
                      have hNz : N * fl ≤ 768000 := by
                        have := Nat.mul_le_mul hN3 hz2
                        omega
                      have HRV : Hid (∀ (x : Value) (w' : World), Bs w' x R → Below w.heap.size w w' → RfB w 0 (rsR data fill A B ((fl : Int)).toNat) (.returned (.tuple #[x, .int .i64 0])) w') := fun x w' h1 h2 => ⟨x, rfl, by rw [if_pos rfl, show ((fl : Int)).toNat = fl from rfl, HR.out]; exact h1, h2⟩
                      have HTU : Hid (∀ w1, Below w.heap.size w w1 → Calls Try.prog 42 #[.slice a2 m1 c2] w1 fun e w' => ∃ vo vc, e = .returned (.slice vo N vc) ∧ Iss w' (.slice vo N vc) (outG B m1) ∧ Below w1.heap.size w1 w') := fun w1 h => by
                        refine (refTuples_any B _ w1 (HB.out.below h) (by omega) hB1 (by omega)).mono ?_
                        rintro e w2 ⟨v, rfl, hv, hb⟩
                        rw [show B.length = m1 by omega] at hv
                        have hl : (outG B m1).length = N := by rw [outG_len, List.take_of_length_le (by omega), hN]
                        have hi := hv.iss (by omega)
                        obtain ⟨ao, n, cap, rfl, hn, _⟩ := hi.open
                        rw [hl] at hn
                        subst hn
                        exact ⟨ao, cap, rfl, hi, hb⟩
                      have HOG : Hid (∀ (i : Nat) t, (outG B m1)[i]? = some t → i < N ∧ t = tG B i) := fun i t h => by
                        have := outG_at h
                        rwa [List.take_of_length_le (by omega), hN] at this
                      have HPL : Hid (∀ (u : List Int) (vu : Value) (p : Nat) w1, Below w.heap.size w w1 → Is w1 vu u → Ins2 A u → plc A u = (p : Int) → Calls Try.prog 44 #[.slice a1 m1 c1, vu] w1 fun e w' => e = .returned (.int .i64 (p : Int)) ∧ Below w1.heap.size w1 w') := fun u vu p w1 hb hu hi hp => by
                        have := refPlace_any A u _ vu w1 (HA.out.below hb) hu hi (elE_ok f1).2
                        rwa [hp] at this
                      have HMIN : Hid (∀ t, Ins2 B t → (inbB (minL A B) t = true ↔ ∀ (j : Nat) x a, t[j]? = some x → A[j]? = some a → x < a)) := fun t ht => inb_min f3 ht
                      have HAL : Hid (A.length = m1) := e1
                      have HBL : Hid (B.length = m1) := by rw [Hid, ← f3]; exact e1
                      obtain ⟨i0, hi, hi0, hi1, hi2⟩ := info_parts Try.info5
                      have hdl6 : dl ≤ 65536 := by omega
                      clear hA hB HC3 hdl' hfl' hce f1 f2 f3 f4 f5 g1 hdA hdB e1 c1' c2' hb0 hN hNi hbp hB1 hRl hEL hlt hz
                      go_enter Try.func26, Try.ntmps26
                      go_wp2_with (first
                        | (go_at_call 42; refine Calls.mono (HTU.out _ HB2.out) ?_; rintro e w3 ⟨vo, vcp, rfl, hi3, hb3⟩; have HIS : Hid (Iss w3 (.slice vo N vcp) (outG B m1)) := hi3; have HB3 : Hid (Below w.heap.size w w3) := HB2.out.trans (hb3.mono HB2.out.size); clear hi3 hb3)
                        | (have hg := HB1; clear hg; go_at_call 30; refine Calls.mono (HE2.out _ HB1.out) ?_; rintro e w2 ⟨rfl, hb2⟩; have HB2 : Hid (Below w.heap.size w w2) := HB1.out.trans (hb2.mono HB1.out.size); clear hb2)
                        | (go_at_call 30; refine Calls.mono HE1.out ?_; rintro e w1 ⟨rfl, hb1⟩; have HB1 : Hid (Below w.heap.size w w1) := hb1; clear hb1))
                      go_loopw [18, 16] (fun x y wr => ∃ i : Nat, i ≤ N ∧ x = .int .i64 (i : Int) ∧ Hid (Own wr w3.heap.size y (R.take (i * fl))) ∧ Hid (Below w3.heap.size w3 wr)) (fun x _ _ => N - (intOf x).toNat)
                      case atStart => exact ⟨0, Nat.zero_le _, rfl, by rw [Hid, Nat.zero_mul, List.take_zero]; exact Own.nil _ _, Below.refl _ _⟩
                      case round =>
                        obtain ⟨i, hiN, rfl, HO4, HB4⟩ := hrel
                        rename World => w4
                        by_cases hlt : i < N
                        · have hil : (i : Int) < (N : Int) := by omega
                          obtain ⟨t, ht0, htr, hti, hyes, hno⟩ := HEL.out i hlt
                          have HTI : Hid (Ins2 B t) := hti
                          have HTE : Hid (tG B i = t) := ht0
                          have HTL : Hid (t.length = m1) := by rw [Hid, htr]; exact HAL.out
                          have HYES : Hid _ := hyes
                          have HNO : Hid _ := hno
                          have HTK : Hid ((R.take (i * fl)).length = i * fl) := by
                            have := Nat.mul_le_mul_right fl hiN
                            rw [Hid, List.length_take, HRL.out]; omega
                          have hifl : i * fl ≤ 768000 := by
                            have := Nat.mul_le_mul_right fl hiN
                            omega
                          obtain ⟨ib, HIB⟩ : ∃ ib, Hid (inbB (minL A B) t = ib) := ⟨_, rfl⟩
                          clear htr hti hyes hno ht0
                          go_wp2_with fail
                          go_loopw [20, 19] (fun x y wr => ∃ (d : Nat) (b : Bool), d ≤ m1 ∧ x = .int .i64 (d : Int) ∧ y = .bool b ∧ Hid (b = true ↔ ∀ (j : Nat) x a, j < d → t[j]? = some x → A[j]? = some a → x < a) ∧ Hid (Below w4.heap.size w4 wr)) (fun x _ _ => m1 - (intOf x).toNat)
                          case atStart => exact ⟨0, true, Nat.zero_le _, rfl, rfl, ⟨fun _ j x a h => by omega, fun _ => rfl⟩, Below.refl _ _⟩
                          case round =>
                            obtain ⟨d, b, hdm, rfl, rfl, HBB, HB5⟩ := hrel
                            rename World => w5
                            have HB45 : Hid (Below w3.heap.size w3 w5) := HB4.out.trans (HB5.out.mono HB4.out.size)
                            have HBW : Hid (Below w.heap.size w w5) := HB3.out.trans (HB45.out.mono HB3.out.size)
                            obtain ⟨go, oo, u, ua, un, uc, rfl, hu, hul, _, _, hcu, hiu⟩ := (HIS.out.below HB45.out).at hlt
                            have hut : u = t := by rw [← HTE.out]; exact (HOG.out i u hu).2
                            subst hut
                            obtain rfl : m1 = un := by rw [← hul, HTL.out]
                            clear hu hul
                            by_cases hlt2 : d < m1
                            · have hdl2 : (d : Int) < (m1 : Int) := by omega
                              cases b with
                              | true =>
                                obtain ⟨gu, ou, x, rfl, hx, _, cx⟩ := hiu.at hlt2
                                obtain ⟨ga, oa, a, rfl, ha, _, ca⟩ := (HA.out.below HBW.out).at hlt2
                                have HXA : Hid (u[d]? = some x ∧ A[d]? = some a) := ⟨hx, ha⟩
                                clear hx ha hiu
                                obtain ⟨c, hc⟩ : ∃ c, decide (x < a) = c := ⟨_, rfl⟩
                                have HC : Hid (c = true ↔ ∀ (j : Nat) x a, j < d + 1 → u[j]? = some x → A[j]? = some a → x < a) := by
                                  rw [Hid, ← hc, decide_eq_true_iff]
                                  constructor
                                  · intro h j y e hj hy he
                                    by_cases hjd : j = d
                                    · subst hjd
                                      rw [HXA.out.1] at hy
                                      rw [HXA.out.2] at he
                                      obtain rfl := Option.some.inj hy
                                      obtain rfl := Option.some.inj he
                                      exact h
                                    · exact HBB.out.1 rfl j y e (by omega) hy he
                                  · intro h
                                    exact h d x a (by omega) HXA.out.1 HXA.out.2
                                go_wp2_with fail
                                go_quiet (fail)
                                go_wp2_with fail
                                go_roundw
                                case rel => exact ⟨d + 1, c, by omega, by simp, by first | rfl | simp [hc], HC.out, below_dN HB5.out HB5.out.size _⟩
                                case measure => simp [intOf]; omega
                              | false =>
                                have HC : Hid (false = true ↔ ∀ (j : Nat) x a, j < d + 1 → u[j]? = some x → A[j]? = some a → x < a) := ⟨fun h => (by cases h), fun h => HBB.out.2 (fun j x a hj => h j x a (by omega))⟩
                                go_wp2_with fail
                                go_quiet (fail)
                                go_wp2_with fail
                                go_roundw
                                case rel => exact ⟨d + 1, false, by omega, by simp, rfl, HC.out, below_dN HB5.out HB5.out.size _⟩
                                case measure => simp [intOf]; omega
                            · obtain rfl : d = m1 := by omega
                              have HBI : Hid (b = ib) := by
                                have h1 := HMIN.out u HTI.out
                                rw [HIB.out] at h1
                                have h2 := HBB.out
                                have h3 : b = true ↔ ib = true := by
                                  rw [h1, h2]
                                  exact ⟨fun h j x a hx ha => h j x a (by have := (List.getElem?_eq_some_iff.1 hx).1; have := HTL.out; omega) hx ha, fun h j x a _ hx ha => h j x a hx ha⟩
                                cases b <;> cases ib <;> simp_all
                              obtain rfl := HBI.out
                              have HIU : Hid (Is w5 (.slice ua d uc) u) := hiu
                              have HO5 : Hid (Own w5 w3.heap.size _ (R.take (i * fl))) := HO4.out.below HB5.out
                              clear hiu HBB
                              cases b with
                              | true =>
                                obtain ⟨hin2, p, hpl, hpb, htk⟩ := HYES.out HIB.out
                                have HHT : Hid (Ins2 A u ∧ plc A u = (p : Int)) := ⟨hin2, hpl⟩
                                obtain ⟨pz, hpz⟩ : ∃ pz, p * fl = pz := ⟨_, rfl⟩
                                rw [hpz] at htk
                                rw [Nat.succ_mul, hpz, HDL.out] at hpb
                                have HTKN : Hid (R.take ((i + 1) * fl) = R.take (i * fl) ++ (data.drop pz).take fl) := htk
                                have HYL : Hid (((data.drop pz).take fl).length = fl) := by rw [Hid, List.length_take, List.length_drop, HDL.out]; omega
                                have hwp : IntKind.i64.wrap ((p : Int) * (fl : Int)) = (pz : Int) := by rw [← Int.natCast_mul, hpz]; exact wrap_i64_in _ (by omega) (by omega)
                                obtain ⟨bb, off, rfl, _⟩ := some_at HDA.out (by rw [HDL.out]; omega)
                                have hpd : ((pz : Int) + (fl : Int)) ≤ (dl : Int) := by omega
                                have hwq : IntKind.i64.wrap ((pz : Int) + (fl : Int)) = (pz : Int) + (fl : Int) := wrap_i64_in _ (by omega) (by omega)
                                have HBS : Hid (∀ w', Below w5.heap.size w5 w' → Bs w' (.slice (some ⟨bb, off + pz, none⟩) (pz + fl - pz) (xc - pz)) ((data.drop pz).take fl)) := fun w' h => by
                                  have h9 := (HDA.out.below HBW.out).below h
                                  rw [HDL.out] at h9
                                  rw [show pz + fl - pz = fl by omega]
                                  exact bs_part h9 pz fl (by omega)
                                have hsz := HB45.out.size
                                clear hpl hin2 htk hpz
                                go_wp2_with (first
                                  | (go_at_call 44; refine Calls.mono (HPL.out _ _ p w5 HBW.out HIU.out HHT.out.1 HHT.out.2) ?_; rintro e w6 ⟨rfl, hb6⟩; have HB6 : Hid (Below w5.heap.size w5 w6) := hb6; clear hb6)
                                  | (at_builtin; refine wpList_append_bytes _ rfl (.tmp 113) (.tmp 119) 37 rfl i0 Try.underlying37 hi hi0 hi1 hi2 w3.heap.size _ (.slice (some ⟨bb, off + pz, none⟩) (pz + fl - pz) (xc - pz)) (R.take (i * fl)) ((data.drop pz).take fl) rfl rfl (HO5.out.below HB6.out) (HBS.out w6 HB6.out) (by rw [HTK.out, HYL.out]; omega) w3 (HB45.out.trans (HB6.out.mono hsz)) (Nat.le_trans hsz HB6.out.size) ?_; intro ao7 cap7 w7 ho7 hb7 _ _; rw [← HTKN.out] at ho7; rw [HTK.out, HYL.out] at ho7 ⊢; have HO7 : Hid (Own w7 w3.heap.size _ (R.take ((i + 1) * fl))) := ho7; have HB7 : Hid (Below w3.heap.size w3 w7) := hb7; clear ho7 hb7))
                                go_roundw
                                case rel => exact ⟨i + 1, hlt, by simp, HO7.out, HB7.out⟩
                                case measure => simp [intOf]; omega
                              | false =>
                                have HTKN : Hid (R.take ((i + 1) * fl) = R.take (i * fl) ++ fill) := HNO.out HIB.out
                                have hsz := HB45.out.size
                                go_wp2_with (at_builtin; refine wpList_append_bytes _ rfl (.tmp 121) (.tmp 122) 37 rfl i0 Try.underlying37 hi hi0 hi1 hi2 w3.heap.size _ _ (R.take (i * fl)) fill rfl rfl HO5.out ((HFI.out.below HBW.out) |> fun h => by rw [HFL.out] at h; exact h) (by rw [HTK.out, HFL.out]; omega) w3 HB45.out hsz ?_; intro ao7 cap7 w7 ho7 hb7 _ _; rw [← HTKN.out] at ho7; rw [HTK.out, HFL.out] at ho7 ⊢; have HO7 : Hid (Own w7 w3.heap.size _ (R.take ((i + 1) * fl))) := ho7; have HB7 : Hid (Below w3.heap.size w3 w7) := hb7; clear ho7 hb7)
                                go_roundw
                                case rel => exact ⟨i + 1, hlt, by simp, HO7.out, HB7.out⟩
                                case measure => simp [intOf]; omega
                        · obtain rfl : i = N := by omega
                          have h9 := HO4.out
                          rw [List.take_of_length_le (by rw [HRL.out]; exact Nat.le_refl _)] at h9
                          have HV : Hid _ := HRV.out _ w4 h9.bs (HB3.out.trans (HB4.out.mono HB3.out.size))
                          clear h9
                          go_wp2_with fail
                          go_ret2
                          exact HV.out
                  · have b2 : ((fl : Int) != z) = true := by simpa using c2'
                    have HO : Hid (ce = 2) := by rw [Hid, HC3.out, if_neg (fun h => c2' h.2)]
                    obtain rfl := HO.out
                    clear hA hB HC3 hdl' hfl' c1' c2'
                    go_enter Try.func26, Try.ntmps26
                    go_wp2_with (first
                      | (have hg := HB1; clear hg; go_at_call 30; refine Calls.mono (HE2.out _ HB1.out) ?_; rintro e w2 ⟨rfl, hb2⟩; have HB2 : Hid (Below w.heap.size w w2) := HB1.out.trans (hb2.mono HB1.out.size); clear hb2)
                      | (go_at_call 30; refine Calls.mono HE1.out ?_; rintro e w1 ⟨rfl, hb1⟩; have HB1 : Hid (Below w.heap.size w w1) := hb1; clear hb1))
                    go_ret2
                    exact rfB_no (by omega) HB2.out
                · have b1 : ((dl : Int) != pn) = true := by simpa using c1'
                  have HO : Hid (ce = 2) := by rw [Hid, HC3.out, if_neg (fun h => c1' h.1)]
                  obtain rfl := HO.out
                  clear hA hB HC3 hdl' hfl' c1'
                  go_enter Try.func26, Try.ntmps26
                  go_wp2_with (first
                    | (have hg := HB1; clear hg; go_at_call 30; refine Calls.mono (HE2.out _ HB1.out) ?_; rintro e w2 ⟨rfl, hb2⟩; have HB2 : Hid (Below w.heap.size w w2) := HB1.out.trans (hb2.mono HB1.out.size); clear hb2)
                    | (go_at_call 30; refine Calls.mono HE1.out ?_; rintro e w1 ⟨rfl, hb1⟩; have HB1 : Hid (Below w.heap.size w w1) := hb1; clear hb1))
                  go_ret2
                  exact rfB_no (by omega) HB2.out
      · have d0 : ((m1 : Int) != (m2 : Int)) = true := by simp; omega
        have HO : Hid (ce = 2) := by rw [Hid, HC1.out, if_pos h3]
        obtain rfl := HO.out
        clear hA hB HC1 hdl' hfl'
        go_enter Try.func26, Try.ntmps26
        go_wp2_with (first
          | (have hg := HB1; clear hg; go_at_call 30; refine Calls.mono (HE2.out _ HB1.out) ?_; rintro e w2 ⟨rfl, hb2⟩; have HB2 : Hid (Below w.heap.size w w2) := HB1.out.trans (hb2.mono HB1.out.size); clear hb2)
          | (go_at_call 30; refine Calls.mono HE1.out ?_; rintro e w1 ⟨rfl, hb1⟩; have HB1 : Hid (Below w.heap.size w w1) := hb1; clear hb1))
        go_ret2
        exact rfB_no (by omega) HB2.out
    · have hce : ce = be := by rw [HCD.out, if_neg (by omega), if_pos h2]
      subst h1 hce
      have b2 : (ce != 0) = true := by simpa using h2
      clear hA hB hdl' hfl' HCD
      go_enter Try.func26, Try.ntmps26
      go_wp2_with (first
        | (have hg := HB1; clear hg; go_at_call 30; refine Calls.mono (HE2.out _ HB1.out) ?_; rintro e w2 ⟨rfl, hb2⟩; have HB2 : Hid (Below w.heap.size w w2) := HB1.out.trans (hb2.mono HB1.out.size); clear hb2)
        | (go_at_call 30; refine Calls.mono HE1.out ?_; rintro e w1 ⟨rfl, hb1⟩; have HB1 : Hid (Below w.heap.size w w1) := hb1; clear hb1))
      go_ret2
      exact rfB_no h2 HB2.out
  · have hce : ce = ee := by rw [HCD.out, if_pos h1]
    subst hce
    have b2 : (ce != 0) = true := by simpa using h1
    clear hA hB hdl' hfl' HCD
    go_enter Try.func26, Try.ntmps26
    go_wp2_with (go_at_call 30; refine Calls.mono HE1.out ?_; rintro e w1 ⟨rfl, hb1⟩; have HB1 : Hid (Below w.heap.size w w1) := hb1; clear hb1)
    go_ret2
    exact rfB_no h1 HB1.out
end Go.Proofs.Ytneegijbbbebkaa

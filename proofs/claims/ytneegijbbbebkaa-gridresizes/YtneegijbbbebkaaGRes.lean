/-
  Resize of the program. Conditions: lengths are such as memory bears.
-/
import Derived.Test.YtneegijbbbebkaaGCut2
namespace Go.Proofs.Ytneegijbbbebkaa
open Go.RowKit Go.Shelf
set_option linter.unusedVariables false
set_option maxRecDepth 100000

def rsE (dl : Nat) (z : Int) (A B : List Int) (fl : Nat) : Int := if elE A ≠ 0 then elE A else if elE B ≠ 0 then elE B else if A.length ≠ B.length then 2 else if wgE z (elN A) (elN B) ≠ 0 then wgE z (elN A) (elN B) else if (dl : Int) = elN A * z ∧ (fl : Int) = z then 0 else 2
def rsR (data fill A B : List Int) (z : Nat) : List Int := boxB B (List.replicate B.length 0) A (List.replicate A.length 0) data z (minL A B) (repL (elN B).toNat fill)
theorem min_box {A B : List Int} {r : Nat} (ha : A.length = r) (hb : B.length = r) (pa : ∀ x ∈ A, 0 ≤ x) (pb : ∀ x ∈ B, 0 ≤ x) : BoxIn B (List.replicate r 0) (minL A B) r ∧ BoxIn A (List.replicate r 0) (minL A B) r := by
  have hl := minL_length ha hb
  have key : ∀ (i : Nat) c, (minL A B)[i]? = some c → ∃ x y, A[i]? = some x ∧ B[i]? = some y ∧ c = min x y ∧ 0 ≤ x ∧ 0 ≤ y := fun i c hc => by
    have hil := (List.getElem?_eq_some_iff.1 hc).1
    have h1 : A[i]? = some (A[i]'(by omega)) := List.getElem?_eq_getElem _
    have h2 : B[i]? = some (B[i]'(by omega)) := List.getElem?_eq_getElem _
    rw [minL_at h1 h2] at hc
    exact ⟨_, _, h1, h2, (Option.some.inj hc).symm, pa _ (List.mem_of_getElem? h1), pb _ (List.mem_of_getElem? h2)⟩
  refine ⟨⟨hb, by simp, hl, fun i a b c h1 h2 h3 => ?_⟩, ⟨ha, by simp, hl, fun i a b c h1 h2 h3 => ?_⟩⟩
  all_goals
    obtain ⟨x, y, k1, k2, k3, k4, k5⟩ := key i c h3
    have hil := (List.getElem?_eq_some_iff.1 h1).1
    rw [List.getElem?_replicate, if_pos (by omega)] at h2
    obtain rfl := Option.some.inj h2
  · rw [k2] at h1
    obtain rfl := Option.some.inj h1
    omega
  · rw [k1] at h1
    obtain rfl := Option.some.inj h1
    omega
set_option maxHeartbeats 16000000 in
theorem resize_any (data fill A B : List Int) (vda va vb vf : Value) (z : Int) (w : World) (hda : Bs w vda data) (hdl : data.length ≤ 140737488351232) (hfi : Bs w vf fill) (hfl : fill.length ≤ 140737488351232) (hA : Is w va A) (hB : Is w vb B) (hz : I64 z) :
    Calls Try.prog 25 #[vda, .int .i64 z, va, vb, vf] w (ByP w (rsE data.length z A B fill.length) (rsR data fill A B z.toNat)) := by
  have HDA : Hid (Bs w vda data) := hda
  have HFI : Hid (Bs w vf fill) := hfi
  have HA : Hid (Is w va A) := hA
  have HB : Hid (Is w vb B) := hB
  obtain ⟨xa, xc, rfl, xl1, xl2, _⟩ := hda
  obtain ⟨fa, fc, rfl, fl1, fl2, _⟩ := hfi
  obtain ⟨a1, m1, c1, rfl, e1, k1, l1⟩ := hA.open
  obtain ⟨a2, m2, c2, rfl, e2, k2, l2⟩ := hB.open
  obtain ⟨dl, hdl'⟩ : ∃ dl, data.length = dl := ⟨_, rfl⟩
  obtain ⟨fl, hfl'⟩ : ∃ fl, fill.length = fl := ⟨_, rfl⟩
  have HDL : Hid (data.length = dl) := hdl'
  have HFL : Hid (fill.length = fl) := hfl'
  rw [hdl'] at hdl xl1 ⊢
  rw [hfl'] at hfl fl1 ⊢
  obtain ⟨ce, HCE⟩ : ∃ ce, Hid (rsE dl z A B fl = ce) := ⟨_, rfl⟩
  obtain ⟨en, HEN⟩ : ∃ en, Hid (elN A = en) := ⟨_, rfl⟩
  obtain ⟨ee, HEE⟩ : ∃ ee, Hid (elE A = ee) := ⟨_, rfl⟩
  obtain ⟨bn, HBN⟩ : ∃ bn, Hid (elN B = bn) := ⟨_, rfl⟩
  obtain ⟨be, HBE⟩ : ∃ be, Hid (elE B = be) := ⟨_, rfl⟩
  have HE1 : Hid (Calls Try.prog 45 #[.slice a1 m1 c1] w fun e w' => e = .returned (.tuple #[.int .i64 en, .int .i64 ee]) ∧ Below w.heap.size w w') := by
    have := elements_any A _ w hA
    rwa [HEN.out, HEE.out] at this
  have HE2 : Hid (∀ w1, Below w.heap.size w w1 → Calls Try.prog 45 #[.slice a2 m2 c2] w1 fun e w' => e = .returned (.tuple #[.int .i64 bn, .int .i64 be]) ∧ Below w1.heap.size w1 w') := fun w1 h1 => by
    have := elements_any B _ w1 (HB.out.below h1)
    rwa [HBN.out, HBE.out] at this
  rw [HCE.out]
  have HCD : Hid (ce = if ee ≠ 0 then ee else if be ≠ 0 then be else if m1 ≠ m2 then 2 else if wgE z en bn ≠ 0 then wgE z en bn else if (dl : Int) = en * z ∧ (fl : Int) = z then 0 else 2) := by rw [Hid, ← HCE.out, rsE, HEE.out, HBE.out, HEN.out, HBN.out, e1, e2]
  by_cases h1 : ee = 0
  · by_cases h2 : be = 0
    · by_cases h3 : m1 = m2
      · obtain ⟨we, HWE⟩ : ∃ we, Hid (wgE z en bn = we) := ⟨_, rfl⟩
        have hA0 : elE A = 0 := by rw [HEE.out, h1]
        have hB0 : elE B = 0 := by rw [HBE.out, h2]
        have hbA := elN_bd A
        have hbB := elN_bd B
        rw [HEN.out] at hbA
        rw [HBN.out] at hbB
        have HWG : Hid (∀ w, Calls Try.prog 46 #[.int .i64 z, .int .i64 en, .int .i64 bn] w fun e w' => e = .returned (.int .i64 we) ∧ w' = w) := fun w => by
          have := weigh_any z en bn w hbA.1 hbB.1 hbA.2 hbB.2
          rwa [HWE.out] at this
        by_cases h4 : we = 0
        · obtain ⟨z1, z2, z3⟩ := wgE_zero (HWE.out.trans h4)
          obtain ⟨zn, rfl⟩ : ∃ zn : Nat, z = (zn : Int) := ⟨z.toNat, by omega⟩
          obtain ⟨pa, rfl⟩ : ∃ pa : Nat, en = (pa : Int) := ⟨en.toNat, by omega⟩
          obtain ⟨pb, rfl⟩ : ∃ pb : Nat, bn = (pb : Int) := ⟨bn.toNat, by omega⟩
          have q1 := Int.mul_le_mul_of_nonneg_right (show (pa : Int) ≤ max (pa : Int) (pb : Int) by omega) (show (0 : Int) ≤ (zn : Int) by omega)
          have q2 := Int.mul_le_mul_of_nonneg_right (show (pb : Int) ≤ max (pa : Int) (pb : Int) by omega) (show (0 : Int) ≤ (zn : Int) by omega)
          obtain ⟨pz, hpz⟩ : ∃ pz : Nat, pa * zn = pz := ⟨_, rfl⟩
          obtain ⟨nz, hnz⟩ : ∃ nz : Nat, zn * pb = nz := ⟨_, rfl⟩
          have hpzi : (pa : Int) * (zn : Int) = (pz : Int) := by rw [← Int.natCast_mul, hpz]
          have hnzi : (pb : Int) * (zn : Int) = (nz : Int) := by rw [← Int.natCast_mul, Nat.mul_comm, hnz]
          have hpz6 : pz ≤ 65536 := by omega
          have hnz6 : nz ≤ 65536 := by omega
          have hwp : IntKind.i64.wrap ((pa : Int) * (zn : Int)) = (pz : Int) := by rw [hpzi]; exact wrap_i64_in _ (by omega) (by omega)
          have HC2 : Hid (ce = if (dl : Int) = (pz : Int) ∧ (fl : Int) = (zn : Int) then 0 else 2) := by
            rw [Hid, HCD.out, if_neg (by omega), if_neg (by omega), if_neg (by omega), HWE.out, if_neg (by omega), hpzi]
          have eA : prd A = (pa : Int) := by rw [← HEN.out, elN, if_pos (elE_ok hA0)]
          have eB : prd B = (pb : Int) := by rw [← HBN.out, elN, if_pos (elE_ok hB0)]
          by_cases c1' : dl = pz
          · by_cases c2' : fl = zn
            · have hce : ce = 0 := by rw [HC2.out, if_pos ⟨by omega, by omega⟩]
              have hd4 : m1 ≤ 4 := by have := (dims_of (elE_ok hA0).1).1; omega
              obtain ⟨bx1, bx2⟩ := min_box (A := A) (B := B) (r := m1) e1 (by omega) (fun x hx => ((dims_of (elE_ok hA0).1).2 x hx).1) (fun x hx => ((dims_of (elE_ok hB0).1).2 x hx).1)
              have HREP : Hid (∀ w1, Below w.heap.size w w1 → Calls Try.prog 38 #[.slice fa fl fc, .int .i64 (pb : Int)] w1 (RpP w1 nz (repL pb fill))) := fun w1 h => rep_any _ fill zn pb nz w1 (by have h9 := HFI.out.below h; rw [HFL.out] at h9; exact h9) (by omega) (by omega) (by omega) hnz hnz6
              have HRL : Hid ((repL pb fill).length = nz) := by rw [Hid, repL_len, HFL.out, c2', Nat.mul_comm]; exact hnz
              have HCOM : Hid (∀ w1, Below w.heap.size w w1 → Calls Try.prog 47 #[.slice a1 m1 c1, .slice a2 m2 c2] w1 fun e w' => ∃ g, e = .returned (.slice (some ⟨g, 0, none⟩) m1 m1) ∧ RI w' g (minL A B) ∧ w1.heap.size ≤ g ∧ Below w1.heap.size w1 w') := fun w1 h => common_any A B _ _ m1 w1 (HA.out.below h) (HB.out.below h) e1 (by omega) hd4
              have HCUT : Hid (rsR data fill A B zn = boxB B (List.replicate m1 0) A (List.replicate m1 0) data zn (minL A B) (repL pb fill)) := by
                rw [Hid, rsR, HBN.out, e1, e2, h3]; rfl
              have HRR : Hid ((rsR data fill A B zn).length = nz) := by
                rw [Hid, HCUT.out]
                exact boxB_len bx1 bx2 HRL.out (by rw [eB, hnzi]) (by rw [HDL.out, c1', eA, hpzi])
              have HBOX : Hid (∀ w4 g1 g2 g3 g4 cap3, Below w.heap.size w w4 → w.heap.size ≤ g3 → g1 ≠ g3 → g2 ≠ g3 → g4 ≠ g3 → nz ≤ cap3 → RI w4 g1 (List.replicate m1 0) → RI w4 g2 (minL A B) → RI w4 g4 (List.replicate m1 0) → Dst w4 g3 (repL pb fill) →
                  Calls Try.prog 39 #[.agg #[.slice (some ⟨g3, 0, none⟩) nz cap3, .slice a2 m2 c2, .slice (some ⟨g4, 0, none⟩) m1 m1], .agg #[.slice xa dl xc, .slice a1 m1 c1, .slice (some ⟨g1, 0, none⟩) m1 m1], .slice (some ⟨g2, 0, none⟩) m1 m1, .int .i64 (zn : Int)] w4 (RsP w4 g3 (rsR data fill A B zn))) := fun w4 g1 g2 g3 g4 cap3 hb hg3 n1 n2 n4 hcap3 r1 r2 r4 hd3 => by
                rw [HCUT.out]
                refine copyBox_any B (List.replicate m1 0) A (List.replicate m1 0) (repL pb fill) data (minL A B) g3 cap3 nz dl xc m1 zn xa _ _ _ _ _ w4 bx1 bx2 hd4 bx1.xnn (elE_ok hB0).2 (elE_ok hA0).2 HRL.out HDL.out (by rw [eB, hnzi]) (by rw [eA, hpzi, c1']) hnz6 (by omega) (by omega) (by omega) hcap3 xl1 hd3 (fun w' hk => ?_)
                have hbw := bel_of_kp hb hk hg3
                have i64b : ∀ x ∈ minL A B, I64 x := fun x hx => by
                  obtain ⟨i, hi⟩ := List.getElem?_of_mem hx
                  have hil := (List.getElem?_eq_some_iff.1 hi).1
                  rw [bx2.x] at hil
                  have h8 := bx2.fit i _ _ x (List.getElem?_eq_getElem (by rw [bx2.d]; exact hil)) (List.getElem?_eq_getElem (by rw [bx2.s]; exact hil)) hi
                  have h7 := (dims_of (elE_ok hA0).1).2 _ (List.getElem_mem (show i < A.length by rw [bx2.d]; exact hil))
                  exact ⟨by omega, by omega⟩
                refine ⟨HB.out.below hbw, ?_, HA.out.below hbw, ?_, ?_, ?_⟩
                · have h9 := (r4.of_block (hk.block g4 r4.lt n4)).is (by simp; omega) (rep_i64 m1)
                  rwa [List.length_replicate] at h9
                · have h9 := (r1.of_block (hk.block g1 r1.lt n1)).is (by simp; omega) (rep_i64 m1)
                  rwa [List.length_replicate] at h9
                · have h9 := (r2.of_block (hk.block g2 r2.lt n2)).is (by rw [bx2.x]; omega) i64b
                  rwa [bx2.x] at h9
                · have h9 := HDA.out.below hbw
                  rwa [HDL.out] at h9
              have HRET : Hid (∀ w5 g3 cap3, Below w.heap.size w w5 → Dst w5 g3 (rsR data fill A B zn) → w.heap.size ≤ g3 → nz ≤ cap3 → ByP w 0 (rsR data fill A B ((zn : Int)).toNat) (.returned (.tuple #[.slice (some ⟨g3, 0, none⟩) nz cap3, .int .i64 0])) w5) := fun w5 g3 cap3 hb hd hg hc => by
                refine ⟨_, rfl, hb, fun h => absurd rfl h, fun _ => ⟨g3, cap3, ?_, ?_, hd, hg⟩⟩
                · rw [show ((zn : Int)).toNat = zn from rfl, HRR.out]
                · rw [show ((zn : Int)).toNat = zn from rfl, HRR.out]; exact hc
              subst h1 h2 h4 hce c1' c2' h3
              clear hA hB e1 e2 bx1 bx2 hnz hnzi hpzi hpz eA eB HCD HC2 q1 q2 z3 hA0 hB0
              go_enter Try.func25, Try.ntmps25
              go_wp2_with (first
                | (have hg := HB1; clear hg; go_at_call 45; refine Calls.mono (HE2.out _ HB1.out) ?_; rintro e w2 ⟨rfl, hb2⟩; have HB2 : Hid (Below w.heap.size w w2) := HB1.out.trans (hb2.mono HB1.out.size); clear hb2)
                | (go_at_call 45; refine Calls.mono HE1.out ?_; rintro e w1 ⟨rfl, hb1⟩; have HB1 : Hid (Below w.heap.size w w1) := hb1; clear hb1)
                | (go_at_call 46; refine Calls.mono (HWG.out _) ?_; rintro e w3 ⟨rfl, hw3⟩; obtain rfl := hw3.symm)
                | (go_at_call 38; refine Calls.mono (HREP.out _ HB2.out) ?_; rintro e w4 ⟨g3, cap3, rfl, hc3, hd3, hg3, hb4⟩; have HD4 : Hid (Dst w4 g3 (repL pb fill) ∧ w2.heap.size ≤ g3 ∧ nz ≤ cap3) := ⟨hd3, hg3, hc3⟩; have HB4 : Hid (Below w.heap.size w w4) := HB2.out.trans (hb4.mono HB2.out.size); clear hc3 hd3 hg3 hb4)
                | (have hg := HB5; clear hg; go_at_call 40; refine Calls.mono (whole_any _ _ _ _ _ _ _ hd4) ?_; rintro e w6 ⟨g1, rfl, hr1, hg1, hb6⟩; have HB56 : Hid (Below w5.heap.size w5 w6) := hb6; have HB6 : Hid (Below w.heap.size w w6) := HB5.out.trans (hb6.mono HB5.out.size); have HR6 : Hid (RI w6 g1 (List.replicate m1 0) ∧ w5.heap.size ≤ g1) := ⟨hr1, hg1⟩; clear hr1 hg1 hb6)
                | (go_at_call 40; refine Calls.mono (whole_any _ _ _ _ _ _ _ hd4) ?_; rintro e w5 ⟨g4, rfl, hr4, hg4, hb5⟩; have HB45 : Hid (Below w4.heap.size w4 w5) := hb5; have HB5 : Hid (Below w.heap.size w w5) := HB4.out.trans (hb5.mono HB4.out.size); have HR5 : Hid (RI w5 g4 (List.replicate m1 0) ∧ w4.heap.size ≤ g4) := ⟨hr4, hg4⟩; clear hr4 hg4 hb5)
                | (go_at_call 47; refine Calls.mono (HCOM.out _ HB6.out) ?_; rintro e w7 ⟨g2, rfl, hr2, hg2, hb7⟩; have HB67 : Hid (Below w6.heap.size w6 w7) := hb7; have HB7 : Hid (Below w.heap.size w w7) := HB6.out.trans (hb7.mono HB6.out.size); have HR7 : Hid (RI w7 g2 (minL A B) ∧ w6.heap.size ≤ g2) := ⟨hr2, hg2⟩; clear hr2 hg2 hb7)
                | (go_at_call 39; refine Calls.mono (HBOX.out w7 g1 g2 g3 g4 cap3 HB7.out (Nat.le_trans HB2.out.size HD4.out.2.1) (by have := HD4.out.1.lt; have := HR6.out.2; have := HB45.out.size; omega) (by have := HD4.out.1.lt; have := HR7.out.2; have := HB45.out.size; have := HB56.out.size; omega) (by have := HD4.out.1.lt; have := HR5.out.2; omega) HD4.out.2.2 (HR6.out.1.of_block (HB67.out.block _ HR6.out.1.lt)) HR7.out.1 ((HR5.out.1.of_block (HB56.out.block _ HR5.out.1.lt)).of_block (HB67.out.block _ (Nat.lt_of_lt_of_le HR5.out.1.lt HB56.out.size))) (((HD4.out.1.below HB45.out).below HB56.out).below HB67.out)) ?_; rintro e w8 ⟨rfl, hd8, hk8⟩; have HV : Hid (ByP w 0 (rsR data fill A B ((fl : Int)).toNat) (.returned (.tuple #[.slice (some ⟨g3, 0, none⟩) nz cap3, .int .i64 0])) w8) := HRET.out w8 g3 cap3 (bel_of_kp HB7.out hk8 (Nat.le_trans HB2.out.size HD4.out.2.1)) hd8 (Nat.le_trans HB2.out.size HD4.out.2.1) HD4.out.2.2; clear hd8 hk8))
              go_ret2
              exact HV.out
            · have hce : ce = 2 := by rw [HC2.out, if_neg (by omega)]
              subst h1 h2 h4 hce c1' h3
              have b2 : ((fl : Int) != (zn : Int)) = true := by simp; omega
              clear hA hB HDL HFL e1 e2 HCD HC2 q1 q2 z3 hpzi hnzi hA0 hB0 eA eB
              go_enter Try.func25, Try.ntmps25
              go_wp2_with (first
                | (have hg := HB1; clear hg; go_at_call 45; refine Calls.mono (HE2.out _ HB1.out) ?_; rintro e w2 ⟨rfl, hb2⟩; have HB2 : Hid (Below w.heap.size w w2) := HB1.out.trans (hb2.mono HB1.out.size); clear hb2)
                | (go_at_call 45; refine Calls.mono HE1.out ?_; rintro e w1 ⟨rfl, hb1⟩; have HB1 : Hid (Below w.heap.size w w1) := hb1; clear hb1)
                | (go_at_call 46; refine Calls.mono (HWG.out _) ?_; rintro e w3 ⟨rfl, hw3⟩; obtain rfl := hw3.symm))
              go_ret2
              exact byP_no (by omega) HB2.out
          · have hce : ce = 2 := by rw [HC2.out, if_neg (by omega)]
            subst h1 h2 h4 hce h3
            have b2 : ((dl : Int) != (pz : Int)) = true := by simp; omega
            clear hA hB HDL HFL e1 e2 HCD HC2 q1 q2 z3 hpzi hnzi hA0 hB0 eA eB
            go_enter Try.func25, Try.ntmps25
            go_wp2_with (first
              | (have hg := HB1; clear hg; go_at_call 45; refine Calls.mono (HE2.out _ HB1.out) ?_; rintro e w2 ⟨rfl, hb2⟩; have HB2 : Hid (Below w.heap.size w w2) := HB1.out.trans (hb2.mono HB1.out.size); clear hb2)
              | (go_at_call 45; refine Calls.mono HE1.out ?_; rintro e w1 ⟨rfl, hb1⟩; have HB1 : Hid (Below w.heap.size w w1) := hb1; clear hb1)
              | (go_at_call 46; refine Calls.mono (HWG.out _) ?_; rintro e w3 ⟨rfl, hw3⟩; obtain rfl := hw3.symm))
            go_ret2
            exact byP_no (by omega) HB2.out
        · have hce : ce = we := by rw [HCD.out, if_neg (by omega), if_neg (by omega), if_neg (by omega), HWE.out, if_pos h4]
          subst h1 h2 h3 hce
          have b2 : (ce != 0) = true := by simpa using h4
          clear hA hB HDL HFL e1 e2 HCD hA0 hB0
          go_enter Try.func25, Try.ntmps25
          go_wp2_with (first
            | (have hg := HB1; clear hg; go_at_call 45; refine Calls.mono (HE2.out _ HB1.out) ?_; rintro e w2 ⟨rfl, hb2⟩; have HB2 : Hid (Below w.heap.size w w2) := HB1.out.trans (hb2.mono HB1.out.size); clear hb2)
            | (go_at_call 45; refine Calls.mono HE1.out ?_; rintro e w1 ⟨rfl, hb1⟩; have HB1 : Hid (Below w.heap.size w w1) := hb1; clear hb1)
            | (go_at_call 46; refine Calls.mono (HWG.out _) ?_; rintro e w3 ⟨rfl, hw3⟩; obtain rfl := hw3.symm))
          go_ret2
          exact byP_no h4 HB2.out
      · have hce : ce = 2 := by rw [HCD.out, if_neg (by omega), if_neg (by omega), if_pos h3]
        subst h1 h2 hce
        have b2 : ((m1 : Int) != (m2 : Int)) = true := by simp; omega
        clear hA hB HDL HFL e1 e2 HCD
        go_enter Try.func25, Try.ntmps25
        go_wp2_with (first
          | (have hg := HB1; clear hg; go_at_call 45; refine Calls.mono (HE2.out _ HB1.out) ?_; rintro e w2 ⟨rfl, hb2⟩; have HB2 : Hid (Below w.heap.size w w2) := HB1.out.trans (hb2.mono HB1.out.size); clear hb2)
          | (go_at_call 45; refine Calls.mono HE1.out ?_; rintro e w1 ⟨rfl, hb1⟩; have HB1 : Hid (Below w.heap.size w w1) := hb1; clear hb1))
        go_ret2
        exact byP_no (by omega) HB2.out
    · have hce : ce = be := by rw [HCD.out, if_neg (by omega), if_pos h2]
      subst h1 hce
      have b2 : (ce != 0) = true := by simpa using h2
      clear hA hB HDL HFL e1 e2 HCD
      go_enter Try.func25, Try.ntmps25
      go_wp2_with (first
        | (have hg := HB1; clear hg; go_at_call 45; refine Calls.mono (HE2.out _ HB1.out) ?_; rintro e w2 ⟨rfl, hb2⟩; have HB2 : Hid (Below w.heap.size w w2) := HB1.out.trans (hb2.mono HB1.out.size); clear hb2)
        | (go_at_call 45; refine Calls.mono HE1.out ?_; rintro e w1 ⟨rfl, hb1⟩; have HB1 : Hid (Below w.heap.size w w1) := hb1; clear hb1))
      go_ret2
      exact byP_no h2 HB2.out
  · have hce : ce = ee := by rw [HCD.out, if_pos h1]
    subst hce
    have b2 : (ce != 0) = true := by simpa using h1
    clear hA hB HDL HFL e1 e2 HCD
    go_enter Try.func25, Try.ntmps25
    go_wp2_with (go_at_call 45; refine Calls.mono HE1.out ?_; rintro e w1 ⟨rfl, hb1⟩; have HB1 : Hid (Below w.heap.size w w1) := hb1; clear hb1)
    go_ret2
    exact byP_no h1 HB1.out
end Go.Proofs.Ytneegijbbbebkaa

/-
  The document's Cut. Conditions: the chunk has at most 3000 elements, lengths are such as memory bears.
-/
import Derived.Test.YtneegijbbbebkaaGRefT
import Derived.Test.YtneegijbbbebkaaGRefW
import Derived.Test.YtneegijbbbebkaaGRefB
namespace Go.Proofs.Ytneegijbbbebkaa
open Go.RowKit Go.Shelf
set_option linter.unusedVariables false
set_option maxRecDepth 100000

set_option maxHeartbeats 16000000 in
theorem refCut_any (data fill D S C : List Int) (vda vd vs vc vf : Value) (z : Int) (w : World) (hda : Bs w vda data) (hdl : data.length ≤ 140737488351232) (hfi : Bs w vf fill) (hfl : fill.length ≤ 140737488351232) (hD : Is w vd D) (hS : Is w vs S) (hC : Is w vc C) (hz : I64 z) (hlt : elN S ≤ 3000) :
    Calls Try.prog 20 #[vda, .int .i64 z, vd, vs, vc, vf] w (RfP w (cutE data.length z D S C fill.length) (cutR data fill D S C z.toNat)) := by
  have HDA : Hid (Bs w vda data) := hda
  have HFI : Hid (Bs w vf fill) := hfi
  have HD : Hid (Is w vd D) := hD
  have HS : Hid (Is w vs S) := hS
  have HC : Hid (Is w vc C) := hC
  obtain ⟨xa, xc, rfl, xl1, xl2, _⟩ := hda
  obtain ⟨fa, fc, rfl, fl1, fl2, _⟩ := hfi
  obtain ⟨a1, m1, c1, rfl, e1, k1, l1⟩ := hD.open
  obtain ⟨a2, m2, c2, rfl, e2, k2, l2⟩ := hS.open
  obtain ⟨a3, m3, c3, rfl, e3, k3, l3⟩ := hC.open
  obtain ⟨dl, hdl'⟩ : ∃ dl, data.length = dl := ⟨_, rfl⟩
  obtain ⟨fl, hfl'⟩ : ∃ fl, fill.length = fl := ⟨_, rfl⟩
  have HDL : Hid (data.length = dl) := hdl'
  have HFL : Hid (fill.length = fl) := hfl'
  rw [hdl'] at hdl xl1 ⊢
  rw [hfl'] at hfl fl1 ⊢
  obtain ⟨ce, HCE⟩ : ∃ ce, Hid (cutE dl z D S C fl = ce) := ⟨_, rfl⟩
  have HBY : Hid (Calls Try.prog 41 #[.slice xa dl xc, .int .i64 z, .slice a1 m1 c1, .slice a2 m2 c2, .slice a3 m3 c3, .slice fa fl fc, .bool false] w fun e w' => e = .returned (.int .i64 ce) ∧ Below w.heap.size w w') := by
    have := refBytes_any false D S C xa dl xc fa fl fc _ _ _ z w hdl hfl hD hS hC
    rwa [byE, if_neg (by simp), HCE.out] at this
  rw [HCE.out]
  by_cases h1 : ce = 0
  · subst h1
    have hce := HCE.out
    unfold cutE at hce
    by_cases hfb : fbE D S z = 0
    · rw [if_neg (by simpa using hfb)] at hce
      by_cases hall : (dl : Int) = elN D * z ∧ (fl : Int) = z ∧ okB D.length C = true
      · obtain ⟨g1, g2, g3⟩ := hall
        obtain ⟨f1, f2, f3, f4, f5, f6, z1, z2, p1, p2, p3⟩ := fb_ok hfb
        obtain ⟨zn, rfl⟩ : ∃ zn : Nat, z = (zn : Int) := ⟨z.toNat, by omega⟩
        have hz1 : 1 ≤ zn := by omega
        have hz2 : zn ≤ 256 := by omega
        obtain rfl : fl = zn := by omega
        obtain ⟨o1, o2⟩ := okB_iff.1 g3
        have hdD := (dims_of (elE_ok f1).1).2
        have hd4 : m1 ≤ 4 := by have := (dims_of (elE_ok f1).1).1; omega
        obtain ⟨bx1, bx2⟩ := clip_box (D := D) (S := S) (C := C) (r := m1) e1 (by omega) (by omega) (fun x hx => (hdD x hx).1) (fun x hx => (f4 x hx).1) o2
        have hS0 : ∀ x ∈ S, 0 ≤ x := fun x hx => by have := f4 x hx; omega
        obtain ⟨N, hN⟩ : ∃ N, prdN (dN S) = N := ⟨_, rfl⟩
        have hNi : (N : Int) = prd S := by rw [← hN]; exact prd_dN hS0
        have hN3 : N ≤ 3000 := by omega
        rw [f5] at g1
        obtain ⟨hRl, hEL⟩ := box_el (z := fl) (N := N) (x := data) (fill := fill) bx1 bx2 hz1 (by rw [HDL.out]; exact g1) HFL.out hS0 hN
        have hR : cutR data fill D S C fl = boxB S (List.replicate m1 0) D (clS D S C) data fl (clB D S C) (repL N fill) := by
          rw [cutR, f6, ← hNi, f3, e1]; rfl
        rw [← hR] at hRl hEL
        obtain ⟨R, HR⟩ : ∃ R, Hid (cutR data fill D S C fl = R) := ⟨_, rfl⟩
        rw [HR.out] at hRl hEL
        have HEL : Hid _ := hEL
        have HRL : Hid (R.length = N * fl) := hRl
        have hNz : N * fl ≤ 768000 := by
          have := Nat.mul_le_mul hN3 hz2
          omega
        have HRV : Hid (∀ (x : Value) (w' : World), Own w' w.heap.size x R → Below w.heap.size w w' → RfP w 0 (cutR data fill D S C ((fl : Int)).toNat) (.returned (.tuple #[x, .int .i64 0])) w') := fun x w' h1 h2 => ⟨x, rfl, by rw [if_pos rfl, show ((fl : Int)).toNat = fl from rfl, HR.out]; exact h1, h2⟩
        have HTU : Hid (∀ w1, Below w.heap.size w w1 → Calls Try.prog 42 #[.slice a2 m2 c2] w1 fun e w' => ∃ vo vc, e = .returned (.slice vo N vc) ∧ Iss w' (.slice vo N vc) (outG S m1) ∧ Below w1.heap.size w1 w') := fun w1 h => by
          refine (refTuples_any S _ w1 (HS.out.below h) (by omega) f4 (by omega)).mono ?_
          rintro e w2 ⟨v, rfl, hv, hb⟩
          rw [show S.length = m1 by omega] at hv
          have hl : (outG S m1).length = N := by rw [outG_len, List.take_of_length_le (by omega), hN]
          have hi := hv.iss (by omega)
          obtain ⟨ao, n, cap, rfl, hn, _⟩ := hi.open
          rw [hl] at hn
          subst hn
          exact ⟨ao, cap, rfl, hi, hb⟩
        have HOG : Hid (∀ (i : Nat) t, (outG S m1)[i]? = some t → i < N ∧ t = tG S i) := fun i t h => by
          have := outG_at h
          rwa [List.take_of_length_le (by omega), hN] at this
        have HWH : Hid (∀ (t : List Int) (vt : Value) w1, Below w.heap.size w w1 → Is w1 vt t → Ins2 S t → Calls Try.prog 43 #[.slice a1 m1 c1, .slice a2 m2 c2, .slice a3 m3 c3, vt] w1 (WhP w1 (inbB (clB D S C) t) (addL (clS D S C) t))) := fun t vt w1 hb ht hi =>
          refWhere_any D S C t _ _ _ vt m1 w1 (HD.out.below hb) (HS.out.below hb) (HC.out.below hb) ht hd4 e1 (by omega) (by omega) hi hdD f4 o2
        have HPL : Hid (∀ (u : List Int) (vu : Value) (p : Nat) w1, Below w.heap.size w w1 → Is w1 vu u → Ins2 D u → plc D u = (p : Int) → Calls Try.prog 44 #[.slice a1 m1 c1, vu] w1 fun e w' => e = .returned (.int .i64 (p : Int)) ∧ Below w1.heap.size w1 w') := fun u vu p w1 hb hu hi hp => by
          have := refPlace_any D u _ vu w1 (HD.out.below hb) hu hi (elE_ok f1).2
          rwa [hp] at this
        have H64 : Hid (∀ u : List Int, Ins2 D u → u.length ≤ 17592186043904 ∧ ∀ x ∈ u, I64 x) := fun u hi => ⟨by rw [hi.1]; omega, fun x hx => by
          obtain ⟨j, hj⟩ := List.getElem?_of_mem hx
          have hl := (List.getElem?_eq_some_iff.1 hj).1
          have h8 := hi.2 j x _ hj (List.getElem?_eq_getElem (by rw [← hi.1]; exact hl))
          have h9 := hdD _ (List.getElem_mem (show j < D.length by rw [← hi.1]; exact hl))
          exact ⟨by omega, by omega⟩⟩
        have hdl6 : dl ≤ 65536 := by omega
        obtain ⟨i0, hi, hi0, hi1, hi2⟩ := info_parts Try.info5
        have hlen0 : fl ≤ xc ∨ True := .inr trivial
        clear hD hS hC e1 e2 e3 hdl' hfl' hce hfb g1 g2 g3 f1 f2 f3 f4 f5 f6 z1 z2 p1 p2 p3 o1 o2 hdD bx1 bx2 hS0 hN hNi hR hRl hEL hz hlt hdl hlen0
        go_enter Try.func20, Try.ntmps20
        go_wp2_with (first
          | (go_at_call 41; refine Calls.mono HBY.out ?_; rintro e w1 ⟨rfl, hb1⟩; have HB1 : Hid (Below w.heap.size w w1) := hb1; clear hb1)
          | (go_at_call 42; refine Calls.mono (HTU.out _ HB1.out) ?_; rintro e w2 ⟨vo, vcp, rfl, hi2', hb2⟩; have HIS : Hid (Iss w2 (.slice vo N vcp) (outG S m1)) := hi2'; have HB2 : Hid (Below w.heap.size w w2) := HB1.out.trans (hb2.mono HB1.out.size); clear hi2' hb2))
        go_loopw [17, 15] (fun x y wr => ∃ i : Nat, i ≤ N ∧ x = .int .i64 (i : Int) ∧ Hid (Own wr w2.heap.size y (R.take (i * fl))) ∧ Hid (Below w2.heap.size w2 wr)) (fun x _ _ => N - (intOf x).toNat)
        case atStart => exact ⟨0, Nat.zero_le _, rfl, by rw [Hid, Nat.zero_mul, List.take_zero]; exact Own.nil _ _, Below.refl _ _⟩
        case round =>
          obtain ⟨i, hiN, rfl, HO, HB⟩ := hrel
          rename World => w3
          by_cases hlt : i < N
          · have hil : (i : Int) < (N : Int) := by omega
            have HBW : Hid (Below w.heap.size w w3) := HB2.out.trans (HB.out.mono HB2.out.size)
            obtain ⟨go, oo, t, ua, un, uc, rfl, ht, htl, _, _, hcu, hiu⟩ := (HIS.out.below HB.out).at hlt
            obtain ⟨_, rfl⟩ := HOG.out i t ht
            obtain ⟨t, rfl, htr, hti, hyes, hno⟩ := HEL.out i hlt
            have HIU : Hid (Is w3 (.slice ua un uc) (tG S i)) := hiu
            have HTI : Hid (Ins2 S (tG S i)) := hti
            have HTK : Hid ((R.take (i * fl)).length = i * fl) := by
              have := Nat.mul_le_mul_right fl hiN
              rw [Hid, List.length_take, HRL.out]; omega
            have hifl : i * fl ≤ 768000 := by
              have := Nat.mul_le_mul_right fl hiN
              omega
            clear ht htl hiu htr hti
            cases hib : inbB (clB D S C) (tG S i) with
            | true =>
              obtain ⟨hin2, p, hpl, hpb, htk⟩ := hyes hib
              have HHT : Hid (Ins2 D (addL (clS D S C) (tG S i)) ∧ plc D (addL (clS D S C) (tG S i)) = (p : Int)) := ⟨hin2, hpl⟩
              obtain ⟨pz, hpz⟩ : ∃ pz, p * fl = pz := ⟨_, rfl⟩
              rw [hpz] at htk
              rw [Nat.succ_mul, hpz, HDL.out] at hpb
              have HTKN : Hid (R.take ((i + 1) * fl) = R.take (i * fl) ++ (data.drop pz).take fl) := htk
              have HYL : Hid (((data.drop pz).take fl).length = fl) := by rw [Hid, List.length_take, List.length_drop, HDL.out]; omega
              have hw1 : IntKind.i64.wrap ((p : Int) * (fl : Int)) = (pz : Int) := by rw [← Int.natCast_mul, hpz]; exact wrap_i64_in _ (by omega) (by omega)
              have HWC : Hid (Calls Try.prog 43 #[.slice a1 m1 c1, .slice a2 m2 c2, .slice a3 m3 c3, .slice ua un uc] w3 fun e w' => ∃ v, e = .returned (.tuple #[v, .bool true]) ∧ Is w' v (addL (clS D S C) (tG S i)) ∧ Below w3.heap.size w3 w') := by
                refine (HWH.out _ _ w3 HBW.out HIU.out HTI.out).mono ?_
                rintro e w4 ⟨hb, _, hy⟩
                obtain ⟨v, rfl, ho⟩ := hy hib
                exact ⟨v, rfl, ho.is (H64.out _ HHT.out.1).1 (H64.out _ HHT.out.1).2, hb⟩
              obtain ⟨bb, off, rfl, _⟩ := some_at HDA.out (by rw [HDL.out]; omega)
              have hpd : ((pz : Int) + (fl : Int)) ≤ (dl : Int) := by omega
              have hw2 : IntKind.i64.wrap ((pz : Int) + (fl : Int)) = (pz : Int) + (fl : Int) := wrap_i64_in _ (by omega) (by omega)
              have hsz := HB.out.size
              have HBS : Hid (∀ w', Below w3.heap.size w3 w' → Bs w' (.slice (some ⟨bb, off + pz, none⟩) (pz + fl - pz) (xc - pz)) ((data.drop pz).take fl)) := fun w' h => by
                have h9 := (HDA.out.below HBW.out).below h
                rw [HDL.out] at h9
                rw [show pz + fl - pz = fl by omega]
                exact bs_part h9 pz fl (by omega)
              clear hyes hno hpl hin2 htk hpz
              go_wp2_with (first
                | (go_at_call 43; refine Calls.mono HWC.out ?_; rintro e w4 ⟨v4, rfl, hi4, hb4⟩; have HI4 : Hid (Is w4 v4 (addL (clS D S C) (tG S i))) := hi4; have HB4 : Hid (Below w3.heap.size w3 w4) := hb4; clear hi4 hb4)
                | (go_at_call 44; refine Calls.mono (HPL.out _ _ p w4 (HBW.out.trans (HB4.out.mono HBW.out.size)) HI4.out HHT.out.1 HHT.out.2) ?_; rintro e w5 ⟨rfl, hb5⟩; have HB5 : Hid (Below w3.heap.size w3 w5) := HB4.out.trans (hb5.mono HB4.out.size); clear hb5)
                | (at_builtin; refine wpList_append_bytes _ rfl (.tmp 56) (.tmp 62) 37 rfl i0 Try.underlying37 hi hi0 hi1 hi2 w2.heap.size _ (.slice (some ⟨bb, off + pz, none⟩) (pz + fl - pz) (xc - pz)) (R.take (i * fl)) ((data.drop pz).take fl) rfl rfl (HO.out.below HB5.out) (HBS.out w5 HB5.out) (by rw [HTK.out, HYL.out]; omega) w2 (HB.out.trans (HB5.out.mono hsz)) (Nat.le_trans hsz HB5.out.size) ?_; intro ao6 cap6 w6 ho6 hb6 _ _; rw [← HTKN.out] at ho6; rw [HTK.out, HYL.out] at ho6 ⊢; have HO6 : Hid (Own w6 w2.heap.size _ (R.take ((i + 1) * fl))) := ho6; have HB6 : Hid (Below w2.heap.size w2 w6) := hb6; clear ho6 hb6))
              go_roundw
              case rel => exact ⟨i + 1, hlt, by simp, HO6.out, HB6.out⟩
              case measure => simp [intOf]; omega
            | false =>
              have HTKN : Hid (R.take ((i + 1) * fl) = R.take (i * fl) ++ fill) := hno hib
              have HWC : Hid (Calls Try.prog 43 #[.slice a1 m1 c1, .slice a2 m2 c2, .slice a3 m3 c3, .slice ua un uc] w3 fun e w' => e = .returned (.tuple #[.slice none 0 0, .bool false]) ∧ Below w3.heap.size w3 w') := by
                refine (HWH.out _ _ w3 HBW.out HIU.out HTI.out).mono ?_
                rintro e w4 ⟨hb, hy, _⟩
                exact ⟨hy hib, hb⟩
              have hsz := HB.out.size
              clear hyes hno
              go_wp2_with (first
                | (go_at_call 43; refine Calls.mono HWC.out ?_; rintro e w4 ⟨rfl, hb4⟩; have HB4 : Hid (Below w3.heap.size w3 w4) := hb4; clear hb4)
                | (at_builtin; refine wpList_append_bytes _ rfl (.tmp 64) (.tmp 65) 37 rfl i0 Try.underlying37 hi hi0 hi1 hi2 w2.heap.size _ _ (R.take (i * fl)) fill rfl rfl (HO.out.below HB4.out) ((HFI.out.below HBW.out).below HB4.out |> fun h => by rw [HFL.out] at h; exact h) (by rw [HTK.out, HFL.out]; omega) w2 (HB.out.trans (HB4.out.mono hsz)) (Nat.le_trans hsz HB4.out.size) ?_; intro ao6 cap6 w6 ho6 hb6 _ _; rw [← HTKN.out] at ho6; rw [HTK.out, HFL.out] at ho6 ⊢; have HO6 : Hid (Own w6 w2.heap.size _ (R.take ((i + 1) * fl))) := ho6; have HB6 : Hid (Below w2.heap.size w2 w6) := hb6; clear ho6 hb6))
              go_roundw
              case rel => exact ⟨i + 1, hlt, by simp, HO6.out, HB6.out⟩
              case measure => simp [intOf]; omega
          · obtain rfl : i = N := by omega
            have h9 := HO.out
            rw [List.take_of_length_le (by rw [HRL.out]; exact Nat.le_refl _)] at h9
            have HV : Hid _ := HRV.out _ w3 (h9.mono HB2.out.size) (HB2.out.trans (HB.out.mono HB2.out.size))
            clear h9
            go_wp2_with fail
            go_ret2
            exact HV.out
      · rw [if_neg hall] at hce; cases hce
    · rw [if_pos (by simpa using hfb)] at hce; exact absurd hce hfb
  · have b2 : (ce != 0) = true := by simpa using h1
    have HC0 : Hid (ce ≠ 0) := h1
    clear hD hS hC e1 e2 e3 hdl' hfl' h1
    go_enter Try.func20, Try.ntmps20
    go_wp2_with (go_at_call 41; refine Calls.mono HBY.out ?_; rintro e w1 ⟨rfl, hb1⟩; have HB1 : Hid (Below w.heap.size w w1) := hb1; clear hb1)
    go_ret2
    exact rfP_no HC0.out HB1.out
end Go.Proofs.Ytneegijbbbebkaa

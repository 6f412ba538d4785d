/-
  Paste of the program. Conditions: lengths are such as memory bears.
-/
import Derived.Test.YtneegijbbbebkaaGCut2
import Derived.Test.YtneegijbbbebkaaGPush
import Derived.Laws.OwnMore
namespace Go.Proofs.Ytneegijbbbebkaa
open Go.RowKit Go.Shelf
set_option linter.unusedVariables false
set_option maxRecDepth 100000

def pasE (dl : Nat) (z : Int) (D S C : List Int) (fl : Nat) : Int := if fbE D S z ≠ 0 then fbE D S z else if (dl : Int) = elN D * z ∧ (fl : Int) = elN S * z ∧ okB D.length C = true then 0 else 2
def pasR (data chunk D S C : List Int) (z : Nat) : List Int := boxB D (clS D S C) S (List.replicate S.length 0) chunk z (clB D S C) data
theorem own_dst {w : World} {B g n cap : Nat} {l : List Int} (h : Own w B (.slice (some ⟨g, 0, none⟩) n cap) l) : Dst w g l := by
  obtain ⟨h1, ⟨e, _⟩ | ⟨g', cap', cur, e, _, hg, _, _, _, ht⟩⟩ := h
  · cases e
  · injection e with e1 _ _
    injection e1 with e1
    injection e1 with e1 _ _
    subst e1
    rw [Nat.mul_one] at ht
    exact ⟨cur, hg, ht⟩
/-- append([]byte{}, x...). -/
theorem run_app_dst (w3 : World) (ty : TypeId) (y : Value) (m : List Int) (hm : Bs w3 y m) (hl : m.length ≤ 65536) :
    ∃ g cap w4, (Builtin.append_ #[37, 37] ty #[.slice (some ⟨w3.heap.size, 0, none⟩) 0 0, y]).run Try.prog (w3.alloc (.cells #[] 5)) = .ok (.slice (some ⟨g, 0, none⟩) m.length cap) w4 ∧ m.length ≤ cap ∧ Dst w4 g m ∧ w3.heap.size ≤ g ∧ Below w3.heap.size w3 w4 := by
  have hb0 : Below w3.heap.size w3 (w3.alloc (.cells #[] 5)) := (Below.refl _ _).alloc (Nat.le_refl _) _
  have h0 := Own.empty w3 w3.heap.size (Nat.le_refl _)
  have hs0 : w3.heap.size ≤ (w3.alloc (.cells #[] 5)).heap.size := hb0.size
  obtain ⟨i0, hi, hz, hs, hy⟩ := info_parts Try.info5
  have hm' := hm.below hb0
  obtain ⟨ao, cap, rfl, hc, hn, hcell⟩ := hm'
  cases ao with
  | none =>
    obtain rfl : cap = 0 := hn rfl
    obtain rfl : m = [] := List.eq_nil_of_length_eq_zero (by omega)
    exact ⟨w3.heap.size, 0, _, run_append_owned_none _ w3.heap.size _ ty 5 i0 1 Try.underlying37 hi _ _ _ h0, Nat.le_refl _, own_dst h0, Nat.le_refl _, hb0⟩
  | some ad =>
    obtain ⟨v', w', hr, ho, hg, hat⟩ := run_append_own (P := Try.prog) _ w3.heap.size 37 ty 5 i0 (.int .u8 0) 1 1 Try.underlying37 hi hz hs hy rfl (by decide) _ _ _ h0 ad m.length cap (bcells m) (by rw [bcells_length]; omega) (fun j u hj => by obtain ⟨hj', rfl⟩ := bcells_get hj; exact hcell ad rfl j hj') (bcells_one m) (by unfold maxLen; simp; omega) (by simp; omega) hs0
    have hbw : Below w3.heap.size w3 w' := hb0.grown hg hs0 (fun k hk => (World.ownsRow.lt h0 k hk).1)
    have ho2 : Own w' w3.heap.size v' m := by
      unfold Own
      simpa [show bcells [] = [] from rfl] using ho
    rcases Nat.eq_zero_or_pos m.length with h00 | h00
    · obtain ⟨w'', hr2, ho3, hg2⟩ := run_append_fits (P := Try.prog) _ w3.heap.size 37 ty 5 i0 1 Try.underlying37 hi hs w3.heap.size 0 0 _ h0 ad m.length cap (bcells m) (by rw [bcells_length]; omega) (fun j u hj => by obtain ⟨hj', rfl⟩ := bcells_get hj; exact hcell ad rfl j hj') (bcells_one m) (by omega)
      rw [Nat.zero_add] at hr2 ho3
      exact ⟨w3.heap.size, 0, w'', hr2, by omega, own_dst (B := w3.heap.size) (n := m.length) (cap := 0) (by unfold Own; simpa [show bcells [] = [] from rfl] using ho3), Nat.le_refl _, hb0.grown hg2 hs0 (fun k hk => by have := Option.some.inj hk; omega)⟩
    · obtain ⟨ao', cap', rfl, hle, hsh⟩ := ho2.opened
      obtain ⟨g, rfl, hgB, _⟩ := hsh h00
      exact ⟨g, cap', w', hr, hle, own_dst ho2, hgB, hbw⟩
set_option maxHeartbeats 16000000 in
theorem paste_any (data fill D S C : List Int) (vda vd vs vc vf : Value) (z : Int) (w : World) (hda : Bs w vda data) (hdl : data.length ≤ 140737488351232) (hfi : Bs w vf fill) (hfl : fill.length ≤ 140737488351232) (hD : Is w vd D) (hS : Is w vs S) (hC : Is w vc C) (hz : I64 z) :
    Calls Try.prog 23 #[vda, .int .i64 z, vd, vs, vc, vf] w (ByP w (pasE data.length z D S C fill.length) (pasR data fill D S C z.toNat)) := by
  have HDA : Hid (Bs w vda data) := hda
  have HFI : Hid (Bs w vf fill) := hfi
  have HD : Hid (Is w vd D) := hD
  have HS : Hid (Is w vs S) := hS
  have HC : Hid (Is w vc C) := hC
  have HFB : Hid _ := fitBytes_any D S vd vs z w hD hS
  obtain ⟨xa, xc, rfl, xl1, xl2, _⟩ := hda
  obtain ⟨fa, fc, rfl, fl1, fl2, _⟩ := hfi
  obtain ⟨a1, m1, c1, rfl, e1, k1, l1⟩ := hD.open
  obtain ⟨a2, m2, c2, rfl, e2, k2, l2⟩ := hS.open
  obtain ⟨a3, m3, c3, rfl, e3, k3, l3⟩ := hC.open
  obtain ⟨dl, hdl'⟩ : ∃ dl, data.length = dl := ⟨_, rfl⟩
  obtain ⟨fl, hfl'⟩ : ∃ fl, fill.length = fl := ⟨_, rfl⟩
  have HDL : Hid (data.length = dl) := hdl'
  have HFL : Hid (fill.length = fl) := hfl'
  rw [hdl'] at hdl xl1 ⊢
  rw [hfl'] at hfl fl1 ⊢
  obtain ⟨er, HER⟩ : ∃ er, Hid (fbE D S z = er) := ⟨_, rfl⟩
  obtain ⟨ce, HCE⟩ : ∃ ce, Hid (pasE dl z D S C fl = ce) := ⟨_, rfl⟩
  rw [HCE.out]
  have HM1 : Hid (D.length = m1) := e1
  have HM3 : Hid (C.length = m3) := e3
  by_cases h1 : er = 0
  · subst h1
    obtain ⟨f1, f2, f3, f4, f5, f6, z1, z2, p1, p2, p3⟩ := fb_ok HER.out
    obtain ⟨zn, rfl⟩ : ∃ zn : Nat, z = (zn : Int) := ⟨z.toNat, by omega⟩
    have HCE2 : Hid (ce = if (dl : Int) = prd D * (zn : Int) ∧ (fl : Int) = prd S * (zn : Int) ∧ okB m1 C = true then 0 else 2) := by
      rw [Hid, ← HCE.out, pasE, HER.out, if_neg (by simp), f5, f6, e1]
    obtain ⟨ok, HOK⟩ : ∃ ok, Hid (okB m1 C = ok) := ⟨_, rfl⟩
    have HIT : Hid (∀ w1, Below w.heap.size w w1 → Calls Try.prog 33 #[.slice a3 m3 c3, .int .i64 (m1 : Int)] w1 fun e w' => e = .returned (.bool ok) ∧ Below w1.heap.size w1 w') := fun w1 h => by
      have := isTuple_any w1 _ C m1 l1 (HC.out.below h)
      rwa [HOK.out] at this
    have hpd := prd_nonneg fun x hx => ((dims_of (elE_ok f1).1).2 x hx).1
    obtain ⟨pd, hpd'⟩ : ∃ pd : Nat, prd D = (pd : Int) := ⟨(prd D).toNat, by omega⟩
    obtain ⟨ps, hps'⟩ : ∃ ps : Nat, prd S = (ps : Int) := ⟨(prd S).toNat, by omega⟩
    obtain ⟨pz, hpz⟩ : ∃ pz : Nat, pd * zn = pz := ⟨_, rfl⟩
    have hpzi : (pd : Int) * (zn : Int) = (pz : Int) := by rw [← Int.natCast_mul, hpz]
    have hpz6 : pz ≤ 65536 := by rw [hpd', hpzi] at p1; omega
    have hwp : IntKind.i64.wrap ((pd : Int) * (zn : Int)) = (pz : Int) := by rw [hpzi]; exact wrap_i64_in _ (by omega) (by omega)
    obtain ⟨nz, hnz⟩ : ∃ nz : Nat, ps * zn = nz := ⟨_, rfl⟩
    have hnzi : (ps : Int) * (zn : Int) = (nz : Int) := by rw [← Int.natCast_mul, hnz]
    have hnz6 : nz ≤ 65536 := by rw [hps', hnzi] at p2; omega
    have hwn : IntKind.i64.wrap ((ps : Int) * (zn : Int)) = (nz : Int) := by rw [hnzi]; exact wrap_i64_in _ (by omega) (by omega)
    rw [hpd', hpzi, hps', hnzi] at HCE2
    rw [fbN, fbN, HER.out, if_pos rfl, if_pos rfl, f5, f6, hpd', hps'] at HFB
    by_cases c1' : dl = pz
    · by_cases c2' : fl = nz
      · cases ok with
        | false =>
          have hce : ce = 2 := by rw [HCE2.out, HOK.out, if_neg (by simp)]
          subst hce c1' c2'
          have b1 : ((dl : Int) != (dl : Int)) = false := by simp
          have b1' : ((fl : Int) != (fl : Int)) = false := by simp
          clear hD hS hC HDL HFL e1 e2 e3
          go_enter Try.func23, Try.ntmps23
          go_wp2_with (first
            | (go_at_call 37; refine Calls.mono HFB.out ?_; rintro e w1 ⟨rfl, hb1⟩; have HB1 : Hid (Below w.heap.size w w1) := hb1; clear hb1)
            | (go_at_call 33; refine Calls.mono (HIT.out _ HB1.out) ?_; rintro e w2 ⟨rfl, hb2⟩; have HB2 : Hid (Below w.heap.size w w2) := HB1.out.trans (hb2.mono HB1.out.size); clear hb2))
          go_ret2
          exact byP_no (by omega) HB2.out
        | true =>
          have hce : ce = 0 := by rw [HCE2.out, HOK.out, if_pos ⟨by omega, by omega, rfl⟩]
          obtain ⟨o1, o2⟩ := okB_iff.1 HOK.out
          have hm2 : m1 = m2 := by rw [← e2, f3, e1]
          have hm3 : m1 = m3 := by rw [← e3, o1]
          have hd4 : m1 ≤ 4 := by have := (dims_of (elE_ok f1).1).1; omega
          obtain ⟨bx1, bx2⟩ := clip_box (D := D) (S := S) (C := C) (r := m1) e1 (by omega) o1 (fun x hx => ((dims_of (elE_ok f1).1).2 x hx).1) (fun x hx => (f4 x hx).1) o2
          have HCLP : Hid (∀ w1, Below w.heap.size w w1 → Calls Try.prog 35 #[.slice a1 m1 c1, .slice a2 m2 c2, .slice a3 m3 c3] w1 (ClP w1 D S C m1)) := fun w1 h => clip_any D S C _ _ _ m1 w1 (HD.out.below h) (HS.out.below h) (HC.out.below h) e1 hd4 (by omega) o1 (fun x hx => (dims_of (elE_ok f1).1).2 x hx) f4 o2
          have HCUT : Hid (pasR data fill D S C zn = boxB D (clS D S C) S (List.replicate m1 0) fill zn (clB D S C) data) := by
            rw [Hid, pasR, f3, e1]
          have HRR : Hid ((pasR data fill D S C zn).length = dl) := by
            rw [Hid, HCUT.out]
            exact boxB_len bx2 bx1 HDL.out (by rw [hpd', hpzi, c1']) (by rw [HFL.out, c2', hps', hnzi])
          have HBOX : Hid (∀ w4 g1 g2 g3 g4 cap3, Below w.heap.size w w4 → w.heap.size ≤ g3 → g1 ≠ g3 → g2 ≠ g3 → g4 ≠ g3 → dl ≤ cap3 → RI w4 g1 (clS D S C) → RI w4 g2 (clB D S C) → RI w4 g4 (List.replicate m1 0) → Dst w4 g3 data →
              Calls Try.prog 39 #[.agg #[.slice (some ⟨g3, 0, none⟩) dl cap3, .slice a1 m1 c1, .slice (some ⟨g1, 0, none⟩) m1 m1], .agg #[.slice fa fl fc, .slice a2 m2 c2, .slice (some ⟨g4, 0, none⟩) m1 m1], .slice (some ⟨g2, 0, none⟩) m1 m1, .int .i64 (zn : Int)] w4 (RsP w4 g3 (pasR data fill D S C zn))) := fun w4 g1 g2 g3 g4 cap3 hb hg3 n1 n2 n4 hcap3 r1 r2 r4 hd3 => by
            rw [HCUT.out]
            refine copyBox_any D (clS D S C) S (List.replicate m1 0) data fill (clB D S C) g3 cap3 dl fl fc m1 zn fa _ _ _ _ _ w4 bx2 bx1 hd4 bx1.xnn (elE_ok f1).2 (elE_ok f2).2 HDL.out HFL.out (by rw [hpd', hpzi, c1']) (by rw [hps', hnzi, c2']) (by omega) (by omega) (by omega) (by omega) hcap3 fl1 hd3 (fun w' hk => ?_)
            have hbw := bel_of_kp hb hk hg3
            have i64l : ∀ x ∈ clS D S C, I64 x := fun x hx => by
              obtain ⟨i, hi⟩ := List.getElem?_of_mem hx
              have hil := (List.getElem?_eq_some_iff.1 hi).1
              rw [bx2.s] at hil
              have h8 := bx2.fit i _ x _ (List.getElem?_eq_getElem (by rw [bx2.d]; exact hil)) hi (List.getElem?_eq_getElem (by rw [bx2.x]; exact hil))
              have h7 := (dims_of (elE_ok f1).1).2 _ (List.getElem_mem (show i < D.length by rw [bx2.d]; exact hil))
              exact ⟨by omega, by omega⟩
            have i64b : ∀ x ∈ clB D S C, I64 x := fun x hx => by
              obtain ⟨i, hi⟩ := List.getElem?_of_mem hx
              have hil := (List.getElem?_eq_some_iff.1 hi).1
              rw [bx2.x] at hil
              have h8 := bx2.fit i _ _ x (List.getElem?_eq_getElem (by rw [bx2.d]; exact hil)) (List.getElem?_eq_getElem (by rw [bx2.s]; exact hil)) hi
              have h7 := (dims_of (elE_ok f1).1).2 _ (List.getElem_mem (show i < D.length by rw [bx2.d]; exact hil))
              exact ⟨by omega, by omega⟩
            refine ⟨HD.out.below hbw, ?_, HS.out.below hbw, ?_, ?_, ?_⟩
            · have h9 := (r1.of_block (hk.block g1 r1.lt n1)).is (by rw [bx2.s]; omega) i64l
              rwa [bx2.s] at h9
            · have h9 := (r4.of_block (hk.block g4 r4.lt n4)).is (by simp; omega) (rep_i64 m1)
              rwa [List.length_replicate] at h9
            · have h9 := (r2.of_block (hk.block g2 r2.lt n2)).is (by rw [bx2.x]; omega) i64b
              rwa [bx2.x] at h9
            · have h9 := HFI.out.below hbw
              rwa [HFL.out] at h9
          have HRET : Hid (∀ w5 g3 cap3, Below w.heap.size w w5 → Dst w5 g3 (pasR data fill D S C zn) → w.heap.size ≤ g3 → dl ≤ cap3 → ByP w 0 (pasR data fill D S C ((zn : Int)).toNat) (.returned (.tuple #[.slice (some ⟨g3, 0, none⟩) dl cap3, .int .i64 0])) w5) := fun w5 g3 cap3 hb hd hg hc => by
            refine ⟨_, rfl, hb, fun h => absurd rfl h, fun _ => ⟨g3, cap3, ?_, ?_, hd, hg⟩⟩
            · rw [show ((zn : Int)).toNat = zn from rfl, HRR.out]
            · rw [show ((zn : Int)).toNat = zn from rfl, HRR.out]; exact hc
          have HAPP : Hid (∀ w3 : World, Below w.heap.size w w3 → ∃ g3 cap3 w4, (Builtin.append_ #[37, 37] 37 #[.slice (some ⟨w3.heap.size, 0, none⟩) 0 0, .slice xa dl xc]).run Try.prog (w3.alloc (.cells #[] 5)) = .ok (.slice (some ⟨g3, 0, none⟩) dl cap3) w4 ∧ dl ≤ cap3 ∧ Dst w4 g3 data ∧ w3.heap.size ≤ g3 ∧ Below w3.heap.size w3 w4) := fun w3 hb => by
            have h9 := HDA.out.below hb
            rw [HDL.out] at h9
            have := run_app_dst w3 37 _ data h9 (by rw [HDL.out]; omega)
            rwa [HDL.out] at this
          subst hce c1' c2' hm2 hm3
          have b1 : ((dl : Int) != (dl : Int)) = false := by simp
          have b1' : ((fl : Int) != (fl : Int)) = false := by simp
          clear hD hS hC e1 e2 e3 o2 bx1 bx2 f4 hnz hnzi hpzi hpz hpd' hps'
          go_enter Try.func23, Try.ntmps23
          go_wp2_with (first
            | (go_at_call 37; refine Calls.mono HFB.out ?_; rintro e w1 ⟨rfl, hb1⟩; have HB1 : Hid (Below w.heap.size w w1) := hb1; clear hb1)
            | (go_at_call 33; refine Calls.mono (HIT.out _ HB1.out) ?_; rintro e w2 ⟨rfl, hb2⟩; have HB2 : Hid (Below w.heap.size w w2) := HB1.out.trans (hb2.mono HB1.out.size); clear hb2)
            | (go_at_call 35; refine Calls.mono (HCLP.out _ HB2.out) ?_; rintro e w3 ⟨g1, g2, rfl, hr1, hr2, hne, hg1, hg2, hb3⟩; have HR3 : Hid (RI w3 g1 (clS D S C) ∧ RI w3 g2 (clB D S C)) := ⟨hr1, hr2⟩; have HB3 : Hid (Below w.heap.size w w3) := HB2.out.trans (hb3.mono HB2.out.size); clear hr1 hr2 hne hg1 hg2 hb3)
            | (have hgd := HAPP; clear hgd; obtain ⟨g3, cap3, w4, hrun, hc3, hd3, hg3, hb4⟩ := HAPP.out w3 HB3.out; refine wpList_run_append rfl (.tmp 59) (.tmp 60) _ rfl rfl rfl hrun ?_; have HD4 : Hid (Dst w4 g3 data ∧ w3.heap.size ≤ g3 ∧ dl ≤ cap3) := ⟨hd3, hg3, hc3⟩; have HB34 : Hid (Below w3.heap.size w3 w4) := hb4; have HB4 : Hid (Below w.heap.size w w4) := HB3.out.trans (hb4.mono HB3.out.size); clear hc3 hd3 hg3 hb4 hrun)
            | (go_at_call 40; refine Calls.mono (whole_any _ _ _ _ _ _ _ hd4) ?_; rintro e w5 ⟨g4, rfl, hr4, hg4, hb5⟩; have HB45 : Hid (Below w4.heap.size w4 w5) := hb5; have HB5 : Hid (Below w.heap.size w w5) := HB4.out.trans (hb5.mono HB4.out.size); have HR5 : Hid (RI w5 g4 (List.replicate m1 0) ∧ w4.heap.size ≤ g4) := ⟨hr4, hg4⟩; clear hr4 hg4 hb5)
            | (go_at_call 39; refine Calls.mono (HBOX.out w5 g1 g2 g3 g4 cap3 HB5.out (Nat.le_trans HB3.out.size HD4.out.2.1) (by have := HR3.out.1.lt; have := HD4.out.2.1; omega) (by have := HR3.out.2.lt; have := HD4.out.2.1; omega) (by have := HD4.out.1.lt; have := HR5.out.2; omega) HD4.out.2.2 ((HR3.out.1.of_block (HB34.out.block _ HR3.out.1.lt)).of_block (HB45.out.block _ (Nat.lt_of_lt_of_le HR3.out.1.lt HB34.out.size))) ((HR3.out.2.of_block (HB34.out.block _ HR3.out.2.lt)).of_block (HB45.out.block _ (Nat.lt_of_lt_of_le HR3.out.2.lt HB34.out.size))) HR5.out.1 (HD4.out.1.below HB45.out)) ?_; rintro e w6 ⟨rfl, hd6, hk6⟩; have HV : Hid (ByP w 0 (pasR data fill D S C ((zn : Int)).toNat) (.returned (.tuple #[.slice (some ⟨g3, 0, none⟩) dl cap3, .int .i64 0])) w6) := HRET.out w6 g3 cap3 (bel_of_kp HB5.out hk6 (Nat.le_trans HB3.out.size HD4.out.2.1)) hd6 (Nat.le_trans HB3.out.size HD4.out.2.1) HD4.out.2.2; clear hd6 hk6))
          go_ret2
          exact HV.out
      · have hce : ce = 2 := by rw [HCE2.out, if_neg (by omega)]
        subst hce c1'
        have b2 : ((fl : Int) != (nz : Int)) = true := by simp; omega
        clear hD hS hC HDL HFL e1 e2 e3
        go_enter Try.func23, Try.ntmps23
        go_wp2_with (go_at_call 37; refine Calls.mono HFB.out ?_; rintro e w1 ⟨rfl, hb1⟩; have HB1 : Hid (Below w.heap.size w w1) := hb1; clear hb1)
        go_ret2
        exact byP_no (by omega) HB1.out
    · have hce : ce = 2 := by rw [HCE2.out, if_neg (by omega)]
      subst hce
      have b2 : ((dl : Int) != (pz : Int)) = true := by simp; omega
      clear hD hS hC HDL HFL e1 e2 e3
      go_enter Try.func23, Try.ntmps23
      go_wp2_with (go_at_call 37; refine Calls.mono HFB.out ?_; rintro e w1 ⟨rfl, hb1⟩; have HB1 : Hid (Below w.heap.size w w1) := hb1; clear hb1)
      go_ret2
      exact byP_no (by omega) HB1.out
  · have hce : ce = er := by rw [← HCE.out, pasE, HER.out, if_pos h1]
    subst hce
    have b2 : (ce != 0) = true := by simpa using h1
    have HF0 : Hid (∀ x, fbN D S z x = 0) := fun x => by rw [fbN, HER.out, if_neg h1]
    rw [HF0.out, HF0.out, HER.out] at HFB
    clear hD hS hC HDL HFL e1 e2 e3
    go_enter Try.func23, Try.ntmps23
    go_wp2_with (go_at_call 37; refine Calls.mono HFB.out ?_; rintro e w1 ⟨rfl, hb1⟩; have HB1 : Hid (Below w.heap.size w w1) := hb1; clear hb1)
    go_ret2
    exact byP_no h1 HB1.out
end Go.Proofs.Ytneegijbbbebkaa

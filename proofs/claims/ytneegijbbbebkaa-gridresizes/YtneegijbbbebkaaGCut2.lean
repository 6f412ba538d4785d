/-
  Cut of the program. Conditions: lengths are such as memory bears.
-/
import Derived.Test.YtneegijbbbebkaaGCut
namespace Go.Proofs.Ytneegijbbbebkaa
open Go.RowKit Go.Shelf
set_option linter.unusedVariables false
set_option maxRecDepth 100000

/-- What is told of bytes: new ones, or an error. -/
def ByP (w : World) (er : Int) (R : List Int) (e : Ending) (w' : World) : Prop := ∃ v, e = .returned (.tuple #[v, .int .i64 er]) ∧ Below w.heap.size w w' ∧ (er ≠ 0 → v = .slice none 0 0) ∧ (er = 0 → ∃ g cap, v = .slice (some ⟨g, 0, none⟩) R.length cap ∧ R.length ≤ cap ∧ Dst w' g R ∧ w.heap.size ≤ g)
theorem byP_no {w w' : World} {er : Int} {R : List Int} (h : er ≠ 0) (hb : Below w.heap.size w w') : ByP w er R (.returned (.tuple #[.slice none 0 0, .int .i64 er])) w' := ⟨_, rfl, hb, fun _ => rfl, fun e => absurd e h⟩
def cutE (dl : Nat) (z : Int) (D S C : List Int) (fl : Nat) : Int := if fbE D S z ≠ 0 then fbE D S z else if (dl : Int) = elN D * z ∧ (fl : Int) = z ∧ okB D.length C = true then 0 else 2
def cutR (data fill D S C : List Int) (z : Nat) : List Int := boxB S (List.replicate S.length 0) D (clS D S C) data z (clB D S C) (repL (elN S).toNat fill)
theorem boxB_len {Dt St Df Sf x X s : List Int} {z r sl : Nat} (ht : BoxIn Dt St X r) (hf : BoxIn Df Sf X r) (hs : s.length = sl) (hsl : (sl : Int) = prd Dt * z) (hx : (x.length : Int) = prd Df * z) : (boxB Dt St Df Sf x z X s).length = sl := by
  have hX0 := ht.xnn
  unfold boxB boxF
  split
  · exact hs
  · rename_i h0
    rw [ht.x]
    refine walkF_len _ X r sl (fun p s' hs' hp hb => rowF_len ht hf hX0 hs' hsl hx hp hb h0) (bsX X) 0 [] s rfl ?_ ?_ (fun i x y hx => by simp at hx) hs
    · rcases Nat.eq_zero_or_pos r with h0 | h0
      · right
        have hx : X = [] := List.eq_nil_of_length_eq_zero (by rw [ht.x]; exact h0)
        exact ⟨rfl, by rw [hx]; rfl, h0⟩
      · left
        rw [bsX, List.length_map, List.length_dropLast, ht.x]; omega
    · intro i b hb9
      rw [bsX, List.getElem?_map, Option.map_eq_some_iff] at hb9
      obtain ⟨y, hy, rfl⟩ := hb9
      rw [List.getElem?_dropLast] at hy
      split at hy
      · rw [Nat.zero_add, hy]
        have := hX0 y (List.mem_of_getElem? hy)
        congr 1
        omega
      · cases hy
/-- What there is where all fits. -/
theorem fb_ok {D S : List Int} {z : Int} (h : fbE D S z = 0) : elE D = 0 ∧ elE S = 0 ∧ S.length = D.length ∧ (∀ x ∈ S, 1 ≤ x ∧ x ≤ 1048576) ∧ elN D = prd D ∧ elN S = prd S ∧ 1 ≤ z ∧ z ≤ 256 ∧ prd D * z ≤ 65536 ∧ prd S * z ≤ 65536 ∧ 1 ≤ prd S := by
  unfold fbE at h
  by_cases hf : fitE D S = 0
  · rw [if_neg (by rw [hf]; simp)] at h
    obtain ⟨h1, h2, h3⟩ := fitE_zero hf
    obtain ⟨s1, s2⟩ := shB_iff.1 h2
    have e1 : elN D = prd D := by rw [elN, if_pos (elE_ok h1)]
    have e2 : elN S = prd S := by rw [elN, if_pos (elE_ok h3)]
    obtain ⟨z1, z2, z3⟩ := wgE_zero h
    rw [e1, e2] at z3
    have a1 := Int.mul_le_mul_of_nonneg_right (show prd D ≤ max (prd D) (prd S) by omega) (show 0 ≤ z by omega)
    have a2 := Int.mul_le_mul_of_nonneg_right (show prd S ≤ max (prd D) (prd S) by omega) (show 0 ≤ z by omega)
    exact ⟨h1, h3, s1, s2, e1, e2, z1, z2, by omega, by omega, prd_pos (fun x hx => by have := s2 x hx; omega) (fun hx => by have := s2 0 hx; omega)⟩
  · rw [if_pos hf] at h; exact absurd h hf
theorem bel_of_kp {w a b : World} {g : Nat} (h : Below w.heap.size w a) (k : Kp (fun x => x = g) a b) (hg : w.heap.size ≤ g) : Below w.heap.size w b := bel_kp h k hg
theorem rep_i64 (r : Nat) : ∀ x ∈ List.replicate r (0 : Int), I64 x := fun x hx => by
  have := List.eq_of_mem_replicate hx
  subst this
  exact ⟨by omega, by omega⟩
set_option maxHeartbeats 16000000 in
theorem cut_any (data fill D S C : List Int) (vda vd vs vc vf : Value) (z : Int) (w : World) (hda : Bs w vda data) (hdl : data.length ≤ 140737488351232) (hfi : Bs w vf fill) (hfl : fill.length ≤ 140737488351232) (hD : Is w vd D) (hS : Is w vs S) (hC : Is w vc C) (hz : I64 z) :
    Calls Try.prog 19 #[vda, .int .i64 z, vd, vs, vc, vf] w (ByP w (cutE data.length z D S C fill.length) (cutR data fill D S C z.toNat)) := by
  have HDA : Hid (Bs w vda data) := hda
  have HFI : Hid (Bs w vf fill) := hfi
  have HD : Hid (Is w vd D) := hD
  have HS : Hid (Is w vs S) := hS
  have HC : Hid (Is w vc C) := hC
  have HFB : Hid _ := fitBytes_any D S vd vs z w hD hS
  obtain ⟨xa, xc, rfl, xl1, xl2, _⟩ := hda
  obtain ⟨fa, fc, rfl, fl1, fl2, _⟩ := hfi
  obtain ⟨a1, m1, c1, rfl, e1, k1, l1⟩ := hD.open
  obtain ⟨a2, m2, c2, rfl, e2, k2, l2⟩ := hS.open
  obtain ⟨a3, m3, c3, rfl, e3, k3, l3⟩ := hC.open
  obtain ⟨dl, hdl'⟩ : ∃ dl, data.length = dl := ⟨_, rfl⟩
  obtain ⟨fl, hfl'⟩ : ∃ fl, fill.length = fl := ⟨_, rfl⟩
  have HDL : Hid (data.length = dl) := hdl'
  have HFL : Hid (fill.length = fl) := hfl'
  rw [hdl'] at hdl xl1 ⊢
  rw [hfl'] at hfl fl1 ⊢
  obtain ⟨er, HER⟩ : ∃ er, Hid (fbE D S z = er) := ⟨_, rfl⟩
  obtain ⟨ce, HCE⟩ : ∃ ce, Hid (cutE dl z D S C fl = ce) := ⟨_, rfl⟩
  rw [HCE.out]
  have HM1 : Hid (D.length = m1) := e1
  have HM3 : Hid (C.length = m3) := e3
  by_cases h1 : er = 0
  · subst h1
    obtain ⟨f1, f2, f3, f4, f5, f6, z1, z2, p1, p2, p3⟩ := fb_ok HER.out
    obtain ⟨zn, rfl⟩ : ∃ zn : Nat, z = (zn : Int) := ⟨z.toNat, by omega⟩
    have HCE2 : Hid (ce = if (dl : Int) = prd D * (zn : Int) ∧ (fl : Int) = (zn : Int) ∧ okB m1 C = true then 0 else 2) := by
      rw [Hid, ← HCE.out, cutE, HER.out, if_neg (by simp), f5, e1]
    obtain ⟨ok, HOK⟩ : ∃ ok, Hid (okB m1 C = ok) := ⟨_, rfl⟩
    have HIT : Hid (∀ w1, Below w.heap.size w w1 → Calls Try.prog 33 #[.slice a3 m3 c3, .int .i64 (m1 : Int)] w1 fun e w' => e = .returned (.bool ok) ∧ Below w1.heap.size w1 w') := fun w1 h => by
      have := isTuple_any w1 _ C m1 l1 (HC.out.below h)
      rwa [HOK.out] at this
    have hpd := prd_nonneg fun x hx => ((dims_of (elE_ok f1).1).2 x hx).1
    obtain ⟨pd, hpd'⟩ : ∃ pd : Nat, prd D = (pd : Int) := ⟨(prd D).toNat, by omega⟩
    obtain ⟨ps, hps'⟩ : ∃ ps : Nat, prd S = (ps : Int) := ⟨(prd S).toNat, by omega⟩
    obtain ⟨pz, hpz⟩ : ∃ pz : Nat, pd * zn = pz := ⟨_, rfl⟩
    have hpzi : (pd : Int) * (zn : Int) = (pz : Int) := by rw [← Int.natCast_mul, hpz]
    have hpz6 : pz ≤ 65536 := by rw [hpd', hpzi] at p1; omega
    have hwp : IntKind.i64.wrap ((pd : Int) * (zn : Int)) = (pz : Int) := by rw [hpzi]; exact wrap_i64_in _ (by omega) (by omega)
    rw [hpd', hpzi] at HCE2
    rw [fbN, fbN, HER.out, if_pos rfl, if_pos rfl, f5, f6, hpd', hps'] at HFB
    by_cases c1' : dl = pz
    · by_cases c2' : fl = zn
      · cases ok with
        | false =>
          have hce : ce = 2 := by rw [HCE2.out, HOK.out, if_neg (by simp)]
          subst hce c1' c2'
          have b1 : ((dl : Int) != (dl : Int)) = false := by simp
          clear hD hS hC HDL HFL e1 e2 e3
          go_enter Try.func19, Try.ntmps19
          go_wp2_with (first
            | (go_at_call 37; refine Calls.mono HFB.out ?_; rintro e w1 ⟨rfl, hb1⟩; have HB1 : Hid (Below w.heap.size w w1) := hb1; clear hb1)
            | (go_at_call 33; refine Calls.mono (HIT.out _ HB1.out) ?_; rintro e w2 ⟨rfl, hb2⟩; have HB2 : Hid (Below w.heap.size w w2) := HB1.out.trans (hb2.mono HB1.out.size); clear hb2))
          go_ret2
          exact byP_no (by omega) HB2.out
        | true =>
          have hce : ce = 0 := by rw [HCE2.out, HOK.out, if_pos ⟨by omega, by omega, rfl⟩]
          obtain ⟨o1, o2⟩ := okB_iff.1 HOK.out
          have hm2 : m1 = m2 := by rw [← e2, f3, e1]
          have hm3 : m1 = m3 := by rw [← e3, o1]
          have hd4 : m1 ≤ 4 := by have := (dims_of (elE_ok f1).1).1; omega
          obtain ⟨bx1, bx2⟩ := clip_box (D := D) (S := S) (C := C) (r := m1) e1 (by omega) o1 (fun x hx => ((dims_of (elE_ok f1).1).2 x hx).1) (fun x hx => (f4 x hx).1) o2
          have HCLP : Hid (∀ w1, Below w.heap.size w w1 → Calls Try.prog 35 #[.slice a1 m1 c1, .slice a2 m2 c2, .slice a3 m3 c3] w1 (ClP w1 D S C m1)) := fun w1 h => clip_any D S C _ _ _ m1 w1 (HD.out.below h) (HS.out.below h) (HC.out.below h) e1 hd4 (by omega) o1 (fun x hx => (dims_of (elE_ok f1).1).2 x hx) f4 o2
          obtain ⟨nz, hnz⟩ : ∃ nz : Nat, zn * ps = nz := ⟨_, rfl⟩
          have hnzi : (zn : Int) * (ps : Int) = (nz : Int) := by rw [← Int.natCast_mul, hnz]
          have hnz6 : nz ≤ 65536 := by rw [hps', Int.mul_comm, hnzi] at p2; omega
          have HREP : Hid (∀ w1, Below w.heap.size w w1 → Calls Try.prog 38 #[.slice fa fl fc, .int .i64 (ps : Int)] w1 (RpP w1 nz (repL ps fill))) := fun w1 h => rep_any _ fill zn ps nz w1 (by have h9 := HFI.out.below h; rw [HFL.out] at h9; exact h9) (by omega) (by omega) (by omega) hnz hnz6
          have HRL : Hid ((repL ps fill).length = nz) := by rw [Hid, repL_len, HFL.out, c2', Nat.mul_comm]; exact hnz
          have HCUT : Hid (cutR data fill D S C zn = boxB S (List.replicate m1 0) D (clS D S C) data zn (clB D S C) (repL ps fill)) := by
            rw [Hid, cutR, f6, hps', f3, e1]; rfl
          have HRR : Hid ((cutR data fill D S C zn).length = nz) := by
            rw [Hid, HCUT.out]
            exact boxB_len bx1 bx2 HRL.out (by rw [hps', Int.mul_comm, hnzi]) (by rw [HDL.out, c1', hpd', hpzi])
          have HBOX : Hid (∀ w4 g1 g2 g3 g4 cap3, Below w.heap.size w w4 → w.heap.size ≤ g3 → g1 ≠ g3 → g2 ≠ g3 → g4 ≠ g3 → nz ≤ cap3 → RI w4 g1 (clS D S C) → RI w4 g2 (clB D S C) → RI w4 g4 (List.replicate m1 0) → Dst w4 g3 (repL ps fill) →
              Calls Try.prog 39 #[.agg #[.slice (some ⟨g3, 0, none⟩) nz cap3, .slice a2 m2 c2, .slice (some ⟨g4, 0, none⟩) m1 m1], .agg #[.slice xa dl xc, .slice a1 m1 c1, .slice (some ⟨g1, 0, none⟩) m1 m1], .slice (some ⟨g2, 0, none⟩) m1 m1, .int .i64 (zn : Int)] w4 (RsP w4 g3 (cutR data fill D S C zn))) := fun w4 g1 g2 g3 g4 cap3 hb hg3 n1 n2 n4 hcap3 r1 r2 r4 hd3 => by
            rw [HCUT.out]
            refine copyBox_any S (List.replicate m1 0) D (clS D S C) (repL ps fill) data (clB D S C) g3 cap3 nz dl xc m1 zn xa _ _ _ _ _ w4 bx1 bx2 hd4 bx1.xnn (elE_ok f2).2 (elE_ok f1).2 HRL.out HDL.out (by rw [hps', Int.mul_comm, hnzi]) (by rw [hpd', hpzi, c1']) hnz6 (by omega) (by omega) (by omega) hcap3 xl1 hd3 (fun w' hk => ?_)
            have hbw := bel_of_kp hb hk hg3
            have i64l : ∀ x ∈ clS D S C, I64 x := fun x hx => by
              obtain ⟨i, hi⟩ := List.getElem?_of_mem hx
              have hil := (List.getElem?_eq_some_iff.1 hi).1
              rw [bx2.s] at hil
              have h8 := bx2.fit i _ x _ (List.getElem?_eq_getElem (by rw [bx2.d]; exact hil)) hi (List.getElem?_eq_getElem (by rw [bx2.x]; exact hil))
              have h7 := (dims_of (elE_ok f1).1).2 _ (List.getElem_mem (show i < D.length by rw [bx2.d]; exact hil))
              exact ⟨by omega, by omega⟩
            have i64b : ∀ x ∈ clB D S C, I64 x := fun x hx => by
              obtain ⟨i, hi⟩ := List.getElem?_of_mem hx
              have hil := (List.getElem?_eq_some_iff.1 hi).1
              rw [bx2.x] at hil
              have h8 := bx2.fit i _ _ x (List.getElem?_eq_getElem (by rw [bx2.d]; exact hil)) (List.getElem?_eq_getElem (by rw [bx2.s]; exact hil)) hi
              have h7 := (dims_of (elE_ok f1).1).2 _ (List.getElem_mem (show i < D.length by rw [bx2.d]; exact hil))
              exact ⟨by omega, by omega⟩
            refine ⟨HS.out.below hbw, ?_, HD.out.below hbw, ?_, ?_, ?_⟩
            · have h9 := (r4.of_block (hk.block g4 r4.lt n4)).is (by simp; omega) (rep_i64 m1)
              rwa [List.length_replicate] at h9
            · have h9 := (r1.of_block (hk.block g1 r1.lt n1)).is (by rw [bx2.s]; omega) i64l
              rwa [bx2.s] at h9
            · have h9 := (r2.of_block (hk.block g2 r2.lt n2)).is (by rw [bx2.x]; omega) i64b
              rwa [bx2.x] at h9
            · have h9 := HDA.out.below hbw
              rwa [HDL.out] at h9
          have HRET : Hid (∀ w5 g3 cap3, Below w.heap.size w w5 → Dst w5 g3 (cutR data fill D S C zn) → w.heap.size ≤ g3 → nz ≤ cap3 → ByP w 0 (cutR data fill D S C ((zn : Int)).toNat) (.returned (.tuple #[.slice (some ⟨g3, 0, none⟩) nz cap3, .int .i64 0])) w5) := fun w5 g3 cap3 hb hd hg hc => by
            refine ⟨_, rfl, hb, fun h => absurd rfl h, fun _ => ⟨g3, cap3, ?_, ?_, hd, hg⟩⟩
            · rw [show ((zn : Int)).toNat = zn from rfl, HRR.out]
            · rw [show ((zn : Int)).toNat = zn from rfl, HRR.out]; exact hc
          subst hce c1' c2' hm2 hm3
          clear hD hS hC e1 e2 e3 o2 bx1 bx2 f4 hnz hnzi hpzi hpz hpd' hps'
          go_enter Try.func19, Try.ntmps19
          go_wp2_with (first
            | (go_at_call 37; refine Calls.mono HFB.out ?_; rintro e w1 ⟨rfl, hb1⟩; have HB1 : Hid (Below w.heap.size w w1) := hb1; clear hb1)
            | (go_at_call 33; refine Calls.mono (HIT.out _ HB1.out) ?_; rintro e w2 ⟨rfl, hb2⟩; have HB2 : Hid (Below w.heap.size w w2) := HB1.out.trans (hb2.mono HB1.out.size); clear hb2)
            | (go_at_call 35; refine Calls.mono (HCLP.out _ HB2.out) ?_; rintro e w3 ⟨g1, g2, rfl, hr1, hr2, hne, hg1, hg2, hb3⟩; have HR3 : Hid (RI w3 g1 (clS D S C) ∧ RI w3 g2 (clB D S C)) := ⟨hr1, hr2⟩; have HB3 : Hid (Below w.heap.size w w3) := HB2.out.trans (hb3.mono HB2.out.size); clear hr1 hr2 hne hg1 hg2 hb3)
            | (go_at_call 38; refine Calls.mono (HREP.out _ HB3.out) ?_; rintro e w4 ⟨g3, cap3, rfl, hc3, hd3, hg3, hb4⟩; have HD4 : Hid (Dst w4 g3 (repL ps fill) ∧ w3.heap.size ≤ g3 ∧ nz ≤ cap3) := ⟨hd3, hg3, hc3⟩; have HB34 : Hid (Below w3.heap.size w3 w4) := hb4; have HB4 : Hid (Below w.heap.size w w4) := HB3.out.trans (hb4.mono HB3.out.size); clear hc3 hd3 hg3 hb4)
            | (go_at_call 40; refine Calls.mono (whole_any _ _ _ _ _ _ _ hd4) ?_; rintro e w5 ⟨g4, rfl, hr4, hg4, hb5⟩; have HB45 : Hid (Below w4.heap.size w4 w5) := hb5; have HB5 : Hid (Below w.heap.size w w5) := HB4.out.trans (hb5.mono HB4.out.size); have HR5 : Hid (RI w5 g4 (List.replicate m1 0) ∧ w4.heap.size ≤ g4) := ⟨hr4, hg4⟩; clear hr4 hg4 hb5)
            | (go_at_call 39; refine Calls.mono (HBOX.out w5 g1 g2 g3 g4 cap3 HB5.out (Nat.le_trans HB3.out.size HD4.out.2.1) (by have := HR3.out.1.lt; have := HD4.out.2.1; omega) (by have := HR3.out.2.lt; have := HD4.out.2.1; omega) (by have := HD4.out.1.lt; have := HR5.out.2; omega) HD4.out.2.2 ((HR3.out.1.of_block (HB34.out.block _ HR3.out.1.lt)).of_block (HB45.out.block _ (Nat.lt_of_lt_of_le HR3.out.1.lt HB34.out.size))) ((HR3.out.2.of_block (HB34.out.block _ HR3.out.2.lt)).of_block (HB45.out.block _ (Nat.lt_of_lt_of_le HR3.out.2.lt HB34.out.size))) HR5.out.1 (HD4.out.1.below HB45.out)) ?_; rintro e w6 ⟨rfl, hd6, hk6⟩; have HV : Hid (ByP w 0 (cutR data fill D S C ((fl : Int)).toNat) (.returned (.tuple #[.slice (some ⟨g3, 0, none⟩) nz cap3, .int .i64 0])) w6) := HRET.out w6 g3 cap3 (bel_of_kp HB5.out hk6 (Nat.le_trans HB3.out.size HD4.out.2.1)) hd6 (Nat.le_trans HB3.out.size HD4.out.2.1) HD4.out.2.2; clear hd6 hk6))
          go_ret2
          exact HV.out
      · have hce : ce = 2 := by rw [HCE2.out, if_neg (by omega)]
        subst hce c1'
        have b2 : ((fl : Int) != (zn : Int)) = true := by simp; omega
        clear hD hS hC HDL HFL e1 e2 e3
        go_enter Try.func19, Try.ntmps19
        go_wp2_with (go_at_call 37; refine Calls.mono HFB.out ?_; rintro e w1 ⟨rfl, hb1⟩; have HB1 : Hid (Below w.heap.size w w1) := hb1; clear hb1)
        go_ret2
        exact byP_no (by omega) HB1.out
    · have hce : ce = 2 := by rw [HCE2.out, if_neg (by omega)]
      subst hce
      have b2 : ((dl : Int) != (pz : Int)) = true := by simp; omega
      clear hD hS hC HDL HFL e1 e2 e3
      go_enter Try.func19, Try.ntmps19
      go_wp2_with (go_at_call 37; refine Calls.mono HFB.out ?_; rintro e w1 ⟨rfl, hb1⟩; have HB1 : Hid (Below w.heap.size w w1) := hb1; clear hb1)
      go_ret2
      exact byP_no (by omega) HB1.out
  · have hce : ce = er := by rw [← HCE.out, cutE, HER.out, if_pos h1]
    subst hce
    have b2 : (ce != 0) = true := by simpa using h1
    have HF0 : Hid (∀ x, fbN D S z x = 0) := fun x => by rw [fbN, HER.out, if_neg h1]
    rw [HF0.out, HF0.out, HER.out] at HFB
    clear hD hS hC HDL HFL e1 e2 e3
    go_enter Try.func19, Try.ntmps19
    go_wp2_with (go_at_call 37; refine Calls.mono HFB.out ?_; rintro e w1 ⟨rfl, hb1⟩; have HB1 : Hid (Below w.heap.size w w1) := hb1; clear hb1)
    go_ret2
    exact byP_no h1 HB1.out
end Go.Proofs.Ytneegijbbbebkaa

/-
  The clips of all chunks make the extent, and each tuple lies within the clip of its own chunk: the law's walk. No conditions.
-/
import Derived.Test.YtmefpnpfapochaaGCovH
import Derived.BigRegion
namespace Go.Proofs.Ytmefpnpfapochaa
open Go.RowKit Go.Shelf
set_option linter.unusedVariables false
set_option maxRecDepth 100000

set_option maxHeartbeats 32000000 in
theorem gridCovers_walk (vd : Value) (D : List Int) (vs : Value) (S : List Int) (va : Value) (A : List Int) (w : World) (hD : Is w vd D) (hS : Is w vs S) (hA : Is w va A) : Calls Try.prog 8 #[vd, vs, va] w fun e w' => e = .returned (.bool true) ∧ Below w.heap.size w w' := by
  have HD : Hid (Is w vd D) := hD
  have HS : Hid (Is w vs S) := hS
  have HA : Hid (Is w va A) := hA
  obtain ⟨a1, r, c1, rfl, e1, k1, l1⟩ := hD.open
  obtain ⟨a2, r2, c2, rfl, e2, k2, l2⟩ := hS.open
  obtain ⟨a3, m3, c3, rfl, e3, k3, l3⟩ := hA.open
  obtain ⟨cn, HCN⟩ : ∃ cn, Hid (chN D S = cn) := ⟨_, rfl⟩
  obtain ⟨ce, HCE⟩ : ∃ ce, Hid (fitE D S = ce) := ⟨_, rfl⟩
  obtain ⟨wb, HWB⟩ : ∃ wb, Hid (decide (3000 < elN D) = wb) := ⟨_, rfl⟩
  have HP0 : Hid (Calls Try.prog 9 #[.slice a1 r c1, .slice a2 r2 c2] w fun e w' => e = .returned (.tuple #[.int .i64 cn, .int .i64 ce]) ∧ Below w.heap.size w w') := by
    have := chunks_any D S _ _ w hD hS
    rwa [HCN.out, HCE.out] at this
  have HWI : Hid (∀ w1, Below w.heap.size w w1 → Calls Try.prog 27 #[.slice a1 r c1] w1 fun e w' => e = .returned (.bool wb) ∧ Below w1.heap.size w1 w') := fun w1 h1 => by
    have := wide_any D _ w1 (HD.out.below h1)
    rwa [HWB.out] at this
  by_cases h1 : ce = 0
  · subst h1
    by_cases h2 : cn = 0
    · subst h2
      clear hD hS hA e1 e2 e3
      go_enter Try.func8, Try.ntmps8
      go_wp2_with (first
        | (have hg := HB1; clear hg; go_at_call 14; refine (lives13_any _).mono ?_; rintro e w5 ⟨rfl, hb5⟩; have HB5 : Hid (Below w.heap.size w w5) := HB1.out.trans (hb5.mono HB1.out.size); clear hb5)
        | (go_at_call 9; refine HP0.out.mono ?_; rintro e w1 ⟨rfl, hb1⟩; have HB1 : Hid (Below w.heap.size w w1) := hb1; clear hb1))
      go_ret
      exact ⟨rfl, HB5.out⟩
    · have b2 : (cn == 0) = false := by simpa using h2
      by_cases h3 : 300 < cn
      · have d3 : decide (300 < cn) = true := by simpa using h3
        clear hD hS hA e1 e2 e3
        go_enter Try.func8, Try.ntmps8
        go_wp2_with (first
          | (have hg := HB1; clear hg; go_at_call 14; refine (lives13_any _).mono ?_; rintro e w5 ⟨rfl, hb5⟩; have HB5 : Hid (Below w.heap.size w w5) := HB1.out.trans (hb5.mono HB1.out.size); clear hb5)
          | (go_at_call 9; refine HP0.out.mono ?_; rintro e w1 ⟨rfl, hb1⟩; have HB1 : Hid (Below w.heap.size w w1) := hb1; clear hb1))
        go_ret
        exact ⟨rfl, HB5.out⟩
      · have d3 : decide (300 < cn) = false := by simpa using h3
        cases wb with
        | true =>
          clear hD hS hA e1 e2 e3
          go_enter Try.func8, Try.ntmps8
          go_wp2_with (first
            | (have hg := HB2; clear hg; go_at_call 14; refine (lives13_any _).mono ?_; rintro e w5 ⟨rfl, hb5⟩; have HB5 : Hid (Below w.heap.size w w5) := HB2.out.trans (hb5.mono HB2.out.size); clear hb5)
            | (go_at_call 27; refine (HWI.out _ HB1.out).mono ?_; rintro e w2 ⟨rfl, hb2⟩; have HB2 : Hid (Below w.heap.size w w2) := HB1.out.trans (hb2.mono HB1.out.size); clear hb2)
            | (go_at_call 9; refine HP0.out.mono ?_; rintro e w1 ⟨rfl, hb1⟩; have HB1 : Hid (Below w.heap.size w w1) := hb1; clear hb1))
          go_ret
          exact ⟨rfl, HB5.out⟩
        | false =>
          obtain ⟨f1, f2, f3⟩ := fitE_zero HCE.out
          obtain ⟨s1, s2⟩ := shB_iff.1 f2
          obtain ⟨hr4, hdd⟩ := dims_of (elE_ok f1).1
          have hel : elN D = prd D := by rw [elN, if_pos (elE_ok f1)]
          have hchn : chN D S = prd (cntL D S) := by rw [chN, HCE.out, if_pos rfl]
          have h0 : (0 : Int) ∉ D := fun h => h2 (by rw [← HCN.out, hchn]; exact cntL_zero s1 (fun x hx => (s2 x hx).1) h)
          have HDP : Hid (∀ x ∈ D, 1 ≤ x ∧ x ≤ 1048576) := fun x hx => by
            have h9 := hdd x hx
            have : x ≠ 0 := fun e => h0 (e ▸ hx)
            omega
          have HSP : Hid (∀ x ∈ S, 1 ≤ x ∧ x ≤ 1048576) := s2
          have HSL : Hid (S.length = D.length) := s1
          obtain ⟨K, HK⟩ : ∃ K, Hid (prdN (cntN D S) = K) := ⟨_, rfl⟩
          have hKc : (K : Int) = cn := by rw [← HCN.out, hchn, cnt_toI (fun x hx => (HDP.out x hx).1) (fun x hx => (HSP.out x hx).1), prd_toI, HK.out]
          obtain ⟨en, HEN⟩ : ∃ en, Hid (elN D = en) := ⟨_, rfl⟩
          have HPE : Hid (prd D = en) := by rw [Hid, ← hel, HEN.out]
          have hen : en ≤ 3000 := by have h9 := HWB.out; rw [HEN.out] at h9; simpa using h9
          have HNP : Hid (∀ x ∈ cntN D S, 0 < x) := cntN_pos (fun x hx => (HDP.out x hx).1) (fun x hx => (HSP.out x hx).1)
          have HNB : Hid (∀ x ∈ cntN D S, x ≤ 1048576) := fun x hx => by
            obtain ⟨i, hi⟩ := List.getElem?_of_mem hx
            rw [cntN, List.getElem?_zipWith] at hi
            cases q1 : D[i]? with
            | none => rw [q1] at hi; simp at hi
            | some a =>
              cases q2 : S[i]? with
              | none => rw [q1, q2] at hi; simp at hi
              | some s =>
                rw [q1, q2] at hi
                simp only [Option.some.injEq] at hi
                have p1 := HDP.out a (List.mem_of_getElem? q1)
                have p2 := HSP.out s (List.mem_of_getElem? q2)
                have := cnt_le (n := a) (s := s) (by omega) p2.1
                rw [cnt1] at hi
                omega
          obtain rfl : r = r2 := by omega
          have HRL : Hid (D.length = r) := e1
          have HNL : Hid ((cntN D S).length = r) := by rw [Hid, cntN, List.length_zipWith]; omega
          have hr4' : r ≤ 4 := by omega
          have hr0 : (r : Int) ≤ 4 := by omega
          have HAL : Hid (A.length = m3) := e3
          have HSH : Hid (shB r S = true) := by rw [Hid, ← e1]; exact f2
          have HCP : Hid (∀ (C : List Int) vc w1, Below w.heap.size w w1 → Is w1 vc C → C.length = r → (∀ x ∈ C, 0 ≤ x) → Calls Try.prog 15 #[.slice a1 r c1, .slice a2 r c2, vc] w1 fun e w' => ∃ u uc v vc, e = .returned (.tuple #[.slice u r uc, .slice v r vc, .int .i64 0]) ∧ Is w' (.slice u r uc) (clS D S C) ∧ Is w' (.slice v r vc) (clB D S C) ∧ Below w1.heap.size w1 w') := fun C vc w1 hb hC hl hnn => clip_yes _ _ _ w1 (HD.out.below hb) (HS.out.below hb) hC HCE.out HRL.out hl hnn
          have HCD : Hid (∀ k < K, ∀ w1 g, RI w1 g (cdig D S k) → Is w1 (.slice (some ⟨g, 0, none⟩) r r) (cdig D S k)) := fun k hk w1 g h => by
            have hl := cdig_length HSL.out k
            have := h.is (by rw [hl, HRL.out]; omega) (fun x hx => by
              have h5 := cdig_nn k x hx
              obtain ⟨i, hi⟩ := List.getElem?_of_mem hx
              have hil := (List.getElem?_eq_some_iff.1 hi).1
              rw [hl] at hil
              have pn := HDP.out _ (List.getElem_mem hil)
              have ps := HSP.out _ (List.getElem_mem (show i < S.length by rw [HSL.out]; exact hil))
              obtain ⟨c, hc, c0, c4, _⟩ := cov_at HSL.out (fun x hx => (HDP.out x hx).1) (fun x hx => (HSP.out x hx).1) (by rw [HK.out]; exact hk) (List.getElem?_eq_getElem hil) (List.getElem?_eq_getElem (show i < S.length by rw [HSL.out]; exact hil))
              rw [hc] at hi
              obtain rfl := Option.some.inj hi
              have := Int.mul_le_mul_of_nonneg_left ps.1 c0
              exact ⟨by omega, by omega⟩)
            rwa [hl, HRL.out] at this
          have HCT : Hid (∀ C vcn w1 g, (C = cntL D S) → OwnI w1 (g + 1) vcn C → ∀ k < K, RI w1 g (cdig D S k) → Calls Try.prog 28 #[.slice (some ⟨g, 0, none⟩) r r, vcn] w1 fun e w' => ∃ b, e = .returned (.bool b) ∧ b = decide (k + 1 < K) ∧ (k + 1 < K → RI w' g (cdig D S (k + 1))) ∧ Kp (· = g) w1 w') := fun C vcn w1 g hC ho k hk hr => by
            rw [hC, cnt_toI (fun x hx => (HDP.out x hx).1) (fun x hx => (HSP.out x hx).1)] at ho
            refine Calls.mono (next_any (cntN D S) (dig (cntN D S) k) g r vcn w1 HNL.out (by rw [dig_length]; exact HNL.out) hr4' HNB.out (fun x hx => ?_) ho hr) (fun e w' h => nx_step HK.out HNP.out hk h)
            obtain ⟨i, hi⟩ := List.getElem?_of_mem hx
            have hil := (List.getElem?_eq_some_iff.1 hi).1
            rw [dig_length] at hil
            have h7 := dig_lt _ k HNP.out (by rw [HK.out]; exact hk) i x _ hi (List.getElem?_eq_getElem hil)
            have h8 := HNB.out _ (List.getElem_mem hil)
            omega
          have HCO : Hid (∀ w1, Below w.heap.size w w1 → Calls Try.prog 29 #[.slice a1 r c1, .slice a2 r c2] w1 fun e w' => ∃ u c, e = .returned (.slice u r c) ∧ OwnI w' w1.heap.size (.slice u r c) (cntL D S) ∧ Below w1.heap.size w1 w') := fun w1 hb => counts_any D S _ _ r w1 (HD.out.below hb) (HS.out.below hb) HRL.out (HSL.out.trans HRL.out) hr4' HDP.out HSP.out
          have HEL : Hid (∀ w1, Below w.heap.size w w1 → Calls Try.prog 30 #[.slice a1 r c1] w1 fun e w' => e = .returned (.tuple #[.int .i64 en, .int .i64 0]) ∧ Below w1.heap.size w1 w') := fun w1 hb => by
            have := refElements_any D _ w1 (HD.out.below hb)
            rwa [HEN.out, f1] at this
          have hK1 : 1 ≤ K := by
            have : 0 < K := by rw [← HK.out]; exact prdN_pos HNP.out
            exact this
          have hK2 : K ≤ 300 := by omega
          obtain ⟨Z, hZ, hmk⟩ := make_rule r hr4'
          have HZ : Hid _ := hZ
          have HSUM : Hid (covT D S K = en) := by rw [Hid, ← HK.out, cov_all HSL.out (fun x hx => (HDP.out x hx).1) (fun x hx => (HSP.out x hx).1), HPE.out]
          have HTB : Hid (∀ k ≤ K, 0 ≤ covT D S k ∧ covT D S k ≤ 900000) := fun k hk => by
            have h9 := covT_bd HSL.out (fun x hx => (HDP.out x hx).1) (fun x hx => (HSP.out x hx).1) k (by rw [HK.out]; exact hk)
            rw [HPE.out] at h9
            have hen0 : 0 ≤ en := by
              have h8 := (prd_take_le (D := D) (fun x hx => (HDP.out x hx).1) 0).2
              rw [List.take_zero, HPE.out, prd] at h8; omega
            have h7 : (k : Int) * en ≤ 300 * 3000 := Int.mul_le_mul (by omega) hen hen0 (by omega)
            omega
          clear hD hS hA e1 e2 e3 f1 f2 f3 s1 s2 hr4 hdd hel hchn h0 hZ
          go_enter Try.func8, Try.ntmps8
          go_wp2_with (first
            | (go_at_call 27; refine (HWI.out _ HB1.out).mono ?_; rintro e w2 ⟨rfl, hb2⟩; have HB2 : Hid (Below w.heap.size w w2) := HB1.out.trans (hb2.mono HB1.out.size); clear hb2)
            | (go_at_call 9; refine HP0.out.mono ?_; rintro e w1 ⟨rfl, hb1⟩; have HB1 : Hid (Below w.heap.size w w1) := hb1; clear hb1))
          go_loopw [9] (fun x wr => ∃ i : Nat, i ≤ r ∧ x = .int .i64 (i : Int) ∧ Hid (Below w.heap.size w wr)) (fun x _ => r - (intOf x).toNat)
          case atStart => exact ⟨0, Nat.zero_le _, rfl, HB2.out⟩
          case round =>
            obtain ⟨i, hin, rfl, HB⟩ := hrel
            rename World => w3
            by_cases hlt : i < r
            · have hili : (i : Int) < (r : Int) := by omega
              have hi0 : (0 : Int) ≤ (i : Int) := by omega
              obtain ⟨b1, p1, x, rfl, hx, _, cx⟩ := (HD.out.below HB.out).at hlt
              obtain ⟨b2, p2, y, rfl, hy, _, cy⟩ := (HS.out.below HB.out).at hlt
              have hx1 := HDP.out x (List.mem_of_getElem? hx)
              have hy1 := HSP.out y (List.mem_of_getElem? hy)
              have dx : decide (x < 1) = false := by simp; omega
              have dy : decide (y < 1) = false := by simp; omega
              clear hx hy
              go_wp2_with fail
              go_roundw
              case rel => exact ⟨i + 1, by omega, by simp, HB.out⟩
              case measure => simp [intOf]; omega
            · obtain rfl : i = r := by omega
              obtain ⟨wC, hwC, hbC, hsC, hgC⟩ := alloc_facts w3 (.cells Z 3)
              obtain ⟨g, hg⟩ : ∃ g, w3.heap.size = g := ⟨_, rfl⟩
              rw [hg] at hgC
              have HRC : Hid (RI wC g (cdig D S 0)) := by
                rw [Hid, cdig, dig_zero, RI, hgC, HZ.out, HNL.out]
                simp [toI]
              have HBC : Hid (Below w.heap.size w wC) := HB.out.trans (hbC.mono HB.out.size)
              have HGL : Hid (w.heap.size ≤ g ∧ g < wC.heap.size) := ⟨by rw [← hg]; exact HB.out.size, by omega⟩
              clear hbC hsC hgC
              go_wp2_with fail
              go_loopw [13, 10, 11] (fun x y z wr => ∃ (k : Nat) (b : Bool) (T kz : Int), k ≤ K ∧ (k : Int) = kz ∧ Hid (b = decide (k < K)) ∧ x = .bool b ∧ y = .int .i64 T ∧ Hid (T = covT D S k) ∧ z = .int .i64 kz ∧ Hid (k < K → RI wr g (cdig D S k)) ∧ Hid (Below w.heap.size w wr ∧ g < wr.heap.size)) (fun _ _ z _ => K - (intOf z).toNat)
              case atStart => exact ⟨0, true, 0, 0, Nat.zero_le _, rfl, by simp [Hid]; omega, rfl, rfl, rfl, rfl, fun _ => HRC.out, HBC.out, HGL.out.2⟩
              case round =>
                obtain ⟨k, b, T, kz, hkK, hkz, HBO, rfl, rfl, HT, rfl, HRG, HBW⟩ := hrel
                rename World => w6
                clear HRC HBC hwC
                cases b with
                | true =>
                  have hk : k < K := of_decide_eq_true HBO.out.symm
                  have HRK : Hid (RI w6 g (cdig D S k)) := HRG.out hk
                  have HCLI : Hid _ := HCP.out (cdig D S k) (.slice (some ⟨g, 0, none⟩) i i) w6 HBW.out.1 (HCD.out k hk w6 g HRK.out) (by rw [cdig_length HSL.out, HRL.out]) (cdig_nn k)
                  have hTb := HTB.out k hkK
                  rw [← HT.out] at hTb
                  clear HRG
                  go_wp2_with (go_at_call 15; refine Calls.mono HCLI.out ?_; rintro e w7 ⟨u1, uc1, u2, uc2, rfl, hu1, hu2, hb7⟩; have HU1 : Hid (Is w7 (.slice u1 i uc1) (clS D S (cdig D S k))) := hu1; have HU2 : Hid (Is w7 (.slice u2 i uc2) (clB D S (cdig D S k))) := hu2; have HB7 : Hid (Below w6.heap.size w6 w7) := hb7; clear hu1 hu2 hb7)
                  have HBW7 : Hid (Below w.heap.size w w7) := HBW.out.1.trans (HB7.out.mono HBW.out.1.size)
                  have HR7 : Hid (RI w7 g (cdig D S k)) := HRK.out.of_block (HB7.out.block _ HBW.out.2)
                  have HG7 : Hid (g < w7.heap.size) := Nat.lt_of_lt_of_le HBW.out.2 HB7.out.size
                  clear HCLI HRK
                  go_loopw [18, 17] (fun x y wr => ∃ (j : Nat) (p : Int), j ≤ i ∧ x = .int .i64 (j : Int) ∧ y = .int .i64 p ∧ Hid (p = prd ((clB D S (cdig D S k)).take j)) ∧ 1 ≤ p ∧ p ≤ 3000 ∧ Hid (Below w7.heap.size w7 wr)) (fun x _ _ => i - (intOf x).toNat)
                  case atStart => exact ⟨0, 1, Nat.zero_le _, rfl, rfl, by simp [Hid, prd], by omega, by omega, Below.refl _ _⟩
                  case round =>
                    obtain ⟨j, p, hjn, rfl, rfl, HP, hp1, hp2, HBJ⟩ := hrel
                    rename World => w8
                    have HBW8 : Hid (Below w.heap.size w w8) := HBW7.out.trans (HBJ.out.mono HBW7.out.size)
                    have HR8 : Hid (RI w8 g (cdig D S k)) := HR7.out.of_block (HBJ.out.block _ HG7.out)
                    by_cases hlt2 : j < i
                    · have hili : (j : Int) < (i : Int) := by omega
                      have hj0 : (0 : Int) ≤ (j : Int) := by omega
                      obtain ⟨b1, p1, x, rfl, hx, _, cx⟩ := (HD.out.below HBW8.out).at hlt2
                      obtain ⟨b2, p2, y, rfl, hy, _, cy⟩ := (HS.out.below HBW8.out).at hlt2
                      obtain ⟨b3, p3, su, rfl, hsu, _, csu⟩ := (HU1.out.below HBJ.out).at hlt2
                      obtain ⟨b4, p4, sb, rfl, hsb, _, csb⟩ := (HU2.out.below HBJ.out).at hlt2
                      obtain ⟨c, hc, c0, c4, hcs, bx, hbx, hb1, hb2⟩ := cov_at HSL.out (fun x hx => (HDP.out x hx).1) (fun x hx => (HSP.out x hx).1) (by rw [HK.out]; exact hk) hx hy
                      rw [hcs] at hsu
                      rw [hbx] at hsb
                      obtain rfl := Option.some.inj hsu
                      obtain rfl := Option.some.inj hsb
                      have cc := HR8.out.cell hc
                      have hx1 := HDP.out x (List.mem_of_getElem? hx)
                      have hy1 := HSP.out y (List.mem_of_getElem? hy)
                      have hcy0 := Int.mul_nonneg c0 (show 0 ≤ y by omega)
                      have HTK : Hid (prd ((clB D S (cdig D S k)).take (j + 1)) = p * bx) := by
                        rw [Hid, cov_snoc hbx, prd_append, ← HP.out]; simp [prd]
                      have hbd := clB_take HSL.out (fun x hx => (HDP.out x hx).1) (fun x hx => (HSP.out x hx).1) (show k < prdN (cntN D S) by rw [HK.out]; exact hk) (j + 1)
                      rw [HTK.out, HPE.out] at hbd
                      obtain ⟨cs, hcse⟩ : ∃ cs, c * y = cs := ⟨_, rfl⟩
                      obtain ⟨pq, hpq⟩ : ∃ pq, p * bx = pq := ⟨_, rfl⟩
                      rw [hcse] at csu hcy0 hb2
                      rw [hpq] at hbd HTK
                      have hwc : IntKind.i64.wrap (c * y) = cs := by rw [hcse]; exact wrap_i64_in _ (by omega) (by omega)
                      have hwp : IntKind.i64.wrap (p * bx) = pq := by rw [hpq]; exact wrap_i64_in _ (by omega) (by omega)
                      obtain ⟨se, hse⟩ : ∃ se, cs + bx = se := ⟨_, rfl⟩
                      have hws : IntKind.i64.wrap (cs + bx) = se := by rw [hse]; exact wrap_i64_in _ (by omega) (by omega)
                      have d1 : decide (bx < 1) = false := by simp; omega
                      have d2 : decide (x < se) = false := by simp; omega
                      have dne : (cs != cs) = false := by simp
                      clear hx hy hcs hsu hbx hsb hc hcse hpq hse
                      go_wp2_with fail
                      go_quiet (fail)
                      go_wp2_with fail
                      go_roundw
                      case rel => exact ⟨j + 1, pq, by omega, by simp, rfl, HTK.out.symm, by omega, by omega, below_dN HBJ.out HBJ.out.size _⟩
                      case measure => simp [intOf]; omega
                    · obtain rfl : j = i := by omega
                      have HPA : Hid (prd (clB D S (cdig D S k)) = p) := by
                        have h9 := HP.out
                        rw [List.take_of_length_le (by rw [clB_length D S _ HSL.out (cdig_length HSL.out k), HRL.out]; exact Nat.le_refl _)] at h9
                        exact h9.symm
                      obtain ⟨T2, hT2⟩ : ∃ T2, T + p = T2 := ⟨_, rfl⟩
                      have HT2 : Hid (T2 = covT D S (k + 1)) := by rw [Hid, covT, HPA.out, ← HT.out, hT2]
                      obtain ⟨kz2, hkz2⟩ : ∃ kz2, kz + 1 = kz2 := ⟨_, rfl⟩
                      have hwT : IntKind.i64.wrap (T + p) = T2 := by rw [hT2]; exact wrap_i64_in _ (by omega) (by omega)
                      have hwk : IntKind.i64.wrap (kz + 1) = kz2 := by rw [hkz2]; exact wrap_i64_in _ (by omega) (by omega)
                      have HG8 : Hid (g < w8.heap.size) := Nat.lt_of_lt_of_le HG7.out HBJ.out.size
                      have HC8 : Hid _ := HCO.out w8 HBW8.out
                      clear hT2
                      go_wp2_with (first
                        | (have hgd := HO9; clear hgd; go_at_call 28; refine Calls.mono (HCT.out _ _ _ _ rfl HO9.out k hk HR9.out) ?_; rintro e w10 ⟨b', rfl, hbe, hrn, hkp⟩; have HBE : Hid (b' = decide (k + 1 < K)) := hbe; have HRN : Hid (k + 1 < K → RI w10 g (cdig D S (k + 1))) := hrn; have HB10 : Hid (Below w.heap.size w w10 ∧ g < w10.heap.size) := ⟨HB9.out.trans (hkp.below HB9.out.size (fun x e => by rw [e]; exact HGL.out.1)), Nat.lt_of_lt_of_le HG9.out hkp.size⟩; clear hbe hrn hkp)
                        | (go_at_call 29; refine Calls.mono HC8.out ?_; rintro e w9 ⟨u9, c9, rfl, ho9, hb9⟩; have HO9 : Hid (OwnI w9 (g + 1) (.slice u9 j c9) (cntL D S)) := ho9.mono HG8.out; have HR9 : Hid (RI w9 g (cdig D S k)) := HR8.out.of_block (hb9.block _ HG8.out); have HB9 : Hid (Below w.heap.size w w9) := HBW8.out.trans (hb9.mono HBW8.out.size); have HG9 : Hid (g < w9.heap.size) := Nat.lt_of_lt_of_le HG8.out hb9.size; clear ho9 hb9))
                      go_roundw
                      case rel => exact ⟨k + 1, b', T2, kz2, by omega, by omega, HBE.out, rfl, rfl, HT2.out, rfl, HRN.out, HB10.out⟩
                      case measure => simp [intOf]; omega
                | false =>
                  have hkE : k = K := by have h9 := of_decide_eq_false HBO.out.symm; omega
                  have HTE : Hid (T = en) := by rw [Hid, HT.out, hkE, HSUM.out]
                  obtain rfl : kz = cn := by omega
                  rw [HTE.out]
                  have HBQ : Hid (Below w.heap.size w w6) := HBW.out.1
                  have HE6 : Hid _ := HEL.out w6 HBW.out.1
                  have dne1 : (en != en) = false := by simp
                  have dne2 : (kz != kz) = false := by simp
                  clear HT HTE HRG HBW HBO HTB HCT HCO hkE hkK
                  by_cases hm : m3 = i
                  · subst hm
                    go_wp2_with (go_at_call 30; refine Calls.mono HE6.out ?_; rintro e w7 ⟨rfl, hb7⟩; have HB7 : Hid (Below w.heap.size w w7) := HBQ.out.trans (hb7.mono HBQ.out.size); clear hb7; obtain ⟨wD, hwD, hbD, hsD, hgD⟩ := alloc_facts w7 (.cells Z 3); have HRD : Hid (RI wD w7.heap.size (fillI m3 0 (modL A D))) := (by rw [Hid, fillI_zero, RI, hgD, HZ.out]); have HBD : Hid (Below w.heap.size w wD) := HB7.out.trans (hbD.mono HB7.out.size); have HGO : Hid (w.heap.size ≤ w7.heap.size) := HB7.out.size; clear hbD hsD hgD)
                    obtain ⟨go, hgo⟩ : ∃ go, w7.heap.size = go := ⟨_, rfl⟩
                    rw [hgo] at HRD HGO
                    have HLO : Hid ((modL A D).length = m3) := modL_length HAL.out HRL.out
                    go_loopw [22] (fun x wr => ∃ j : Nat, j ≤ m3 ∧ x = .int .i64 (j : Int) ∧ Hid (RI wr go (fillI m3 j (modL A D))) ∧ Hid (Below w.heap.size w wr)) (fun x _ => m3 - (intOf x).toNat)
                    case atStart => exact ⟨0, Nat.zero_le _, rfl, HRD.out, HBD.out⟩
                    case round =>
                      obtain ⟨j, hjn, rfl, HRJ, HBJ⟩ := hrel
                      rename World => w8
                      by_cases hlt2 : j < m3
                      · have hili : (j : Int) < (m3 : Int) := by omega
                        have hj0 : (0 : Int) ≤ (j : Int) := by omega
                        obtain ⟨b1, p1, x, rfl, hx, _, cx⟩ := (HD.out.below HBJ.out).at hlt2
                        obtain ⟨b3, p3, a, rfl, ha, har, ca⟩ := (HA.out.below HBJ.out).at hlt2
                        have n1 : b1 ≠ go := by
                          obtain ⟨b, o, x', e, _, _, c⟩ := HD.out.at hlt2
                          injection e with e; injection e with e e'; subst e
                          have := World.block_lt_of_cell? w _ c
                          have h8 := HGO.out
                          simp only [] at this
                          omega
                        have n3 : b3 ≠ go := by
                          obtain ⟨b, o, x', e, _, _, c⟩ := HA.out.at hlt2
                          injection e with e; injection e with e e'; subst e
                          have := World.block_lt_of_cell? w _ c
                          have h8 := HGO.out
                          simp only [] at this
                          omega
                        have hx1 := HDP.out x (List.mem_of_getElem? hx)
                        obtain ⟨q1, q2, q3⟩ := own_mod (a := a) hx1.1
                        have hov := modL_at ha hx
                        have v0 := Int.emod_nonneg a (show x ≠ 0 by omega)
                        have v1 := Int.emod_lt_of_pos a (show 0 < x by omega)
                        obtain ⟨o, ho⟩ : ∃ o, a % x = o := ⟨_, rfl⟩
                        rw [ho] at q1 hov v0 v1
                        obtain ⟨tm, htm⟩ : ∃ tm, a.tmod x = tm := ⟨_, rfl⟩
                        rw [htm] at q1 q2 q3
                        obtain ⟨ts, hts⟩ : ∃ ts, tm + x = ts := ⟨_, rfl⟩
                        rw [hts] at q1
                        have hw1 : IntKind.i64.wrap tm = tm := wrap_i64_in _ (by omega) (by omega)
                        have hw2 : IntKind.i64.wrap (tm + x) = ts := by rw [hts]; exact wrap_i64_in _ (by omega) (by omega)
                        have hw3 : IntKind.i64.wrap o = o := wrap_i64_in _ (by omega) (by omega)
                        have hxz : (x == 0) = false := by simpa using (by omega : x ≠ 0)
                        have hxn : x ≠ 0 := by omega
                        have hxm : x ≠ -1 := by omega
                        have f1 := HRJ.out.free j
                        have q8 := HRJ.out.cell (fillI_at HLO.out hlt2)
                        obtain ⟨w9, hw9⟩ : ∃ w9, w8.drew.setCell ⟨go, j, none⟩ (.int .i64 o) = w9 := ⟨_, rfl⟩
                        have HR9 : Hid (RI w9 go (fillI m3 (j + 1) (modL A D))) := by
                          rw [← hw9, Hid, ← fillI_set HLO.out hlt2 hov]
                          exact (show RI w8.drew go _ from HRJ.out).set j o
                        have HB9 : Hid (Below w.heap.size w w9) := by rw [← hw9]; exact HBJ.out.drew.setCell HGO.out _
                        clear hx ha hov ho hts har
                        go_wp2_with fail
                        go_region
                        all_goals
                          go_wp2_with fail
                          go_roundw
                          case rel => exact ⟨j + 1, by omega, by simp, HR9.out, HB9.out⟩
                          case measure => simp [intOf]; omega
                      · obtain rfl : j = m3 := by omega
                        have HONN : Hid (∀ x ∈ modL A D, 0 ≤ x ∧ x ≤ 1048576) := fun x hx => by
                          obtain ⟨i', hi⟩ := List.getElem?_of_mem hx
                          rw [modL, List.getElem?_zipWith] at hi
                          cases t1 : A[i']? with
                          | none => rw [t1] at hi; simp at hi
                          | some a =>
                            cases t2 : D[i']? with
                            | none => rw [t1, t2] at hi; simp at hi
                            | some n =>
                              rw [t1, t2] at hi
                              simp only [Option.some.injEq] at hi
                              have p1 := HDP.out n (List.mem_of_getElem? t2)
                              have v0 := Int.emod_nonneg a (show n ≠ 0 by omega)
                              have v1 := Int.emod_lt_of_pos a (show 0 < n by omega)
                              omega
                        have HIO : Hid (Is w8 (.slice (some ⟨go, 0, none⟩) j j) (modL A D)) := by
                          have h9 := HRJ.out
                          rw [fillI_all HLO.out] at h9
                          have h8 := h9.is (by rw [HLO.out]; omega) (fun x hx => by have := HONN.out x hx; exact ⟨by omega, by omega⟩)
                          rwa [HLO.out] at h8
                        have HOF : Hid _ := of_yes _ _ w8 HIO.out (HS.out.below HBJ.out) HLO.out hr4' HSH.out (fun x hx => (HONN.out x hx).1)
                        have HDL : Hid ((divL (modL A D) S).length = j) := divL_length HLO.out (HSL.out.trans HRL.out)
                        have HDN : Hid (∀ x ∈ divL (modL A D) S, 0 ≤ x) := fun x hx => by
                          obtain ⟨i', hi⟩ := List.getElem?_of_mem hx
                          rw [divL, List.getElem?_zipWith] at hi
                          cases t1 : (modL A D)[i']? with
                          | none => rw [t1] at hi; simp at hi
                          | some a =>
                            cases t2 : S[i']? with
                            | none => rw [t1, t2] at hi; simp at hi
                            | some n =>
                              rw [t1, t2] at hi
                              simp only [Option.some.injEq] at hi
                              have p1 := HSP.out n (List.mem_of_getElem? t2)
                              have p2 := HONN.out a (List.mem_of_getElem? t1)
                              rw [← hi]
                              exact Int.ediv_nonneg (by omega) (by omega)
                        go_wp2_with (first
                          | (have hgd := HV9; clear hgd; go_at_call 15; refine Calls.mono (HCP.out (divL (modL A D) S) _ _ HB9.out HV9.out.1 HDL.out HDN.out) ?_; rintro e w10 ⟨x1, xc1, x2, xc2, rfl, hx1, hx2, hb10⟩; have HX : Hid (Is w10 (.slice x1 j xc1) (clS D S (divL (modL A D) S)) ∧ Is w10 (.slice x2 j xc2) (clB D S (divL (modL A D) S))) := ⟨hx1, hx2⟩; have HV10 : Hid (Is w10 (.slice y2 j yc2) (modL (modL A D) S) ∧ Is w10 (.slice (some ⟨go, 0, none⟩) j j) (modL A D)) := ⟨HV9.out.2.1.below hb10, HV9.out.2.2.below hb10⟩; have HB10 : Hid (Below w.heap.size w w10) := HB9.out.trans (hb10.mono HB9.out.size); clear hx1 hx2 hb10)
                          | (go_at_call 11; refine Calls.mono HOF.out ?_; rintro e w9 ⟨y1, yc1, y2, yc2, rfl, hy1, hy2, hb9⟩; have HV9 : Hid (Is w9 (.slice y1 j yc1) (divL (modL A D) S) ∧ Is w9 (.slice y2 j yc2) (modL (modL A D) S) ∧ Is w9 (.slice (some ⟨go, 0, none⟩) j j) (modL A D)) := ⟨hy1, hy2, HIO.out.below hb9⟩; have HB9 : Hid (Below w.heap.size w w9) := HBJ.out.trans (hb9.mono HBJ.out.size); clear hy1 hy2 hb9))
                        go_loopw [29] (fun x wr => ∃ l : Nat, l ≤ j ∧ x = .int .i64 (l : Int) ∧ Hid (Below w10.heap.size w10 wr)) (fun x _ => j - (intOf x).toNat)
                        case atStart => exact ⟨0, Nat.zero_le _, rfl, Below.refl _ _⟩
                        case round =>
                          obtain ⟨l, hln, rfl, HBL⟩ := hrel
                          rename World => w11
                          have HB11 : Hid (Below w.heap.size w w11) := HB10.out.trans (HBL.out.mono HB10.out.size)
                          by_cases hlt3 : l < j
                          · have hili : (l : Int) < (j : Int) := by omega
                            have hl0 : (0 : Int) ≤ (l : Int) := by omega
                            have hx := List.getElem?_eq_getElem (show l < D.length by rw [HRL.out]; exact hlt3)
                            have hy := List.getElem?_eq_getElem (show l < S.length by rw [HSL.out, HRL.out]; exact hlt3)
                            have ha := List.getElem?_eq_getElem (show l < A.length by rw [HAL.out]; exact hlt3)
                            have hx1 := HDP.out _ (List.mem_of_getElem? hx)
                            have hy1 := HSP.out _ (List.mem_of_getElem? hy)
                            obtain ⟨o, c, h1, h2, h3, h4, h5, h6, h7, h8, bx, h9, h10⟩ := own_at ha hx hy hx1.1 hy1.1
                            obtain ⟨b1, p1, o', ep1, ho', _, co⟩ := (HV10.out.2.below HBL.out).at hlt3
                            obtain ⟨b2, p2, ir, rfl, hir, _, ci⟩ := (HV10.out.1.below HBL.out).at hlt3
                            obtain ⟨b3, p3, su, rfl, hsu, _, csu⟩ := (HX.out.1.below HBL.out).at hlt3
                            obtain ⟨b4, p4, sb, rfl, hsb, _, csb⟩ := (HX.out.2.below HBL.out).at hlt3
                            injection ep1 with ep1; injection ep1 with ep1 ep2; subst ep1 ep2
                            rw [h1] at ho'
                            obtain rfl := Option.some.inj ho'
                            rw [h5] at hir
                            rw [h6] at hsu
                            rw [h9] at hsb
                            obtain rfl := Option.some.inj hsb
                            have eir : _ = ir := Option.some.inj hir
                            have esu : _ = su := Option.some.inj hsu
                            rw [eir] at h7 h8 h10
                            rw [esu] at h8
                            rw [Nat.zero_add] at co
                            have hws : IntKind.i64.wrap (su + ir) = o := by rw [← h8]; exact wrap_i64_in _ (by omega) (by omega)
                            have d1 : decide (ir ≥ bx) = false := by simp; omega
                            have d1' : decide (bx ≤ ir) = false := by simp; omega
                            have dne : (o != o) = false := by simp
                            clear hx hy ha hx1 hy1 h1 h4 h5 h6 h9 ho' hir hsu hsb eir esu h8 h10
                            go_wp2_with fail
                            go_quiet (fail)
                            go_wp2_with fail
                            go_roundw
                            case rel => exact ⟨l + 1, by omega, by simp, below_dN HBL.out HBL.out.size _⟩
                            case measure => simp [intOf]; omega
                          · obtain rfl : l = j := by omega
                            go_wp2_with (go_at_call 14; refine (lives13_any _).mono ?_; rintro e w12 ⟨rfl, hb12⟩; have HB12 : Hid (Below w.heap.size w w12) := HB11.out.trans (hb12.mono HB11.out.size); clear hb12)
                            go_ret
                            exact ⟨rfl, HB12.out⟩
                  · have dm : ((m3 : Int) != (i : Int)) = true := by simp; omega
                    go_wp2_with (first
                      | (have hgd := HB7; clear hgd; go_at_call 14; refine (lives13_any _).mono ?_; rintro e w8 ⟨rfl, hb8⟩; have HB8 : Hid (Below w.heap.size w w8) := HB7.out.trans (hb8.mono HB7.out.size); clear hb8)
                      | (go_at_call 30; refine Calls.mono HE6.out ?_; rintro e w7 ⟨rfl, hb7⟩; have HB7 : Hid (Below w.heap.size w w7) := HBQ.out.trans (hb7.mono HBQ.out.size); clear hb7))
                    go_ret
                    exact ⟨rfl, HB8.out⟩
  · have HV : Hid (cn = 0) := by rw [Hid, ← HCN.out, chN, HCE.out, if_neg h1]
    rw [HV.out] at HP0
    have b2 : (ce != 0) = true := by simpa using h1
    have b3 : (ce == 0) = false := by simpa using h1
    clear hD hS hA e1 e2 e3
    go_enter Try.func8, Try.ntmps8
    go_wp2_with (first
      | (have hg := HB1; clear hg; go_at_call 14; refine (lives13_any _).mono ?_; rintro e w5 ⟨rfl, hb5⟩; have HB5 : Hid (Below w.heap.size w w5) := HB1.out.trans (hb5.mono HB1.out.size); clear hb5)
      | (go_at_call 9; refine HP0.out.mono ?_; rintro e w1 ⟨rfl, hb1⟩; have HB1 : Hid (Below w.heap.size w w1) := hb1; clear hb1))
    go_ret
    exact ⟨rfl, HB5.out⟩
end Go.Proofs.Ytmefpnpfapochaa

/-
  The walk of BtreeBetween. Conditions: none but what memory bears.
-/
import Derived.Test.YtggbbmbnbhiggaaBKid
import Derived.Test.YtggbbmbnbhiggaaBLives
namespace Go.Proofs.Ytggbbmbnbhiggaa
open Go.RowKit
set_option linter.unusedVariables false
set_option maxRecDepth 100000

set_option maxHeartbeats 8000000 in
theorem btreeBetween_walk (most : Int) (v : Value) (Q : List A7) (w : World) (hm : (Lit.int .u64 most).wf = true) (hA : As7 w v Q) (hQ : Q.length ≤ 140737488351232) : Calls Try.prog 7 #[.int .u64 most, v] w fun e w' => e = .returned (.bool true) ∧ Below w.heap.size w w' := by
  have hm0 : 0 ≤ most ∧ most ≤ 18446744073709551615 := by simpa [Lit.wf, IntKind.min, IntKind.max, IntKind.signed, IntKind.bits] using hm
  obtain ⟨mm, HMM⟩ : ∃ mm : Nat, Hid ((mm : Int) = 3 + most % 62) := ⟨(3 + most % 62).toNat, by unfold Hid; omega⟩
  have hmm3 : 3 ≤ mm := by have := HMM.out; omega
  have hmm64 : mm ≤ 64 := by have := HMM.out; omega
  have e1 : 3 + most % 62 = (mm : Int) := HMM.out.symm
  have HPL : Hid _ := played_any hA hQ mm hmm3 hmm64
  clear hA hQ hm
  go_enter Try.func7, Try.ntmps7
  go_wp2_with (first
    | (have hg := HT1; clear hg; go_at_call 25; refine Calls.mono (nodes_any hmm3 hmm64 HT1.out HB1.out.size (by have := HF1.out; omega) HZ1.out) ?_; rintro e w2 ⟨vN, es, rfl, hn2, ht2, hb2⟩; obtain ⟨ao, cap, rfl, hce⟩ := ht2.ents; have HN2 : Hid (NdsP mm F es) := hn2; have HT2 : Hid (BT w2 w.heap.size p q mm F (rowE (.slice ao es.length cap) es :: (kp es ++ []))) := ht2; have HB2 : Hid (Below w.heap.size w w2) := HB1.out.trans hb2; have HCE : Hid (∀ (i : Nat) (e : En), es[i]? = some e → ∃ g, ao = some ⟨g, 0, none⟩ ∧ w2.cell? ⟨g, i * 3, none⟩ = some (.int .i64 e.1) ∧ w2.cell? ⟨g, i * 3 + 1, none⟩ = some (.bool e.2.1) ∧ w2.cell? ⟨g, i * 3 + 2, none⟩ = some e.2.2.1 ∧ Ss w2 e.2.2.1 e.2.2.2) := hce; clear hn2 ht2 hb2 hce)
    | (go_at_call 26; refine Calls.mono HPL.out ?_; rintro e w1 ⟨p, q, rfl, hp1⟩; obtain ⟨F, ht1, hf1, hz1, hb1⟩ := hp1; have HT1 : Hid (BT w1 w.heap.size p q mm F []) := ht1; have HF1 : Hid (F.length ≤ 300) := hf1; have HZ1 : Hid (∀ y ∈ F, y.1.size ≤ 281474976710656) := hz1; have HB1 : Hid (Below w.heap.size w w1) := hb1; clear ht1 hf1 hz1 hb1))
  clear HPL HT1 HB1 HZ1
  have HRS : Hid (Rise F) := HT2.out.2
  obtain ⟨H, hsf⟩ := sfacts HN2.out hmm3 HF1.out
  have HSF : Hid (SFacts mm F es H) := hsf
  obtain ⟨en, HEN⟩ : ∃ en, Hid (es.length = en) := ⟨_, rfl⟩
  have hen : en ≤ 300 := by
    rw [← HEN.out]
    rcases HN2.out with ⟨_, h9⟩ | ⟨_, h, t, lo, hs, hlo, hF, hes⟩
    · rw [h9]; simp
    · have h8 := congrArg List.length hes
      have h7 := cnt_le (by omega) (h + 1) (up1 t) 0 lo hs hlo
      rw [hF] at h7
      rw [List.length_map] at h8
      unfold cntN at h7
      have := HF1.out
      omega
  have HKID : Hid (∀ (W : World) (i : Nat) (e : En) (cs : List Nat), Below w2.heap.size w2 W → es[i]? = some e → kidsF e.1 (i + 1) ((es.map (fun e => e.1)).drop (i + 1)) = cs → Calls Try.prog 27 #[.slice ao en cap, .int .i64 (i : Int)] W fun x w' => ∃ v, x = .returned v ∧ w'.ownsRow W.heap.size 3 1 v cs.length (gc encK cs) ∧ Below W.heap.size W w') := by
    intro W i e cs hW he hcs
    rw [← HEN.out]
    exact kids_any (fun j e' he' => by obtain ⟨g, hg, c0, _⟩ := HCE.out j e' he'; exact ⟨g, hg, (hW.cell (World.block_lt_of_cell? w2 _ c0)).trans c0⟩) (by have := HEN.out; omega) (fun j e' he' => by obtain ⟨_, _, _, _, _, f6, f7, _⟩ := HSF.out.2.1 j e' he'; exact ⟨f6, by omega⟩) he hcs
  have HKF : Hid (∀ (i : Nat) (e : En), es[i]? = some e → ∃ cs, KFacts es i e cs) := fun i e he => kfacts HN2.out hmm3 HRS.out he
  have HLEN : Hid (∀ (i : Nat) (e : En), es[i]? = some e → e.2.2.2.length ≤ 64) := fun i e he => by obtain ⟨_, f2, _⟩ := HSF.out.2.1 i e he; omega
  rw [HEN.out]
  clear hsf HT2 HN2 HSF HRS HF1
  go_loopw [6] (fun x wr => ∃ i : Nat, i ≤ en ∧ x = .int .i64 (i : Int) ∧ Hid (Below w2.heap.size w2 wr)) (fun x _ => en - (intOf x).toNat)
  case atStart => exact ⟨0, Nat.zero_le _, rfl, Below.refl _ _⟩
  case round =>
    obtain ⟨i, hie, rfl, HBr⟩ := hrel
    by_cases hlt : i < en
    · obtain ⟨e, he⟩ : ∃ e, es[i]? = some e := ⟨es[i]'(by rw [HEN.out]; exact hlt), List.getElem?_eq_getElem _⟩
      obtain ⟨cs, hkf⟩ := HKF.out i e he
      have HK : Hid _ := HKID.out wr i e cs HBr.out he hkf.1
      obtain ⟨g, rfl, c0, c1, c2, hss⟩ := HCE.out i e he
      obtain ⟨kao, kcap, hkv, hkc⟩ := hss
      rw [hkv] at c2
      obtain ⟨lf, HLF⟩ : ∃ lf, Hid (e.2.1 = lf) := ⟨_, rfl⟩
      obtain ⟨nn, HNn⟩ : ∃ nn, Hid (e.2.2.2.length = nn) := ⟨_, rfl⟩
      obtain ⟨cn, HCn⟩ : ∃ cn, Hid (cs.length = cn) := ⟨_, rfl⟩
      rw [HLF.out] at c1
      rw [HNn.out] at c2
      have hnn : nn ≤ 64 := by rw [← HNn.out]; exact HLEN.out i e he
      have hlf : (lf = true ∧ cn = 0) ∨ (lf = false ∧ cn = nn + 1) := by
        cases hl : lf with
        | true => exact .inl ⟨rfl, by rw [← HCn.out]; exact hkf.2.1 (by rw [HLF.out, hl])⟩
        | false => exact .inr ⟨rfl, by rw [← HCn.out, ← HNn.out]; exact hkf.2.2.1 (by rw [HLF.out, hl])⟩
      have HC1 : Hid (w2.cell? ⟨g, i * 3 + 1, none⟩ = some (.bool lf)) := c1
      have HC2 : Hid (w2.cell? ⟨g, i * 3 + 2, none⟩ = some (.slice kao nn kcap)) := c2
      have HKC : Hid (∀ (k : Nat) (s : ByteArray), e.2.2.2[k]? = some s → ∃ g o, kao = some ⟨g, o, none⟩ ∧ w2.cell? ⟨g, o + k, none⟩ = some (.string s)) := hkc
      have HKK : Hid (∀ k c, cs[k]? = some c → c < es.length ∧ ∃ e', es[c]? = some e' ∧ 1 ≤ e'.2.2.2.length ∧ ∀ y ∈ e'.2.2.2, (∀ j x, e.2.2.2[j]? = some x → j + 1 = k → cmpN x y < 0) ∧ (∀ x, e.2.2.2[k]? = some x → cmpN y x < 0)) := hkf.2.2.2
      have hili : (i : Int) < (en : Int) := by omega
      clear c0 c1 c2 hkv hkc hkf he HKID HKF
      go_upto_region 6 with (go_at_call 27; refine Calls.mono HK.out ?_; rintro e3 w3 ⟨v3, rfl, ho3, hb3⟩; obtain ⟨aoC, capC, hvC⟩ := row_slice ho3; subst hvC; have HB3 : Hid (Below w2.heap.size w2 w3) := HBr.out.trans (hb3.mono HBr.out.size); have HO3 : Hid (w3.ownsRow wr.heap.size 3 1 (.slice aoC cs.length capC) cs.length (gc encK cs)) := ho3; clear ho3 hb3)
      rw [HCn.out] at HO3 ⊢
      have c1 : w3.cell? ⟨g, i * 3 + 1, none⟩ = some (.bool lf) := (HB3.out.cell (World.block_lt_of_cell? w2 _ HC1.out)).trans HC1.out
      have c2 : w3.cell? ⟨g, i * 3 + 2, none⟩ = some (.slice kao nn kcap) := (HB3.out.cell (World.block_lt_of_cell? w2 _ HC2.out)).trans HC2.out
      clear HK HBr
      go_cut [55] (fun t wc => t = .bool false ∧ Hid (wc = w3))
      case first =>
        rcases hlf with ⟨rfl, rfl⟩ | ⟨rfl, rfl⟩
        · go_wp2_with fail
          go_meet
          exact ⟨rfl, rfl⟩
        · go_wp2_with fail
          go_meet
          exact ⟨by simp, rfl⟩
      case rest =>
        obtain ⟨rfl, hwc⟩ := hcut
        obtain rfl := hwc.out
        clear c1 c2 hwc
        have hcn : cn ≤ 65 := by rcases hlf with ⟨_, h⟩ | ⟨_, h⟩ <;> omega
        have HCC : Hid (∀ (W : World) (k : Nat) (c : Nat), Below wc.heap.size wc W → cs[k]? = some c → ∃ gc, aoC = some ⟨gc, 0, none⟩ ∧ W.cell? ⟨gc, k, none⟩ = some (.int .i64 (c : Int))) := by
          intro W k c hW hc
          have h1 := (List.getElem?_eq_some_iff.1 hc).1
          obtain ⟨g9, cap9, hg9, _, _, _, _, _, hgc⟩ := row_some HO3.out (by have := HCn.out; omega)
          injection hg9 with e1 e2 e3
          have h2 := hgc _ _ (gc_at encK_len cs k c hc 0 _ rfl)
          have h3 : wc.cell? ⟨g9, k, none⟩ = some (.int .i64 (c : Int)) := by simpa using h2
          exact ⟨g9, e1, (hW.cell (World.block_lt_of_cell? wc _ h3)).trans h3⟩
        go_wp2_with fail
        go_loopw [8] (fun x wr' => ∃ k : Nat, k ≤ cn ∧ x = .int .i64 (k : Int) ∧ Hid (Below wc.heap.size wc wr')) (fun x _ => cn - (intOf x).toNat)
        case atStart => exact ⟨0, Nat.zero_le _, rfl, Below.refl _ _⟩
        case round =>
          obtain ⟨k, hkn, rfl, HBk⟩ := hrel
          have HB2k : Hid (Below w2.heap.size w2 wr) := HB3.out.trans (HBk.out.mono HB3.out.size)
          by_cases hkl : k < cn
          · obtain ⟨c, hc⟩ : ∃ c, cs[k]? = some c := ⟨cs[k]'(by rw [HCn.out]; exact hkl), List.getElem?_eq_getElem _⟩
            obtain ⟨gC, rfl, x0⟩ := HCC.out wr k c HBk.out hc
            obtain ⟨hce, e', he', hl1, hbt⟩ := HKK.out k c hc
            obtain ⟨g', hg', _, _, d2, hss'⟩ := HCE.out c e' he'
            cases hg'
            obtain ⟨kao', kcap', hkv', hkc'⟩ := hss'
            rw [hkv'] at d2
            have hnx0 := HLEN.out c e' he'
            obtain ⟨nx, HNx⟩ : ∃ nx, Hid (e'.2.2.2.length = nx) := ⟨_, rfl⟩
            rw [HNx.out] at d2 hl1 hnx0
            have hcen : (c : Int) < (en : Int) := by have := HEN.out; omega
            have y2 : wr.cell? ⟨g, c * 3 + 2, none⟩ = some (.slice kao' nx kcap') := (HB2k.out.cell (World.block_lt_of_cell? w2 _ d2)).trans d2
            have z2 : wr.cell? ⟨g, i * 3 + 2, none⟩ = some (.slice kao nn kcap) := (HB2k.out.cell (World.block_lt_of_cell? w2 _ HC2.out)).trans HC2.out
            obtain ⟨s0, hs0⟩ : ∃ s, e'.2.2.2[0]? = some s := ⟨e'.2.2.2[0]'(by rw [HNx.out]; omega), List.getElem?_eq_getElem _⟩
            obtain ⟨lx, HLX⟩ : ∃ lx, Hid (nx = lx + 1) := ⟨nx - 1, by unfold Hid; omega⟩
            obtain ⟨s1, hs1⟩ : ∃ s, e'.2.2.2[lx]? = some s := ⟨e'.2.2.2[lx]'(by rw [HNx.out]; have := HLX.out; omega), List.getElem?_eq_getElem _⟩
            obtain ⟨gx, ox, rfl, p0⟩ := hkc' 0 s0 hs0
            have p1 : w2.cell? ⟨gx, ox + lx, none⟩ = some (.string s1) := by obtain ⟨g', o', e', c'⟩ := hkc' lx s1 hs1; cases e'; exact c'
            have q0 : wr.cell? ⟨gx, ox, none⟩ = some (.string s0) := by have := (HB2k.out.cell (World.block_lt_of_cell? w2 _ p0)).trans p0; simpa using this
            have q1 : wr.cell? ⟨gx, ox + lx, none⟩ = some (.string s1) := (HB2k.out.cell (World.block_lt_of_cell? w2 _ p1)).trans p1
            have hlx : (nx : Int) - 1 = (lx : Int) := by have := HLX.out; omega
            have hlx2 : (lx : Int) < (nx : Int) := by omega
            have hnx1 : ((nx : Int) == 0) = false := by simp; omega
            have hnx2 : (nx == 0) = false := by simp; omega
            have hnx3 : (0 : Int) < (nx : Int) := by omega
            have b0 := hbt s0 (List.mem_of_getElem? hs0)
            have b1 := hbt s1 (List.mem_of_getElem? hs1)
            have hkni : (k : Int) < (cn : Int) := by omega
            have HDR : Hid (∀ nq, Below wc.heap.size wc (wr.drewN nq)) := fun nq => HBk.out.trans ⟨rfl, rfl, rfl, Nat.le_refl _, fun _ _ => rfl⟩
            have HLO : Hid (0 < k → ∃ j gy oy s, Hid (k = j + 1) ∧ kao = some ⟨gy, oy, none⟩ ∧ j < nn ∧ wr.cell? ⟨gy, oy + j, none⟩ = some (.string s) ∧ cmpN s s0 < 0) := by
              intro hk
              have hj : k - 1 < nn := by rcases hlf with ⟨_, h⟩ | ⟨_, h⟩ <;> omega
              obtain ⟨s, hs⟩ : ∃ s, e.2.2.2[k - 1]? = some s := ⟨e.2.2.2[k - 1]'(by rw [HNn.out]; exact hj), List.getElem?_eq_getElem _⟩
              obtain ⟨gy, oy, h5, h6⟩ := HKC.out (k - 1) s hs
              exact ⟨k - 1, gy, oy, s, by unfold Hid; omega, h5, hj, (HB2k.out.cell (World.block_lt_of_cell? w2 _ h6)).trans h6, b0.1 (k - 1) s hs (by omega)⟩
            have HHI : Hid (k < nn → ∃ gy oy s, kao = some ⟨gy, oy, none⟩ ∧ wr.cell? ⟨gy, oy + k, none⟩ = some (.string s) ∧ cmpN s1 s < 0) := by
              intro hk
              obtain ⟨s, hs⟩ : ∃ s, e.2.2.2[k]? = some s := ⟨e.2.2.2[k]'(by rw [HNn.out]; exact hk), List.getElem?_eq_getElem _⟩
              obtain ⟨gy, oy, h5, h6⟩ := HKC.out k s hs
              exact ⟨gy, oy, s, h5, (HB2k.out.cell (World.block_lt_of_cell? w2 _ h6)).trans h6, b1.2 s hs⟩
            have HCMP : Hid (∀ a b W, Calls Try.prog 21 #[.string a, .string b] W fun e w' => e = .returned (.int .i64 (cmpN a b)) ∧ w' = W) := fun a b W => cmpNames_any a b W
            clear hc he' hbt b0 b1 d2 hkv' hkc' hs0 hs1 p0 p1 hce HCC HKK
            go_upto_region 12 with fail
            go_cut [120] (fun t wd => t = .bool false ∧ Hid (Below wc.heap.size wc wd))
            case first =>
              by_cases hk0 : 0 < k
              · by_cases hkn2 : k < nn
                · obtain ⟨j, gy, oy, sa, HJ, hka, hjn, u0, hca⟩ := HLO.out hk0
                  subst hka
                  have hj1 : (k : Int) - 1 = (j : Int) := by have := HJ.out; omega
                  have hj2 : (j : Int) < (nn : Int) := by omega
                  have hk1 : (0 : Int) < (k : Int) := by omega
                  have HC1' : Hid (∀ W, Calls Try.prog 21 #[.string sa, .string s0] W fun e w' => e = .returned (.int .i64 (cmpN sa s0)) ∧ w' = W) := HCMP.out sa s0
                  obtain ⟨ca, HCa⟩ : ∃ ca, Hid (cmpN sa s0 = ca) := ⟨_, rfl⟩
                  rw [HCa.out] at HC1' hca
                  have hda : decide ((0 : Int) ≤ ca) = false := by simp; omega
                  obtain ⟨gy', oy', sb, hkb, v0, hcb⟩ := HHI.out hkn2
                  cases hkb
                  have hk2 : (k : Int) < (nn : Int) := by omega
                  have HC2' : Hid (∀ W, Calls Try.prog 21 #[.string s1, .string sb] W fun e w' => e = .returned (.int .i64 (cmpN s1 sb)) ∧ w' = W) := HCMP.out s1 sb
                  obtain ⟨cb, HCb⟩ : ∃ cb, Hid (cmpN s1 sb = cb) := ⟨_, rfl⟩
                  rw [HCb.out] at HC2' hcb
                  have hdb : decide ((0 : Int) ≤ cb) = false := by simp; omega
                  clear HLO HHI HCMP hlf
                  go_quiet ((go_at_call 21; first | exact Calls.quiet_of_same (HC1'.out _) | exact Calls.quiet_of_same (HC2'.out _)))
                  go_wp2_with fail
                  go_meet
                  exact ⟨by first | rfl | simp, HDR.out _⟩
                · obtain ⟨j, gy, oy, sa, HJ, hka, hjn, u0, hca⟩ := HLO.out hk0
                  subst hka
                  have hj1 : (k : Int) - 1 = (j : Int) := by have := HJ.out; omega
                  have hj2 : (j : Int) < (nn : Int) := by omega
                  have hk1 : (0 : Int) < (k : Int) := by omega
                  have HC1' : Hid (∀ W, Calls Try.prog 21 #[.string sa, .string s0] W fun e w' => e = .returned (.int .i64 (cmpN sa s0)) ∧ w' = W) := HCMP.out sa s0
                  obtain ⟨ca, HCa⟩ : ∃ ca, Hid (cmpN sa s0 = ca) := ⟨_, rfl⟩
                  rw [HCa.out] at HC1' hca
                  have hda : decide ((0 : Int) ≤ ca) = false := by simp; omega
                  have hk2 : ¬ (k : Int) < (nn : Int) := by omega
                  have hk2a : decide (k < nn) = false := by simp; omega
                  have hk2b : decide ((k : Int) < (nn : Int)) = false := by simp; omega
                  have hk2c : (k < nn) = False := by simp; omega
                  clear HLO HHI HCMP hlf
                  go_quiet ((go_at_call 21; exact Calls.quiet_of_same (HC1'.out _)))
                  go_wp2_with fail
                  go_meet
                  exact ⟨by first | rfl | simp, HDR.out _⟩
              · by_cases hkn2 : k < nn
                · have hk1 : ¬ (0 : Int) < (k : Int) := by omega
                  have hk1a : decide (0 < k) = false := by simp; omega
                  have hk1b : decide ((0 : Int) < (k : Int)) = false := by simp; omega
                  have hk1c : (0 < k) = False := by simp; omega
                  obtain ⟨gy, oy, sb, hkb, v0, hcb⟩ := HHI.out hkn2
                  subst hkb
                  have hk2 : (k : Int) < (nn : Int) := by omega
                  have HC2' : Hid (∀ W, Calls Try.prog 21 #[.string s1, .string sb] W fun e w' => e = .returned (.int .i64 (cmpN s1 sb)) ∧ w' = W) := HCMP.out s1 sb
                  obtain ⟨cb, HCb⟩ : ∃ cb, Hid (cmpN s1 sb = cb) := ⟨_, rfl⟩
                  rw [HCb.out] at HC2' hcb
                  have hdb : decide ((0 : Int) ≤ cb) = false := by simp; omega
                  clear HLO HHI HCMP hlf
                  clear hk0
                  go_quiet ((go_at_call 21; exact Calls.quiet_of_same (HC2'.out _)))
                  go_wp2_with fail
                  go_meet
                  exact ⟨by first | rfl | simp, HDR.out _⟩
                · have hk1 : ¬ (0 : Int) < (k : Int) := by omega
                  have hk1a : decide (0 < k) = false := by simp; omega
                  have hk1b : decide ((0 : Int) < (k : Int)) = false := by simp; omega
                  have hk1c : (0 < k) = False := by simp; omega
                  have hk2 : ¬ (k : Int) < (nn : Int) := by omega
                  have hk2a : decide (k < nn) = false := by simp; omega
                  have hk2b : decide ((k : Int) < (nn : Int)) = false := by simp; omega
                  have hk2c : (k < nn) = False := by simp; omega
                  clear HLO HHI HCMP hlf
                  clear hk0
                  go_quiet (fail)
                  go_wp2_with fail
                  go_meet
                  exact ⟨by first | rfl | simp, HDR.out _⟩
            case rest =>
              obtain ⟨rfl, HBd⟩ := hcut
              clear x0 y2 z2 q0 q1
              go_wp2_with fail
              go_roundw
              case rel => exact ⟨k + 1, by omega, by simp, HBd.out⟩
              case measure => simp [intOf]; omega
          · have hkl' : ¬ (k : Int) < (cn : Int) := by omega
            go_wp2_with fail
            go_roundw
            case rel => exact ⟨i + 1, by omega, by simp, HB2k.out⟩
            case measure => simp [intOf]; omega
    · obtain rfl : i = en := by omega
      have HFIN : Hid (∀ w8, Below wr.heap.size wr w8 → Below w.heap.size w w8) := fun w8 h8 => (HB2.out.trans (HBr.out.mono HB2.out.size)).trans (h8.mono (Nat.le_trans HB2.out.size HBr.out.size))
      have hii : ¬ (i : Int) < (i : Int) := by omega
      clear HKID HKF
      go_wp2_with (go_at_call 9; refine (lives7_any _).mono ?_; rintro e w8 ⟨rfl, hb8⟩; have HB8 : Hid (Below wr.heap.size wr w8) := hb8; clear hb8)
      go_ret
      exact ⟨rfl, HFIN.out _ HB8.out⟩
end Go.Proofs.Ytggbbmbnbhiggaa

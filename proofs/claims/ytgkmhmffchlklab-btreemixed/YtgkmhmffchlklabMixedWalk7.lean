/-
  The walk of BtreeMixed. Conditions: none but what memory bears.
-/
import Derived.Test.YtgkmhmffchlklabMxA
namespace Go.Proofs.Ytgkmhmffchlklab
open Go.RowKit
set_option linter.unusedVariables false
set_option maxRecDepth 100000

set_option maxHeartbeats 4000000 in
theorem btreeMixed_walk (most : Int) (vk : Value) (Ks : List ByteArray) (vd : Value) (Ds : List ByteArray) (w : World) (hm : (Lit.int .u64 most).wf = true) (hk : Ss w vk Ks) (hkn : Ks.length ≤ 140737488351232) (hkz : ∀ s ∈ Ks, s.size ≤ 281474976710656) (hd : Ss w vd Ds) (hdn : Ds.length ≤ 140737488351232) (hdz : ∀ s ∈ Ds, s.size ≤ 281474976710656) : Calls Try.prog 4 #[.int .u64 most, vk, vd] w fun e w' => e = .returned (.bool true) ∧ Below w.heap.size w w' := by
  by_cases hsm : 200 < Ks.length ∨ 200 < Ds.length
  · exact mixed_small most vk vd Ks Ds w hk hd hsm (by omega) (by omega)
  have hm0 : 0 ≤ most ∧ most ≤ 18446744073709551615 := by simpa [Lit.wf, IntKind.min, IntKind.max, IntKind.signed, IntKind.bits] using hm
  have HK : Hid (Ss w vk Ks) := hk
  have HD : Hid (Ss w vd Ds) := hd
  have HKZ : Hid (∀ s ∈ Ks, s.size ≤ 281474976710656) := hkz
  obtain ⟨aok, capk, rfl, hkc⟩ := hk
  obtain ⟨aod, capd, rfl, hdc⟩ := hd
  have HKC : Hid (∀ i s, Ks[i]? = some s → ∃ g o, aok = some ⟨g, o, none⟩ ∧ w.cell? ⟨g, o + i, none⟩ = some (.string s)) := hkc
  have HDC : Hid (∀ i s, Ds[i]? = some s → ∃ g o, aod = some ⟨g, o, none⟩ ∧ w.cell? ⟨g, o + i, none⟩ = some (.string s)) := hdc
  obtain ⟨n, HN⟩ : ∃ n, Hid (Ks.length = n) := ⟨_, rfl⟩
  obtain ⟨dn, HDN⟩ : ∃ m, Hid (Ds.length = m) := ⟨_, rfl⟩
  rw [HN.out] at hsm ⊢
  rw [HDN.out] at hsm ⊢
  obtain ⟨mm, HMM⟩ : ∃ mm : Nat, Hid ((mm : Int) = 3 + most % 62) := ⟨(3 + most % 62).toNat, by unfold Hid; omega⟩
  have hmm3 : 3 ≤ mm := by have := HMM.out; omega
  have hmm64 : mm ≤ 64 := by have := HMM.out; omega
  have d1 : decide ((200 : Int) < (n : Int)) = false := by simp; omega
  have d2 : decide ((200 : Int) < (dn : Int)) = false := by simp; omega
  have hn2 : n ≤ 200 := by omega
  have hdn2 : dn ≤ 200 := by omega
  have e1 : 3 + most % 62 = (mm : Int) := HMM.out.symm
  clear hkc hdc hsm hkn hdn hkz hdz hm
  have HN1 : Hid _ := newNames_sep (sep_none w w.heap.size) (Nat.le_refl _) mm hmm3 hmm64
  go_enter Try.func4, Try.ntmps4
  go_wp2_with (first
    | (have hg := HT1; clear hg; go_at_call 9; refine Calls.mono (mx_new hmm3 hmm64 HT1.out HB1.out) ?_; rintro e w2 ⟨pb, qb, rfl, hm2⟩; have HM2 : Hid (Mx w w2 mm pa qa pb qb (fun _ => False) (fun _ => False) 0) := hm2; clear hm2)
    | (go_at_call 9; refine Calls.mono HN1.out ?_; rintro e w1 ⟨pa, qa, rfl, ht1, hb1⟩; have HT1 : Hid (BT w1 w.heap.size pa qa mm [] []) := ht1; have HB1 : Hid (Below w.heap.size w w1) := hb1; clear ht1 hb1))
  clear HT1 HB1 HN1
  go_loopw [10] (fun x wr => ∃ i : Nat, i ≤ n ∧ x = .int .i64 (i : Int) ∧ Hid (Mx w wr mm pa qa pb qb (fun k => k ∈ Ks.take i) (fun k => k ∈ Ks.drop (n - i)) (i + i))) (fun x _ => n - (intOf x).toNat)
  case atStart => exact ⟨0, Nat.zero_le _, rfl, HM2.out.congr (fun k => by simp) (fun k => by simp [← HN.out]) (Nat.le_refl _)⟩
  case round =>
    obtain ⟨i, hil, rfl, HMr⟩ := hrel
    by_cases hlt : i < n
    · obtain ⟨s, hs⟩ : ∃ s, Ks[i]? = some s := ⟨Ks[i]'(by rw [HN.out]; exact hlt), List.getElem?_eq_getElem _⟩
      obtain ⟨j, HJ⟩ : ∃ j, Hid (n - 1 - i = j) := ⟨_, rfl⟩
      have hjn : j < n := by have := HJ.out; omega
      have hji : (n : Int) - 1 - (i : Int) = (j : Int) := by have := HJ.out; omega
      have hjl : (j : Int) < (n : Int) := by omega
      obtain ⟨s', hs'⟩ : ∃ s', Ks[j]? = some s' := ⟨Ks[j]'(by rw [HN.out]; exact hjn), List.getElem?_eq_getElem _⟩
      have HS : Hid (Ks[i]? = some s) := hs
      have HS' : Hid (Ks[j]? = some s') := hs'
      obtain ⟨g, o, rfl, c1⟩ := HKC.out i s hs
      have c2 : w.cell? ⟨g, o + j, none⟩ = some (.string s') := by obtain ⟨g', o', e', c'⟩ := HKC.out j s' hs'; cases e'; exact c'
      have C2 : Hid (w.cell? ⟨g, o + j, none⟩ = some (.string s')) := c2
      have c1' := (HMr.out.bel.cell (World.block_lt_of_cell? w _ c1)).trans c1
      have hz1 : s.size ≤ 281474976710656 := HKZ.out s (List.mem_of_getElem? hs)
      have hz2 : s'.size ≤ 281474976710656 := HKZ.out s' (List.mem_of_getElem? hs')
      have hili : (i : Int) < (n : Int) := by omega
      have hi2 : i < 32000 := by omega
      clear hs hs' c1 c2
      go_wp2_with (first
        | (have hg := HM3; clear hg; go_at_call_of 10 pb; refine Calls.mono (mx_put hmm3 hmm64 HM3.out.swap (by omega) s' hz2 1) ?_; rintro e w4 ⟨b4, rfl, hm4⟩; have HM4 : Hid (Mx w w4 mm pb qb pa qa (fun k' => k' = s' ∨ k' ∈ Ks.drop (n - i)) (fun k' => k' = s ∨ k' ∈ Ks.take i) (i + i + 1 + 1)) := hm4; clear hm4)
        | (go_at_call_of 10 pa; refine Calls.mono (mx_put hmm3 hmm64 HMr.out (by omega) s hz1 1) ?_; rintro e w3 ⟨b3, rfl, hm3⟩; have c2' := (hm3.bel.cell (World.block_lt_of_cell? w _ C2.out)).trans C2.out; have HM3 : Hid (Mx w w3 mm pa qa pb qb (fun k' => k' = s ∨ k' ∈ Ks.take i) (fun k => k ∈ Ks.drop (n - i)) (i + i + 1)) := hm3; clear hm3))
      go_roundw
      case rel =>
        refine ⟨i + 1, by omega, by simp, HM4.out.swap.congr (fun k => (take_snoc HS.out k).symm) (fun k => ?_) ?_⟩
        · have e1 : n - (i + 1) = j := by have := HJ.out; omega
          have e2 : n - i = j + 1 := by have := HJ.out; omega
          rw [e1, e2]
          exact (drop_snoc HS'.out k).symm
        · omega
      case measure => simp [intOf]; omega
    · obtain rfl : i = n := by omega
      clear HM2
      have HM5 : Hid (Mx w wr mm pa qa pb qb (fun k => k ∈ Ks ∧ k ∉ Ds.take 0) (fun k => k ∈ Ks ∧ k ∉ Ds.drop (dn - 0)) 400) := HMr.out.congr (fun k => by rw [← HN.out]; simp) (fun k => by simp [← HDN.out]) (by omega)
      clear HMr
      go_wp2_with fail
      go_loopw [11] (fun x wr => ∃ i : Nat, i ≤ dn ∧ x = .int .i64 (i : Int) ∧ Hid (Mx w wr mm pa qa pb qb (fun k => k ∈ Ks ∧ k ∉ Ds.take i) (fun k => k ∈ Ks ∧ k ∉ Ds.drop (dn - i)) 400)) (fun x _ => dn - (intOf x).toNat)
      case atStart => exact ⟨0, Nat.zero_le _, rfl, HM5.out⟩
      case round =>
        clear HM5
        obtain ⟨i, hil, rfl, HMr⟩ := hrel
        by_cases hlt : i < dn
        · obtain ⟨s, hs⟩ : ∃ s, Ds[i]? = some s := ⟨Ds[i]'(by rw [HDN.out]; exact hlt), List.getElem?_eq_getElem _⟩
          obtain ⟨j, HJ⟩ : ∃ j, Hid (dn - 1 - i = j) := ⟨_, rfl⟩
          have hjn : j < dn := by have := HJ.out; omega
          have hji : (dn : Int) - 1 - (i : Int) = (j : Int) := by have := HJ.out; omega
          have hjl : (j : Int) < (dn : Int) := by omega
          obtain ⟨s', hs'⟩ : ∃ s', Ds[j]? = some s' := ⟨Ds[j]'(by rw [HDN.out]; exact hjn), List.getElem?_eq_getElem _⟩
          have HS : Hid (Ds[i]? = some s) := hs
          have HS' : Hid (Ds[j]? = some s') := hs'
          obtain ⟨g, o, rfl, c1⟩ := HDC.out i s hs
          have c2 : w.cell? ⟨g, o + j, none⟩ = some (.string s') := by obtain ⟨g', o', e', c'⟩ := HDC.out j s' hs'; cases e'; exact c'
          have C2 : Hid (w.cell? ⟨g, o + j, none⟩ = some (.string s')) := c2
          have c1' := (HMr.out.bel.cell (World.block_lt_of_cell? w _ c1)).trans c1
          have hili : (i : Int) < (dn : Int) := by omega
          clear hs hs' c1 c2
          go_wp2_with (first
            | (have hg := HM3; clear hg; go_at_call_of 11 pb; refine Calls.mono (mx_drop hmm3 hmm64 HM3.out.swap (by omega) s') ?_; rintro e w4 ⟨b4, rfl, hm4⟩; have HM4 : Hid (Mx w w4 mm pb qb pa qa (fun k' => k' ≠ s' ∧ (k' ∈ Ks ∧ k' ∉ Ds.drop (dn - i))) (fun k' => k' ≠ s ∧ (k' ∈ Ks ∧ k' ∉ Ds.take i)) 400) := hm4; clear hm4)
            | (go_at_call_of 11 pa; refine Calls.mono (mx_drop hmm3 hmm64 HMr.out (by omega) s) ?_; rintro e w3 ⟨b3, rfl, hm3⟩; have c2' := (hm3.bel.cell (World.block_lt_of_cell? w _ C2.out)).trans C2.out; have HM3 : Hid (Mx w w3 mm pa qa pb qb (fun k' => k' ≠ s ∧ (k' ∈ Ks ∧ k' ∉ Ds.take i)) (fun k => k ∈ Ks ∧ k ∉ Ds.drop (dn - i)) 400) := hm3; clear hm3))
          go_roundw
          case rel =>
            refine ⟨i + 1, by omega, by simp, HM4.out.swap.congr (fun k => ?_) (fun k => ?_) (Nat.le_refl _)⟩
            · rw [take_snoc HS.out k]
              exact ⟨fun h => ⟨h.2.1, fun h' => h'.elim h.1 h.2.2⟩, fun h => ⟨fun h' => h.2 (.inl h'), h.1, fun h' => h.2 (.inr h')⟩⟩
            · have e1 : dn - (i + 1) = j := by have := HJ.out; omega
              have e2 : dn - i = j + 1 := by have := HJ.out; omega
              rw [e1, e2, drop_snoc HS'.out k]
              exact ⟨fun h => ⟨h.2.1, fun h' => h'.elim h.1 h.2.2⟩, fun h => ⟨fun h' => h.2 (.inl h'), h.1, fun h' => h.2 (.inr h')⟩⟩
          case measure => simp [intOf]; omega
        · obtain rfl : i = dn := by omega
          obtain ⟨L, hy⟩ := my_of HMr.out (fun k => by rw [← HDN.out]; simp) (fun k hk => HKZ.out k hk.1)
          have HY : Hid (My w wr mm pa qa pb qb L []) := hy
          have hl4 : L.length ≤ 400 := hy.bel.2.1
          obtain ⟨l, HL⟩ : ∃ l, Hid (L.length = l) := ⟨_, rfl⟩
          rw [HL.out] at hl4
          clear hy HMr
          go_wp2_with (first
            | (have hg := HY4; clear hg; go_at_call 7; refine Calls.mono (my_len HY4.out) ?_; rintro e w9 ⟨rfl, hw9⟩; obtain rfl := hw9.symm; clear hw9; rw [HL.out])
            | (have hg := HY3; clear hg; go_at_call 13; refine Calls.mono (texts_any (HY3.out.row (List.mem_cons_of_mem _ List.mem_cons_self)) (HY3.out.row List.mem_cons_self) (by have := HL.out; omega)) ?_; rintro e w7 ⟨rfl, hb7⟩; have HY4 : Hid (My w w7 mm pa qa pb qb L [u, .slice ao l cap]) := HY3.out.swap.below hb7; clear hb7)
            | (have hg := HY2; clear hg; go_at_call 12; refine Calls.mono (my_keys hmm3 hmm64 HY2.out.swap) ?_; rintro e w6 ⟨u, rfl, hy6⟩; have HY3 : Hid (My w w6 mm pb qb pa qa L [u, .slice ao l cap]) := hy6; clear hy6)
            | (go_at_call 12; refine Calls.mono (my_keys hmm3 hmm64 HY.out) ?_; rintro e w5 ⟨v, rfl, hy5⟩; obtain ⟨ao, cap, rfl, hc5⟩ := hy5.row List.mem_cons_self; rw [HL.out] at hy5 ⊢; have HY2 : Hid (My w w5 mm pa qa pb qb L [.slice ao l cap]) := hy5; clear hy5 hc5))
          have HCS : Hid (∀ i s, L[i]? = some s → ∃ g o, ao = some ⟨g, o, none⟩ ∧ w7.cell? ⟨g, o + i, none⟩ = some (.string s)) := by
            obtain ⟨ao', cap', e', hc'⟩ := HY4.out.row (List.mem_cons_of_mem _ List.mem_cons_self)
            cases e'
            exact hc'
          have HLT : Hid (∀ i s t, L[i]? = some s → L[i + 1]? = some t → cmpN s t < 0) := HY4.out.bel.2.2
          have HB9 : Hid (Below w.heap.size w w7) := HY4.out.bel.1
          go_loopw [13] (fun x wr => ∃ i : Nat, 1 ≤ i ∧ i ≤ l + 1 ∧ x = .int .i64 (i : Int) ∧ Hid (Below w7.heap.size w7 wr)) (fun x _ => l + 1 - (intOf x).toNat)
          case atStart => exact ⟨1, Nat.le_refl _, by omega, rfl, Below.refl _ _⟩
          case round =>
            obtain ⟨i, hi1, hil, rfl, HBr⟩ := hrel
            by_cases hlt : i < l
            · obtain ⟨j, HJ⟩ : ∃ j, Hid (i = j + 1) := ⟨i - 1, by unfold Hid; omega⟩
              have hji : (i : Int) - 1 = (j : Int) := by have := HJ.out; omega
              have hjl : (j : Int) < (l : Int) := by have := HJ.out; omega
              have hili : (i : Int) < (l : Int) := by omega
              obtain ⟨t, ht⟩ : ∃ t, L[i]? = some t := ⟨L[i]'(by rw [HL.out]; exact hlt), List.getElem?_eq_getElem _⟩
              obtain ⟨s, hs⟩ : ∃ s, L[j]? = some s := ⟨L[j]'(by rw [HL.out]; have := HJ.out; omega), List.getElem?_eq_getElem _⟩
              have hst : cmpN s t < 0 := HLT.out j s t hs (by rw [← HJ.out]; exact ht)
              obtain ⟨g, o, rfl, c1⟩ := HCS.out i t ht
              have c2 : w7.cell? ⟨g, o + j, none⟩ = some (.string s) := by obtain ⟨g', o', e', c'⟩ := HCS.out j s hs; cases e'; exact c'
              have c1' := (HBr.out.cell (World.block_lt_of_cell? w7 _ c1)).trans c1
              have c2' := (HBr.out.cell (World.block_lt_of_cell? w7 _ c2)).trans c2
              have HCC : Hid (∀ W, Calls Try.prog 14 #[.string s, .string t] W fun e w' => e = .returned (.int .i64 (cmpN s t)) ∧ w' = W) := fun W => cmpNames_any s t W
              obtain ⟨cm, HCM⟩ : ∃ cm, Hid (cmpN s t = cm) := ⟨_, rfl⟩
              rw [HCM.out] at HCC hst
              have hd : decide ((0 : Int) ≤ cm) = false := by simp; omega
              have HDR : Hid (∀ nq, Below w7.heap.size w7 (wr.drewN nq)) := fun nq => HBr.out.trans ⟨rfl, rfl, rfl, Nat.le_refl _, fun _ _ => rfl⟩
              clear hs ht c1 c2
              go_wp2_with fail
              go_quiet ((go_at_call 14; exact Calls.quiet_of_same (HCC.out _)))
              go_wp2_with fail
              go_roundw
              case rel => exact ⟨i + 1, by omega, by omega, by simp, HDR.out _⟩
              case measure => simp [intOf]; omega
            · go_wp2_with (go_at_call 8; refine (lives7_any _).mono ?_; rintro e w8 ⟨rfl, hb8⟩; have HB8 : Hid (Below wr.heap.size wr w8) := hb8; clear hb8)
              go_ret
              exact ⟨rfl, (HB9.out.trans (HBr.out.mono HB9.out.size)).trans (HB8.out.mono (Nat.le_trans HB9.out.size HBr.out.size))⟩
end Go.Proofs.Ytgkmhmffchlklab

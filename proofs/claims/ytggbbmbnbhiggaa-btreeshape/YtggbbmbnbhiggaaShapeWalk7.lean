/-
  The walk of BtreeShape. Conditions: none but what memory bears.
-/
import Derived.Test.YtggbbmbnbhiggaaBShape2
import Derived.Test.YtggbbmbnbhiggaaBLives
namespace Go.Proofs.Ytggbbmbnbhiggaa
open Go.RowKit
set_option linter.unusedVariables false
set_option maxRecDepth 100000

set_option maxHeartbeats 8000000 in
theorem btreeShape_walk (most : Int) (v : Value) (Q : List A7) (w : World) (hm : (Lit.int .u64 most).wf = true) (hA : As7 w v Q) (hQ : Q.length ≤ 140737488351232) : Calls Try.prog 6 #[.int .u64 most, v] w fun e w' => e = .returned (.bool true) ∧ Below w.heap.size w w' := by
  have hm0 : 0 ≤ most ∧ most ≤ 18446744073709551615 := by simpa [Lit.wf, IntKind.min, IntKind.max, IntKind.signed, IntKind.bits] using hm
  obtain ⟨mm, HMM⟩ : ∃ mm : Nat, Hid ((mm : Int) = 3 + most % 62) := ⟨(3 + most % 62).toNat, by unfold Hid; omega⟩
  have hmm3 : 3 ≤ mm := by have := HMM.out; omega
  have hmm64 : mm ≤ 64 := by have := HMM.out; omega
  have e1 : 3 + most % 62 = (mm : Int) := HMM.out.symm
  have HPL : Hid _ := played_any hA hQ mm hmm3 hmm64
  obtain ⟨hf, HHF⟩ : ∃ hf, Hid (mm / 2 = hf) := ⟨_, rfl⟩
  have hq0 : (mm : Int).tdiv 2 = (hf : Int) := by rw [Int.tdiv_eq_ediv_of_nonneg (by omega)]; have := HHF.out; omega
  have hq3 : (mm : Int) / 2 = (hf : Int) := by have := HHF.out; omega
  clear hA hQ hm
  go_enter Try.func6, Try.ntmps6
  go_wp2_with (first
    | (have hg := HT1; clear hg; go_at_call 25; refine Calls.mono (nodes_any hmm3 hmm64 HT1.out HB1.out.size (by have := HF1.out; omega) HZ1.out) ?_; rintro e w2 ⟨vN, es, rfl, hn2, ht2, hb2⟩; obtain ⟨ao, cap, rfl, hce⟩ := ht2.ents; have HN2 : Hid (NdsP mm F es) := hn2; have HT2 : Hid (BT w2 w.heap.size p q mm F (rowE (.slice ao es.length cap) es :: (kp es ++ []))) := ht2; have HB2 : Hid (Below w.heap.size w w2) := HB1.out.trans hb2; have HCE : Hid (∀ (i : Nat) (e : En), es[i]? = some e → ∃ g, ao = some ⟨g, 0, none⟩ ∧ w2.cell? ⟨g, i * 3, none⟩ = some (.int .i64 e.1) ∧ w2.cell? ⟨g, i * 3 + 1, none⟩ = some (.bool e.2.1) ∧ w2.cell? ⟨g, i * 3 + 2, none⟩ = some e.2.2.1 ∧ Ss w2 e.2.2.1 e.2.2.2) := hce; clear hn2 ht2 hb2 hce)
    | (go_at_call 26; refine Calls.mono HPL.out ?_; rintro e w1 ⟨p, q, rfl, hp1⟩; obtain ⟨F, ht1, hf1, hz1, hb1⟩ := hp1; have HT1 : Hid (BT w1 w.heap.size p q mm F []) := ht1; have HF1 : Hid (F.length ≤ 300) := hf1; have HZ1 : Hid (∀ y ∈ F, y.1.size ≤ 281474976710656) := hz1; have HB1 : Hid (Below w.heap.size w w1) := hb1; clear ht1 hf1 hz1 hb1))
  clear HPL HT1 HB1 HZ1
  obtain ⟨H, hsf⟩ := sfacts HN2.out hmm3 HF1.out
  have HSF : Hid (SFacts mm F es H) := hsf
  have hH : 0 ≤ H := hsf.1
  obtain ⟨N, HNN⟩ : ∃ N, Hid (F.length = N) := ⟨_, rfl⟩
  have hN : N ≤ 300 := by have := HF1.out; have := HNN.out; omega
  obtain ⟨en, HEN⟩ : ∃ en, Hid (es.length = en) := ⟨_, rfl⟩
  have hen : en ≤ 300 := by
    rw [← HEN.out]
    rcases HN2.out with ⟨_, h9⟩ | ⟨_, h, t, lo, hs, hlo, hF, hes⟩
    · rw [h9]; simp
    · have h8 := congrArg List.length hes
      have h7 := cnt_le (by omega) (h + 1) (up1 t) 0 lo hs hlo
      rw [hF] at h7
      rw [List.length_map] at h8
      unfold cntN at h7
      have := HF1.out
      omega
  have HSUM : Hid (∀ i, ((es.take i).map (fun e => e.2.2.2.length)).sum ≤ N) := by
    intro i
    rw [← HNN.out, ← hsf.2.2.2.1]
    conv => rhs; rw [← List.take_append_drop i es, List.map_append, List.sum_append]
    omega
  rw [HEN.out]
  clear hsf
  go_loopw [10, 8, 9] (fun x y z wr => ∃ (i T : Nat) (lfv : Int), i ≤ en ∧ x = .int .i64 (i : Int) ∧ y = .int .i64 (T : Int) ∧ z = .int .i64 lfv ∧ (lfv = -1 ∨ lfv = H) ∧ Hid (((es.take i).map (fun e => e.2.2.2.length)).sum = T) ∧ Hid (Below w2.heap.size w2 wr)) (fun x _ _ _ => en - (intOf x).toNat)
  case atStart => exact ⟨0, 0, -1, Nat.zero_le _, rfl, rfl, rfl, .inl rfl, rfl, Below.refl _ _⟩
  case round =>
    obtain ⟨i, T, lfv, hie, rfl, rfl, rfl, hlfv, HTT, HBr⟩ := hrel
    have hTN : T ≤ N := by rw [← HTT.out]; exact HSUM.out i
    by_cases hlt : i < en
    · obtain ⟨⟨lv, lf, kv, kl⟩, he⟩ : ∃ e, es[i]? = some e := ⟨es[i]'(by rw [HEN.out]; exact hlt), List.getElem?_eq_getElem _⟩
      obtain ⟨g, rfl, c0, c1, c2, hss⟩ := HCE.out i _ he
      obtain ⟨f1, f2, f3, f4, f5, f6, f7, f8⟩ := HSF.out.2.1 i _ he
      obtain ⟨kao, kcap, hkv, hkc⟩ := hss
      have hkv' : kv = .slice kao kl.length kcap := hkv
      subst hkv'
      obtain ⟨nn, HNn⟩ : ∃ nn, Hid (kl.length = nn) := ⟨_, rfl⟩
      have c0' : wr.cell? ⟨g, i * 3, none⟩ = some (.int .i64 lv) := (HBr.out.cell (World.block_lt_of_cell? w2 _ c0)).trans c0
      have c1' : wr.cell? ⟨g, i * 3 + 1, none⟩ = some (.bool lf) := (HBr.out.cell (World.block_lt_of_cell? w2 _ c1)).trans c1
      have c2' : wr.cell? ⟨g, i * 3 + 2, none⟩ = some (.slice kao nn kcap) := by rw [← HNn.out]; exact (HBr.out.cell (World.block_lt_of_cell? w2 _ c2)).trans c2
      have f1' : 1 ≤ nn := by rw [← HNn.out]; exact f1
      have f2' : nn ≤ mm := by rw [← HNn.out]; exact f2
      have HTN2 : Hid (((es.take (i + 1)).map (fun e => e.2.2.2.length)).sum = T + nn) := by unfold Hid; rw [List.take_add_one, he, List.map_append, List.sum_append, HTT.out, ← HNn.out]; simp
      have hili : (i : Int) < (en : Int) := by omega
      have f5' : lf = decide (lv = H) := f5
      have f6' : 0 ≤ lv := f6
      have f7' : lv ≤ 1000 := f7
      have HKC : Hid (∀ (k : Nat) (s : ByteArray), kl[k]? = some s → ∃ g o, kao = some ⟨g, o, none⟩ ∧ w2.cell? ⟨g, o + k, none⟩ = some (.string s)) := hkc
      have HSB : Hid (List.Sublist kl (F.map (·.1))) := f8
      have d1 : ¬ (mm : Int) < (nn : Int) := by omega
      have d2 : ¬ (nn : Int) < 1 := by omega
      have C2 : Hid (w2.cell? ⟨g, i * 3 + 2, none⟩ = some (.slice kao nn kcap)) := by unfold Hid; rw [← HNn.out]; exact c2
      have HDR : Hid (∀ nq, Below w2.heap.size w2 (wr.drewN nq)) := fun nq => HBr.out.trans ⟨rfl, rfl, rfl, Nat.le_refl _, fun _ _ => rfl⟩
      have HRP : Hid ((F.map (·.1)).Pairwise (fun a b => cmpN a b < 0)) := List.pairwise_map.2 HT2.out.2
      have hleaf : (lf = true ∧ lfv = -1 ∧ H = lv) ∨ (lf = true ∧ lfv = H ∧ H = lv) ∨ (lf = false ∧ lfv = H ∧ (lv == H) = false) ∨ (lf = false ∧ lfv = -1 ∧ (lv == -1) = false) := by
        by_cases h9 : lv = H
        · have h8 : lf = true := by rw [f5']; simp [h9]
          rcases hlfv with h7 | h7
          · exact .inl ⟨h8, h7, h9.symm⟩
          · exact .inr (.inl ⟨h8, h7, h9.symm⟩)
        · have h8 : lf = false := by rw [f5']; simp [h9]
          rcases hlfv with h7 | h7
          · exact .inr (.inr (.inr ⟨h8, h7, by simp; omega⟩))
          · exact .inr (.inr (.inl ⟨h8, h7, by simp [h9]⟩))
      have hlvn : ¬ lv < 0 := by omega
      go_upto_region 12 with fail
      go_cut [87] (fun t wc => t = .bool false ∧ Hid (Below w2.heap.size w2 wc))
      case first =>
        by_cases hi0 : i = 0
        · have hi1 : ¬ (0 : Int) < (i : Int) := by omega
          have hi2 : ((i : Int) == 0) = true := by simp [hi0]
          have hi1a : decide (0 < i) = false := by simp; omega
          have hi1b : decide ((0 : Int) < (i : Int)) = false := by simp; omega
          have hi1c : (0 < i) = False := by simp; omega
          have hi2a : (i == 0) = true := by simp [hi0]
          have hi2b : decide (i = 0) = true := by simp [hi0]
          have hi3 : (lv == 0) = true := by simp; exact f4 hi0
          clear c0 c1 c2 f1 f2 f3 f4 f5 f6 f7 f8 f5' hkc hkv he hlfv hi0
          go_quiet (fail)
          go_wp2_with fail
          go_meet
          exact ⟨rfl, HDR.out _⟩
        · have hi1 : (0 : Int) < (i : Int) := by omega
          have hi2 : ((i : Int) == 0) = false := by simp [hi0]
          have hi1a : 0 < i := by omega
          have hi2a : (i == 0) = false := by simp [hi0]
          have hi2b : decide (i = 0) = false := by simp [hi0]
          obtain ⟨m1, m2⟩ := f3 (by omega)
          have m2' : 0 < lv := m2
          have hi3 : (lv == 0) = false := by simp; omega
          have hi4 : ¬ (nn : Int) < (hf : Int) := by have m1' : mm / 2 ≤ kl.length := m1; rw [HNn.out, HHF.out] at m1'; omega
          obtain ⟨j, HJ⟩ : ∃ j, Hid (i = j + 1) := ⟨i - 1, by unfold Hid; omega⟩
          have hj1 : (i : Int) - 1 = (j : Int) := by have := HJ.out; omega
          have hj2 : (j : Int) < (en : Int) := by have := HJ.out; omega
          obtain ⟨⟨lv', lf', kv', kl'⟩, he'⟩ : ∃ e, es[j]? = some e := ⟨es[j]'(by rw [HEN.out]; have := HJ.out; omega), List.getElem?_eq_getElem _⟩
          obtain ⟨g', hg', p0, _⟩ := HCE.out j _ he'
          cases hg'
          have p0' : wr.cell? ⟨g, j * 3, none⟩ = some (.int .i64 lv') := (HBr.out.cell (World.block_lt_of_cell? w2 _ p0)).trans p0
          have hstp : lv ≤ lv' + 1 := HSF.out.2.2.1 j _ _ he' (by rw [← HJ.out]; exact he)
          have hlv1 : 0 ≤ lv' := (HSF.out.2.1 j _ he').2.2.2.2.2.1
          have hlv2 : lv' ≤ 1000 := (HSF.out.2.1 j _ he').2.2.2.2.2.2.1
          have hstp' : ¬ lv' + 1 < lv := by omega
          clear c0 c1 c2 f1 f2 f3 f4 f5 f6 f7 f8 f5' hkc hkv he hlfv hi0 he' p0 m1 m2 hstp
          go_quiet (fail)
          go_wp2_with fail
          go_meet
          exact ⟨rfl, HDR.out _⟩
      case rest =>
        obtain ⟨rfl, HB12⟩ := hcut
        have C0 : Hid (w2.cell? ⟨g, i * 3, none⟩ = some (.int .i64 lv)) := c0
        have C1 : Hid (w2.cell? ⟨g, i * 3 + 1, none⟩ = some (.bool lf)) := c1
        have HDR2 : Hid (∀ nq, Below w2.heap.size w2 (wc.drewN nq)) := fun nq => HB12.out.trans ⟨rfl, rfl, rfl, Nat.le_refl _, fun _ _ => rfl⟩
        have c0'' : wc.cell? ⟨g, i * 3, none⟩ = some (.int .i64 lv) := (HB12.out.cell (World.block_lt_of_cell? w2 _ c0)).trans c0
        have c1'' : wc.cell? ⟨g, i * 3 + 1, none⟩ = some (.bool lf) := (HB12.out.cell (World.block_lt_of_cell? w2 _ c1)).trans c1
        have c2'' : wc.cell? ⟨g, i * 3 + 2, none⟩ = some (.slice kao nn kcap) := (HB12.out.cell (World.block_lt_of_cell? w2 _ C2.out)).trans C2.out
        clear c0 c1 c2 f1 f2 f3 f4 f5 f6 f7 f8 f5' hkc hkv he hlfv c0' c1' c2' HBr HDR
        rcases hleaf with ⟨rfl, rfl, rfl⟩ | ⟨rfl, rfl, rfl⟩ | ⟨rfl, rfl, hne⟩ | ⟨rfl, rfl, hne⟩
        · go_upto_region 16 with fail
          go_quiet (fail)
          go_wp2_with fail
          go_loopw [12] (fun x wr' => ∃ k : Nat, k ≤ nn ∧ x = .int .i64 (k : Int) ∧ Hid (Below w2.heap.size w2 wr')) (fun x _ => nn - (intOf x).toNat)
          case atStart => exact ⟨0, Nat.zero_le _, rfl, HDR2.out _⟩
          case round =>
            obtain ⟨k, hkn, rfl, HBk⟩ := hrel
            clear HB12 HDR2 c0'' c1'' c2''
            by_cases hkl : k < nn
            · obtain ⟨s, hs⟩ : ∃ s, kl[k]? = some s := ⟨kl[k]'(by rw [HNn.out]; exact hkl), List.getElem?_eq_getElem _⟩
              obtain ⟨gk, ok, rfl, x0⟩ := HKC.out k s hs
              have y0 : wr.cell? ⟨gk, ok + k, none⟩ = some (.string s) := (HBk.out.cell (World.block_lt_of_cell? w2 _ x0)).trans x0
              have y2 : wr.cell? ⟨g, i * 3 + 2, none⟩ = some (.slice (some ⟨gk, ok, none⟩) nn kcap) := (HBk.out.cell (World.block_lt_of_cell? w2 _ C2.out)).trans C2.out
              have HG : Hid _ := get_in hmm64 (HT2.out.below HBk.out) (HSB.out.subset (List.mem_of_getElem? hs))
              have hkni : (k : Int) < (nn : Int) := by omega
              rcases Nat.eq_zero_or_pos k with hk0 | hk0
              · have hk1 : ¬ (0 : Int) < (k : Int) := by omega
                have hk1a : decide (0 < k) = false := by simp; omega
                have hk1b : decide ((0 : Int) < (k : Int)) = false := by simp; omega
                have hk1c : (0 < k) = False := by simp; omega
                clear hs x0 hk0
                go_wp2_with (go_at_call 12; refine Calls.mono HG.out ?_; rintro e w5 ⟨vv, rfl, hb5⟩; have HB5 : Hid (Below w2.heap.size w2 w5) := HBk.out.trans (hb5.mono HBk.out.size); have HD5 : Hid (∀ nq, Below w2.heap.size w2 (w5.drewN nq)) := (fun nq => HB5.out.trans ⟨rfl, rfl, rfl, Nat.le_refl _, fun _ _ => rfl⟩); clear hb5)
                go_quiet (fail)
                go_wp2_with fail
                go_roundw
                case rel => exact ⟨k + 1, by omega, by simp, HD5.out _⟩
                case measure => simp [intOf]; omega
              · have hk1 : (0 : Int) < (k : Int) := by omega
                obtain ⟨j2, HJ2⟩ : ∃ j2, Hid (k = j2 + 1) := ⟨k - 1, by unfold Hid; omega⟩
                have hj2 : (k : Int) - 1 = (j2 : Int) := by have := HJ2.out; omega
                have hj2n : (j2 : Int) < (nn : Int) := by omega
                obtain ⟨s', hs'⟩ : ∃ s', kl[j2]? = some s' := ⟨kl[j2]'(by rw [HNn.out]; have := HJ2.out; omega), List.getElem?_eq_getElem _⟩
                have hst : cmpN s' s < 0 := by
                  have hp : kl.Pairwise (fun a b => cmpN a b < 0) := HRP.out.sublist HSB.out
                  obtain ⟨a1, a2⟩ := List.getElem?_eq_some_iff.1 hs'
                  obtain ⟨b1, b2⟩ := List.getElem?_eq_some_iff.1 hs
                  have := List.pairwise_iff_getElem.1 hp j2 k a1 b1 (by have := HJ2.out; omega)
                  rw [a2, b2] at this
                  exact this
                have x1 : w2.cell? ⟨gk, ok + j2, none⟩ = some (.string s') := by obtain ⟨g', o', e', c'⟩ := HKC.out j2 s' hs'; cases e'; exact c'
                have HX0 : Hid (w2.cell? ⟨gk, ok + k, none⟩ = some (.string s)) := x0
                have HX1 : Hid (w2.cell? ⟨gk, ok + j2, none⟩ = some (.string s')) := x1
                have HCC : Hid (∀ W, Calls Try.prog 21 #[.string s', .string s] W fun e w' => e = .returned (.int .i64 (cmpN s' s)) ∧ w' = W) := fun W => cmpNames_any s' s W
                obtain ⟨cm, HCM⟩ : ∃ cm, Hid (cmpN s' s = cm) := ⟨_, rfl⟩
                rw [HCM.out] at HCC hst
                have hd : decide ((0 : Int) ≤ cm) = false := by simp; omega
                clear hs hs' x0 x1
                go_wp2_with (go_at_call 12; refine Calls.mono HG.out ?_; rintro e w5 ⟨vv, rfl, hb5⟩; have HB5 : Hid (Below w2.heap.size w2 w5) := HBk.out.trans (hb5.mono HBk.out.size); have HD5 : Hid (∀ nq, Below w2.heap.size w2 (w5.drewN nq)) := (fun nq => HB5.out.trans ⟨rfl, rfl, rfl, Nat.le_refl _, fun _ _ => rfl⟩); have z0 := (HB5.out.cell (World.block_lt_of_cell? w2 _ HX0.out)).trans HX0.out; have z1 := (HB5.out.cell (World.block_lt_of_cell? w2 _ HX1.out)).trans HX1.out; have z2 := (HB5.out.cell (World.block_lt_of_cell? w2 _ C2.out)).trans C2.out; clear hb5)
                go_quiet ((go_at_call 21; exact Calls.quiet_of_same (HCC.out _)))
                go_wp2_with fail
                go_roundw
                case rel => exact ⟨k + 1, by omega, by simp, HD5.out _⟩
                case measure => simp [intOf]; omega
            · have hkl' : ¬ (k : Int) < (nn : Int) := by omega
              go_wp2_with fail
              go_roundw
              case rel => exact ⟨i + 1, T + nn, _, by omega, by simp, by simp, rfl, .inr rfl, HTN2.out, HBk.out⟩
              case measure => simp [intOf]; omega
        · go_upto_region 16 with fail
          go_quiet (fail)
          go_wp2_with fail
          go_loopw [12] (fun x wr' => ∃ k : Nat, k ≤ nn ∧ x = .int .i64 (k : Int) ∧ Hid (Below w2.heap.size w2 wr')) (fun x _ => nn - (intOf x).toNat)
          case atStart => exact ⟨0, Nat.zero_le _, rfl, HDR2.out _⟩
          case round =>
            obtain ⟨k, hkn, rfl, HBk⟩ := hrel
            clear HB12 HDR2 c0'' c1'' c2''
            by_cases hkl : k < nn
            · obtain ⟨s, hs⟩ : ∃ s, kl[k]? = some s := ⟨kl[k]'(by rw [HNn.out]; exact hkl), List.getElem?_eq_getElem _⟩
              obtain ⟨gk, ok, rfl, x0⟩ := HKC.out k s hs
              have y0 : wr.cell? ⟨gk, ok + k, none⟩ = some (.string s) := (HBk.out.cell (World.block_lt_of_cell? w2 _ x0)).trans x0
              have y2 : wr.cell? ⟨g, i * 3 + 2, none⟩ = some (.slice (some ⟨gk, ok, none⟩) nn kcap) := (HBk.out.cell (World.block_lt_of_cell? w2 _ C2.out)).trans C2.out
              have HG : Hid _ := get_in hmm64 (HT2.out.below HBk.out) (HSB.out.subset (List.mem_of_getElem? hs))
              have hkni : (k : Int) < (nn : Int) := by omega
              rcases Nat.eq_zero_or_pos k with hk0 | hk0
              · have hk1 : ¬ (0 : Int) < (k : Int) := by omega
                have hk1a : decide (0 < k) = false := by simp; omega
                have hk1b : decide ((0 : Int) < (k : Int)) = false := by simp; omega
                have hk1c : (0 < k) = False := by simp; omega
                clear hs x0 hk0
                go_wp2_with (go_at_call 12; refine Calls.mono HG.out ?_; rintro e w5 ⟨vv, rfl, hb5⟩; have HB5 : Hid (Below w2.heap.size w2 w5) := HBk.out.trans (hb5.mono HBk.out.size); have HD5 : Hid (∀ nq, Below w2.heap.size w2 (w5.drewN nq)) := (fun nq => HB5.out.trans ⟨rfl, rfl, rfl, Nat.le_refl _, fun _ _ => rfl⟩); clear hb5)
                go_quiet (fail)
                go_wp2_with fail
                go_roundw
                case rel => exact ⟨k + 1, by omega, by simp, HD5.out _⟩
                case measure => simp [intOf]; omega
              · have hk1 : (0 : Int) < (k : Int) := by omega
                obtain ⟨j2, HJ2⟩ : ∃ j2, Hid (k = j2 + 1) := ⟨k - 1, by unfold Hid; omega⟩
                have hj2 : (k : Int) - 1 = (j2 : Int) := by have := HJ2.out; omega
                have hj2n : (j2 : Int) < (nn : Int) := by omega
                obtain ⟨s', hs'⟩ : ∃ s', kl[j2]? = some s' := ⟨kl[j2]'(by rw [HNn.out]; have := HJ2.out; omega), List.getElem?_eq_getElem _⟩
                have hst : cmpN s' s < 0 := by
                  have hp : kl.Pairwise (fun a b => cmpN a b < 0) := HRP.out.sublist HSB.out
                  obtain ⟨a1, a2⟩ := List.getElem?_eq_some_iff.1 hs'
                  obtain ⟨b1, b2⟩ := List.getElem?_eq_some_iff.1 hs
                  have := List.pairwise_iff_getElem.1 hp j2 k a1 b1 (by have := HJ2.out; omega)
                  rw [a2, b2] at this
                  exact this
                have x1 : w2.cell? ⟨gk, ok + j2, none⟩ = some (.string s') := by obtain ⟨g', o', e', c'⟩ := HKC.out j2 s' hs'; cases e'; exact c'
                have HX0 : Hid (w2.cell? ⟨gk, ok + k, none⟩ = some (.string s)) := x0
                have HX1 : Hid (w2.cell? ⟨gk, ok + j2, none⟩ = some (.string s')) := x1
                have HCC : Hid (∀ W, Calls Try.prog 21 #[.string s', .string s] W fun e w' => e = .returned (.int .i64 (cmpN s' s)) ∧ w' = W) := fun W => cmpNames_any s' s W
                obtain ⟨cm, HCM⟩ : ∃ cm, Hid (cmpN s' s = cm) := ⟨_, rfl⟩
                rw [HCM.out] at HCC hst
                have hd : decide ((0 : Int) ≤ cm) = false := by simp; omega
                clear hs hs' x0 x1
                go_wp2_with (go_at_call 12; refine Calls.mono HG.out ?_; rintro e w5 ⟨vv, rfl, hb5⟩; have HB5 : Hid (Below w2.heap.size w2 w5) := HBk.out.trans (hb5.mono HBk.out.size); have HD5 : Hid (∀ nq, Below w2.heap.size w2 (w5.drewN nq)) := (fun nq => HB5.out.trans ⟨rfl, rfl, rfl, Nat.le_refl _, fun _ _ => rfl⟩); have z0 := (HB5.out.cell (World.block_lt_of_cell? w2 _ HX0.out)).trans HX0.out; have z1 := (HB5.out.cell (World.block_lt_of_cell? w2 _ HX1.out)).trans HX1.out; have z2 := (HB5.out.cell (World.block_lt_of_cell? w2 _ C2.out)).trans C2.out; clear hb5)
                go_quiet ((go_at_call 21; exact Calls.quiet_of_same (HCC.out _)))
                go_wp2_with fail
                go_roundw
                case rel => exact ⟨k + 1, by omega, by simp, HD5.out _⟩
                case measure => simp [intOf]; omega
            · have hkl' : ¬ (k : Int) < (nn : Int) := by omega
              go_wp2_with fail
              go_roundw
              case rel => exact ⟨i + 1, T + nn, _, by omega, by simp, by simp, rfl, .inr rfl, HTN2.out, HBk.out⟩
              case measure => simp [intOf]; omega
        · go_upto_region 16 with fail
          go_quiet (fail)
          go_wp2_with fail
          go_loopw [12] (fun x wr' => ∃ k : Nat, k ≤ nn ∧ x = .int .i64 (k : Int) ∧ Hid (Below w2.heap.size w2 wr')) (fun x _ => nn - (intOf x).toNat)
          case atStart => exact ⟨0, Nat.zero_le _, rfl, HDR2.out _⟩
          case round =>
            obtain ⟨k, hkn, rfl, HBk⟩ := hrel
            clear HB12 HDR2 c0'' c1'' c2''
            by_cases hkl : k < nn
            · obtain ⟨s, hs⟩ : ∃ s, kl[k]? = some s := ⟨kl[k]'(by rw [HNn.out]; exact hkl), List.getElem?_eq_getElem _⟩
              obtain ⟨gk, ok, rfl, x0⟩ := HKC.out k s hs
              have y0 : wr.cell? ⟨gk, ok + k, none⟩ = some (.string s) := (HBk.out.cell (World.block_lt_of_cell? w2 _ x0)).trans x0
              have y2 : wr.cell? ⟨g, i * 3 + 2, none⟩ = some (.slice (some ⟨gk, ok, none⟩) nn kcap) := (HBk.out.cell (World.block_lt_of_cell? w2 _ C2.out)).trans C2.out
              have HG : Hid _ := get_in hmm64 (HT2.out.below HBk.out) (HSB.out.subset (List.mem_of_getElem? hs))
              have hkni : (k : Int) < (nn : Int) := by omega
              rcases Nat.eq_zero_or_pos k with hk0 | hk0
              · have hk1 : ¬ (0 : Int) < (k : Int) := by omega
                have hk1a : decide (0 < k) = false := by simp; omega
                have hk1b : decide ((0 : Int) < (k : Int)) = false := by simp; omega
                have hk1c : (0 < k) = False := by simp; omega
                clear hs x0 hk0
                go_wp2_with (go_at_call 12; refine Calls.mono HG.out ?_; rintro e w5 ⟨vv, rfl, hb5⟩; have HB5 : Hid (Below w2.heap.size w2 w5) := HBk.out.trans (hb5.mono HBk.out.size); have HD5 : Hid (∀ nq, Below w2.heap.size w2 (w5.drewN nq)) := (fun nq => HB5.out.trans ⟨rfl, rfl, rfl, Nat.le_refl _, fun _ _ => rfl⟩); clear hb5)
                go_quiet (fail)
                go_wp2_with fail
                go_roundw
                case rel => exact ⟨k + 1, by omega, by simp, HD5.out _⟩
                case measure => simp [intOf]; omega
              · have hk1 : (0 : Int) < (k : Int) := by omega
                obtain ⟨j2, HJ2⟩ : ∃ j2, Hid (k = j2 + 1) := ⟨k - 1, by unfold Hid; omega⟩
                have hj2 : (k : Int) - 1 = (j2 : Int) := by have := HJ2.out; omega
                have hj2n : (j2 : Int) < (nn : Int) := by omega
                obtain ⟨s', hs'⟩ : ∃ s', kl[j2]? = some s' := ⟨kl[j2]'(by rw [HNn.out]; have := HJ2.out; omega), List.getElem?_eq_getElem _⟩
                have hst : cmpN s' s < 0 := by
                  have hp : kl.Pairwise (fun a b => cmpN a b < 0) := HRP.out.sublist HSB.out
                  obtain ⟨a1, a2⟩ := List.getElem?_eq_some_iff.1 hs'
                  obtain ⟨b1, b2⟩ := List.getElem?_eq_some_iff.1 hs
                  have := List.pairwise_iff_getElem.1 hp j2 k a1 b1 (by have := HJ2.out; omega)
                  rw [a2, b2] at this
                  exact this
                have x1 : w2.cell? ⟨gk, ok + j2, none⟩ = some (.string s') := by obtain ⟨g', o', e', c'⟩ := HKC.out j2 s' hs'; cases e'; exact c'
                have HX0 : Hid (w2.cell? ⟨gk, ok + k, none⟩ = some (.string s)) := x0
                have HX1 : Hid (w2.cell? ⟨gk, ok + j2, none⟩ = some (.string s')) := x1
                have HCC : Hid (∀ W, Calls Try.prog 21 #[.string s', .string s] W fun e w' => e = .returned (.int .i64 (cmpN s' s)) ∧ w' = W) := fun W => cmpNames_any s' s W
                obtain ⟨cm, HCM⟩ : ∃ cm, Hid (cmpN s' s = cm) := ⟨_, rfl⟩
                rw [HCM.out] at HCC hst
                have hd : decide ((0 : Int) ≤ cm) = false := by simp; omega
                clear hs hs' x0 x1
                go_wp2_with (go_at_call 12; refine Calls.mono HG.out ?_; rintro e w5 ⟨vv, rfl, hb5⟩; have HB5 : Hid (Below w2.heap.size w2 w5) := HBk.out.trans (hb5.mono HBk.out.size); have HD5 : Hid (∀ nq, Below w2.heap.size w2 (w5.drewN nq)) := (fun nq => HB5.out.trans ⟨rfl, rfl, rfl, Nat.le_refl _, fun _ _ => rfl⟩); have z0 := (HB5.out.cell (World.block_lt_of_cell? w2 _ HX0.out)).trans HX0.out; have z1 := (HB5.out.cell (World.block_lt_of_cell? w2 _ HX1.out)).trans HX1.out; have z2 := (HB5.out.cell (World.block_lt_of_cell? w2 _ C2.out)).trans C2.out; clear hb5)
                go_quiet ((go_at_call 21; exact Calls.quiet_of_same (HCC.out _)))
                go_wp2_with fail
                go_roundw
                case rel => exact ⟨k + 1, by omega, by simp, HD5.out _⟩
                case measure => simp [intOf]; omega
            · have hkl' : ¬ (k : Int) < (nn : Int) := by omega
              go_wp2_with fail
              go_roundw
              case rel => exact ⟨i + 1, T + nn, _, by omega, by simp, by simp, rfl, .inr rfl, HTN2.out, HBk.out⟩
              case measure => simp [intOf]; omega
        · go_upto_region 16 with fail
          go_quiet (fail)
          go_wp2_with fail
          go_loopw [12] (fun x wr' => ∃ k : Nat, k ≤ nn ∧ x = .int .i64 (k : Int) ∧ Hid (Below w2.heap.size w2 wr')) (fun x _ => nn - (intOf x).toNat)
          case atStart => exact ⟨0, Nat.zero_le _, rfl, HDR2.out _⟩
          case round =>
            obtain ⟨k, hkn, rfl, HBk⟩ := hrel
            clear HB12 HDR2 c0'' c1'' c2''
            by_cases hkl : k < nn
            · obtain ⟨s, hs⟩ : ∃ s, kl[k]? = some s := ⟨kl[k]'(by rw [HNn.out]; exact hkl), List.getElem?_eq_getElem _⟩
              obtain ⟨gk, ok, rfl, x0⟩ := HKC.out k s hs
              have y0 : wr.cell? ⟨gk, ok + k, none⟩ = some (.string s) := (HBk.out.cell (World.block_lt_of_cell? w2 _ x0)).trans x0
              have y2 : wr.cell? ⟨g, i * 3 + 2, none⟩ = some (.slice (some ⟨gk, ok, none⟩) nn kcap) := (HBk.out.cell (World.block_lt_of_cell? w2 _ C2.out)).trans C2.out
              have HG : Hid _ := get_in hmm64 (HT2.out.below HBk.out) (HSB.out.subset (List.mem_of_getElem? hs))
              have hkni : (k : Int) < (nn : Int) := by omega
              rcases Nat.eq_zero_or_pos k with hk0 | hk0
              · have hk1 : ¬ (0 : Int) < (k : Int) := by omega
                have hk1a : decide (0 < k) = false := by simp; omega
                have hk1b : decide ((0 : Int) < (k : Int)) = false := by simp; omega
                have hk1c : (0 < k) = False := by simp; omega
                clear hs x0 hk0
                go_wp2_with (go_at_call 12; refine Calls.mono HG.out ?_; rintro e w5 ⟨vv, rfl, hb5⟩; have HB5 : Hid (Below w2.heap.size w2 w5) := HBk.out.trans (hb5.mono HBk.out.size); have HD5 : Hid (∀ nq, Below w2.heap.size w2 (w5.drewN nq)) := (fun nq => HB5.out.trans ⟨rfl, rfl, rfl, Nat.le_refl _, fun _ _ => rfl⟩); clear hb5)
                go_quiet (fail)
                go_wp2_with fail
                go_roundw
                case rel => exact ⟨k + 1, by omega, by simp, HD5.out _⟩
                case measure => simp [intOf]; omega
              · have hk1 : (0 : Int) < (k : Int) := by omega
                obtain ⟨j2, HJ2⟩ : ∃ j2, Hid (k = j2 + 1) := ⟨k - 1, by unfold Hid; omega⟩
                have hj2 : (k : Int) - 1 = (j2 : Int) := by have := HJ2.out; omega
                have hj2n : (j2 : Int) < (nn : Int) := by omega
                obtain ⟨s', hs'⟩ : ∃ s', kl[j2]? = some s' := ⟨kl[j2]'(by rw [HNn.out]; have := HJ2.out; omega), List.getElem?_eq_getElem _⟩
                have hst : cmpN s' s < 0 := by
                  have hp : kl.Pairwise (fun a b => cmpN a b < 0) := HRP.out.sublist HSB.out
                  obtain ⟨a1, a2⟩ := List.getElem?_eq_some_iff.1 hs'
                  obtain ⟨b1, b2⟩ := List.getElem?_eq_some_iff.1 hs
                  have := List.pairwise_iff_getElem.1 hp j2 k a1 b1 (by have := HJ2.out; omega)
                  rw [a2, b2] at this
                  exact this
                have x1 : w2.cell? ⟨gk, ok + j2, none⟩ = some (.string s') := by obtain ⟨g', o', e', c'⟩ := HKC.out j2 s' hs'; cases e'; exact c'
                have HX0 : Hid (w2.cell? ⟨gk, ok + k, none⟩ = some (.string s)) := x0
                have HX1 : Hid (w2.cell? ⟨gk, ok + j2, none⟩ = some (.string s')) := x1
                have HCC : Hid (∀ W, Calls Try.prog 21 #[.string s', .string s] W fun e w' => e = .returned (.int .i64 (cmpN s' s)) ∧ w' = W) := fun W => cmpNames_any s' s W
                obtain ⟨cm, HCM⟩ : ∃ cm, Hid (cmpN s' s = cm) := ⟨_, rfl⟩
                rw [HCM.out] at HCC hst
                have hd : decide ((0 : Int) ≤ cm) = false := by simp; omega
                clear hs hs' x0 x1
                go_wp2_with (go_at_call 12; refine Calls.mono HG.out ?_; rintro e w5 ⟨vv, rfl, hb5⟩; have HB5 : Hid (Below w2.heap.size w2 w5) := HBk.out.trans (hb5.mono HBk.out.size); have HD5 : Hid (∀ nq, Below w2.heap.size w2 (w5.drewN nq)) := (fun nq => HB5.out.trans ⟨rfl, rfl, rfl, Nat.le_refl _, fun _ _ => rfl⟩); have z0 := (HB5.out.cell (World.block_lt_of_cell? w2 _ HX0.out)).trans HX0.out; have z1 := (HB5.out.cell (World.block_lt_of_cell? w2 _ HX1.out)).trans HX1.out; have z2 := (HB5.out.cell (World.block_lt_of_cell? w2 _ C2.out)).trans C2.out; clear hb5)
                go_quiet ((go_at_call 21; exact Calls.quiet_of_same (HCC.out _)))
                go_wp2_with fail
                go_roundw
                case rel => exact ⟨k + 1, by omega, by simp, HD5.out _⟩
                case measure => simp [intOf]; omega
            · have hkl' : ¬ (k : Int) < (nn : Int) := by omega
              go_wp2_with fail
              go_roundw
              case rel => exact ⟨i + 1, T + nn, _, by omega, by simp, by simp, rfl, .inl rfl, HTN2.out, HBk.out⟩
              case measure => simp [intOf]; omega
    · obtain rfl : i = en := by omega
      have HE : Hid (T = N) := by unfold Hid; rw [← HTT.out, ← HNN.out, ← HSF.out.2.2.2.1, ← HEN.out, List.take_length]
      have HLEN : Hid (Calls Try.prog 16 #[.pointer (some ⟨p, 0, none⟩)] wr fun e w' => e = .returned (.int .i64 (T : Int)) ∧ w' = wr) := by unfold Hid; rw [HE.out, ← HNN.out]; exact len_any (HT2.out.below HBr.out)
      have hcase : (i = 0 ∧ T = 0) ∨ (0 < i ∧ 0 < T) := by
        rw [HE.out, ← HNN.out, ← HEN.out]
        have h1 := HSF.out.2.2.2.2
        rcases Nat.eq_zero_or_pos es.length with h3 | h3
        · have := h1.1 (List.eq_nil_of_length_eq_zero h3); rw [this]; exact .inl ⟨h3, rfl⟩
        · refine .inr ⟨h3, ?_⟩
          rcases Nat.eq_zero_or_pos F.length with h4 | h4
          · have := h1.2 (List.eq_nil_of_length_eq_zero h4); rw [this] at h3; simp at h3
          · exact h4
      have HFIN : Hid (∀ w8, Below wr.heap.size wr w8 → Below w.heap.size w w8) := fun w8 h8 => (HB2.out.trans (HBr.out.mono HB2.out.size)).trans (h8.mono (Nat.le_trans HB2.out.size HBr.out.size))
      clear HE
      rcases hcase with ⟨hi0, hT0⟩ | ⟨hi0, hT0⟩
      · subst hi0 hT0
        go_wp2_with (first
          | (go_at_call 16; refine Calls.mono HLEN.out ?_; rintro e w4 ⟨rfl, hw4⟩; obtain rfl := hw4.symm)
          | (go_at_call 9; refine (lives7_any _).mono ?_; rintro e w8 ⟨rfl, hb8⟩; have HB8 : Hid (Below wr.heap.size wr w8) := hb8; clear hb8))
        go_ret
        exact ⟨rfl, HFIN.out _ HB8.out⟩
      · have hi1 : (0 : Int) < (i : Int) := by omega
        have hT1 : (0 : Int) < (T : Int) := by omega
        go_wp2_with (first
          | (go_at_call 16; refine Calls.mono HLEN.out ?_; rintro e w4 ⟨rfl, hw4⟩; obtain rfl := hw4.symm)
          | (go_at_call 9; refine (lives7_any _).mono ?_; rintro e w8 ⟨rfl, hb8⟩; have HB8 : Hid (Below wr.heap.size wr w8) := hb8; clear hb8))
        go_ret
        exact ⟨rfl, HFIN.out _ HB8.out⟩
end Go.Proofs.Ytggbbmbnbhiggaa

/-
  Bytes that are all alike become short, where a match coder comes ahead of all differences: the law's walk. No conditions.
-/
import Derived.Test.YtgodoogmbdgeoaaFiBackW
import Derived.Test.YtgodoogmbdgeoaaFiAlk
namespace Go.Proofs.Ytgodoogmbdgeoaa
open Go.RowKit
set_option linter.unusedVariables false
set_option maxRecDepth 100000

theorem rep_setF {j len : Nat} (x : Int) (h : j < len) : (List.replicate j x ++ List.replicate (len - j) (0 : Int)).set j x = List.replicate (j + 1) x ++ List.replicate (len - (j + 1)) 0 := by
  rw [List.set_append_right _ _ (by simp), List.length_replicate, Nat.sub_self, show len - j = (len - (j + 1)) + 1 by omega, List.replicate_succ, List.set_cons_zero, List.replicate_succ', List.append_assoc]
  rfl
theorem ap_fit {L : List Fil} {b : List Int} (hb : b.length ≤ 4096) : apE L b.length = chE L ∧ apR L b = if chE L = 0 then apL L b else [] := by
  by_cases h : chE L = 0
  · obtain ⟨e1, e2⟩ := ap_yes h (b := b) (by omega)
    rw [e1, e2, if_pos h, h]; exact ⟨rfl, rfl⟩
  · obtain ⟨e1, e2⟩ := ap_bad h b
    rw [e1, e2, if_neg h]; exact ⟨rfl, rfl⟩
theorem byt_rep {k : Nat} {x : Int} (h : 0 ≤ x ∧ x ≤ 255) : Byt (List.replicate k x) := by
  rw [byt_mem]
  intro y hy
  rw [List.eq_of_mem_replicate hy]; exact h
set_option maxHeartbeats 32000000 in
theorem filterAlike_walk (v : Value) (L : List Fil) (x a1 : Int) (w : World) (hl : Fls w v L) (hlb : L.length ≤ 8796093021952) (h0 : (Lit.int .u8 x).wf = true) (h1 : (Lit.int .u64 a1).wf = true) :
    Calls Try.prog 8 #[v, .int .u8 x, .int .u64 a1] w fun e w' => e = .returned (.bool true) ∧ Below w.heap.size w w' := by
  obtain ⟨i0, hi, hi0, hi1, hi2⟩ := info_parts Try.info5
  have hx : 0 ≤ x ∧ x ≤ 255 := by simp [Lit.wf, IntKind.min, IntKind.max, IntKind.bits, IntKind.signed] at h0; omega
  have ha : 0 ≤ a1 := by simp [Lit.wf, IntKind.min, IntKind.max, IntKind.bits, IntKind.signed] at h1; omega
  obtain ⟨k, hk⟩ : ∃ k : Nat, a1.tmod 4097 = (k : Int) := ⟨(a1 % 4097).toNat, by rw [Int.tmod_eq_emod_of_nonneg ha]; omega⟩
  have hkb : k < 4097 := by
    rw [Int.tmod_eq_emod_of_nonneg ha] at hk
    omega
  have hw1 : wrap64 (k : Int) = (k : Int) := by unfold wrap64; omega
  have hw2 : IntKind.i64.wrap (k : Int) = (k : Int) := wrap_i64_in _ (by omega) (by omega)
  have hw3 : IntKind.u64.wrap (k : Int) = (k : Int) := by rw [IntKind.wrap_u64]; omega
  have HL : Hid (Fls w v L) := hl
  have HLB : Hid (L.length ≤ 8796093021952) := hlb
  have HKB : Hid (k < 4097) := hkb
  have HX : Hid (0 ≤ x ∧ x ≤ 255) := hx
  obtain ⟨ao, cap, rfl, hc, hcell⟩ := hl.opened
  obtain ⟨n, hn⟩ : ∃ n, L.length = n := ⟨_, rfl⟩
  have HC : Hid (∀ i, i < n → ∃ b off, ao = some ⟨b, off, none⟩ ∧ w.cell? ⟨b, off + i * 2, none⟩ = some (.int .i64 (L.getD i (0, 0)).1) ∧ w.cell? ⟨b, off + i * 2 + 1, none⟩ = some (.int .i64 (L.getD i (0, 0)).2) ∧ b < w.heap.size) := by rw [← hn]; exact hcell
  have HN : Hid (L.length = n) := hn
  rw [hn] at HL hc hlb ⊢
  clear h0 h1 hl hcell hn hc hx
  go_enter Try.func8, Try.ntmps8
  go_wp2_with fail
  go_loopw [8] (fun i wr => ∃ j : Nat, j ≤ n ∧ i = .int .i64 j ∧ Hid (∀ q, q < j → (L.getD q (0, 0)).1 ≠ 2 ∧ (L.getD q (0, 0)).1 ≠ 3) ∧ Hid (Below w.heap.size w wr)) (fun i _ => n + 1 - (intOf i).toNat)
  case atStart => exact ⟨0, Nat.zero_le _, rfl, fun q hq => by omega, Below.refl _ _⟩
  case round =>
    obtain ⟨wo, rfl⟩ : ∃ wo, wo = wr := ⟨_, rfl⟩
    obtain ⟨j, hj, rfl, HP, HB⟩ := hrel
    have hjn : (j : Int) ≤ (n : Int) := by omega
    by_cases hlt : j < n
    · obtain ⟨b0, off, rfl, c0, c1, hbl⟩ := HC.out j hlt
      replace c0 := (HB.out.cell (p := ⟨b0, off + j * 2, none⟩) hbl).trans c0
      clear c1 hbl
      obtain ⟨f1, hf1⟩ : ∃ f, (L.getD j (0, 0)).1 = f := ⟨_, rfl⟩
      have HF1 : Hid ((L.getD j (0, 0)).1 = f1) := hf1
      rw [hf1] at c0
      clear hf1
      have hne : ((j : Int) == (n : Int)) = false := by simp; omega
      by_cases h2 : f1 = 2
      · subst h2
        have HLV : Hid _ := lives16_any wo
        go_wp2_with fail
        refine Calls.mono HLV.out ?_
        rintro e w4 ⟨rfl, hb4⟩
        have HB4 : Hid (Below w.heap.size w w4) := box_next HB.out HB.out.size hb4
        clear hb4
        go_wp2_with fail
        go_ret
        exact ⟨rfl, HB4.out⟩
      · by_cases h3 : f1 = 3
        · subst h3
          have HWR : Hid (w.heap.size ≤ wo.heap.size) := HB.out.size
          clear h2
          go_wp2_with (first | (at_make; refine wpList_make_bytes _ rfl _ _ 28 rfl i0 Try.underlying28 hi hi0 hi1 hi2 _ _ _ _ k rfl rfl rfl rfl (by omega) ?_; intro w5 hr5 hg5; have HR5 : Hid (Row w5 wo.heap.size (List.replicate k 0) ∧ Below wo.heap.size wo w5) := ⟨hr5, below_of_grown hg5⟩; clear hr5 hg5))
          go_loopw [10] (fun i ws => ∃ j : Nat, j ≤ k ∧ i = .int .i64 j ∧ Row ws wo.heap.size (List.replicate j x ++ List.replicate (k - j) 0) ∧ Below wo.heap.size wo ws) (fun i _ => k - (intOf i).toNat)
          case atStart => exact ⟨0, Nat.zero_le _, rfl, by simpa using HR5.out.1, HR5.out.2⟩
          case round =>
            obtain ⟨j2, hj2, rfl, hrj, hbj⟩ := hrel
            by_cases hlt3 : j2 < k
            · have hc2 := hrj.cell (i := j2) (by simp; omega)
              have hf2 := hrj.free j2
              have HSET : Hid _ := hrj.set j2 x
              rw [rep_setF x hlt3] at HSET
              have HBJ2 : Hid (Below wo.heap.size wo _) := hbj
              clear hrj hbj
              go_wp2_with fail
              go_roundw
              case rel => exact ⟨j2 + 1, by omega, by go_num, HSET.out, Below.setCell (p := ⟨wo.heap.size, j2, none⟩) HBJ2.out (Nat.le_refl _) _⟩
              case measure => simp [intOf]; omega
            · obtain rfl : k = j2 := by omega
              rw [Nat.sub_self, List.replicate_zero, List.append_nil] at hrj
              have HBJ2 : Hid (Below w.heap.size w _) := box_next HB.out HWR.out hbj
              have hwh := hrj.whole
              rw [List.length_replicate] at hwh
              have HA : Hid _ := apply_any _ _ L (List.replicate k x) _ (HL.out.below HBJ2.out) hwh (byt_rep HX.out) HLB.out (by rw [List.length_replicate]; omega)
              obtain ⟨e1, e2⟩ := ap_fit (L := L) (b := List.replicate k x) (by rw [List.length_replicate]; omega)
              rw [e1, e2] at HA
              have HCK : Hid (∀ W, Below w.heap.size w W → Calls Try.prog 9 #[_] W fun e w' => e = .returned (.int .i64 (chE L)) ∧ Below W.heap.size W w') := fun W h => check_any _ L W (HL.out.below h) HLB.out
              have HAK : Hid (chE L = 0 → 1 ≤ (apL L (List.replicate k x)).length ∧ (apL L (List.replicate k x)).length ≤ k / 64 + 128) := fun h => alike_all h (by rw [HN.out]; exact hlt) HF1.out HP.out k x
              obtain ⟨c, hc0⟩ : ∃ c, chE L = c := ⟨_, rfl⟩
              rw [hc0] at HA HCK HAK
              clear hrj hbj hwh e1 e2 hc0 c0
              by_cases hz : c = 0
              · subst hz
                rw [if_pos rfl] at HA
                have hak := HAK.out rfl
                generalize apL L (List.replicate k x) = R at *
                have hq : (k : Int).tdiv 64 = ((k / 64 : Nat) : Int) := by rw [Int.tdiv_eq_ediv_of_nonneg (by omega)]; omega
                obtain ⟨kq, hkq⟩ : ∃ kq, k / 64 = kq := ⟨_, rfl⟩
                rw [hkq] at hq hak
                have hqb : kq ≤ k := by rw [← hkq]; exact Nat.div_le_self _ _
                have hq1 : IntKind.i64.wrap (kq : Int) = (kq : Int) := wrap_i64_in _ (by omega) (by omega)
                have hq2 : IntKind.i64.wrap ((kq : Int) + 128) = (kq : Int) + 128 := wrap_i64_in _ (by omega) (by omega)
                have hq3 : (k : Int) / 64 = (kq : Int) := by omega
                have HAQ : Hid (1 ≤ R.length ∧ R.length ≤ kq + 128) := hak
                clear hkq hak HAK
                go_wp2_with fail
                refine Calls.mono HA.out ?_
                intro e w2 h2
                obtain ⟨a2, m, c2, rfl, hm, ho2, hb2⟩ := h2.openF
                have HB2 : Hid (Below w.heap.size w w2) := box_next HBJ2.out HBJ2.out.size hb2
                have q1 : (1 : Int) ≤ (m : Int) := by have := HAQ.out; omega
                have q2 : (m : Int) ≤ (kq : Int) + 128 := by have := HAQ.out; omega
                have HC2 : Hid _ := HCK.out w2 HB2.out
                clear ho2 hb2 h2 hm
                go_wp2_with fail
                refine Calls.mono HC2.out ?_
                rintro e w3 ⟨rfl, hb3⟩
                have HB3 : Hid (Below w.heap.size w w3) := box_next HB2.out HB2.out.size hb3
                have HLV3 : Hid _ := lives16_any w3
                clear hb3
                go_wp2_with fail
                refine Calls.mono HLV3.out ?_
                rintro e w4 ⟨rfl, hb4⟩
                have HB4 : Hid (Below w.heap.size w w4) := box_next HB3.out HB3.out.size hb4
                clear hb4
                go_wp2_with fail
                go_ret
                exact ⟨rfl, HB4.out⟩
              · rw [if_neg hz] at HA
                have hcne : (c != 0) = true := by simp [hz]
                clear HAK hz
                go_wp2_with fail
                refine Calls.mono HA.out ?_
                intro e w2 h2
                obtain ⟨a2, m, c2, rfl, hm, ho2, hb2⟩ := h2.openF
                obtain rfl : 0 = m := hm
                have HB2 : Hid (Below w.heap.size w w2) := box_next HBJ2.out HBJ2.out.size hb2
                have HC2 : Hid _ := HCK.out w2 HB2.out
                clear ho2 hb2 h2
                go_wp2_with fail
                refine Calls.mono HC2.out ?_
                rintro e w3 ⟨rfl, hb3⟩
                have HB3 : Hid (Below w.heap.size w w3) := box_next HB2.out HB2.out.size hb3
                have HC3 : Hid _ := HCK.out w3 HB3.out
                clear hb3
                go_wp2_with fail
                refine Calls.mono HC3.out ?_
                rintro e w4 ⟨rfl, hb4⟩
                have HB4 : Hid (Below w.heap.size w w4) := box_next HB3.out HB3.out.size hb4
                have HLV4 : Hid _ := lives16_any w4
                clear hb4
                go_wp2_with fail
                refine Calls.mono HLV4.out ?_
                rintro e w5 ⟨rfl, hb5⟩
                have HB5 : Hid (Below w.heap.size w w5) := box_next HB4.out HB4.out.size hb5
                clear hb5
                go_wp2_with fail
                go_ret
                exact ⟨rfl, HB5.out⟩
        · go_wp2_with fail
          go_roundw
          case rel => exact ⟨j + 1, by omega, by go_num, fun q hq => by
            rcases Nat.lt_succ_iff_lt_or_eq.1 hq with h | rfl
            · exact HP.out q h
            · rw [HF1.out]; exact ⟨h2, h3⟩, HB.out⟩
          case measure => simp [intOf]; omega
    · obtain rfl : j = n := by omega
      have HLV : Hid _ := lives16_any wo
      go_wp2_with fail
      refine Calls.mono HLV.out ?_
      rintro e w4 ⟨rfl, hb4⟩
      have HB4 : Hid (Below w.heap.size w w4) := box_next HB.out HB.out.size hb4
      clear hb4
      go_wp2_with fail
      go_ret
      exact ⟨rfl, HB4.out⟩
end Go.Proofs.Ytgodoogmbdgeoaa

/-
  The program's Apply. Conditions: bytes are bytes; their number, and that of the filters, is one that memory bears.
-/
import Derived.Test.YtgodoogmbdgeoabFiDo
namespace Go.Proofs.Ytgodoogmbdgeoab
open Go.RowKit
set_option linter.unusedVariables false
set_option maxRecDepth 100000

theorem ap_bad {L : List Fil} (h : chE L ≠ 0) (b : List Int) : apE L b.length = chE L ∧ apR L b = [] := by
  have e : apE L b.length = chE L := by rw [apE, if_neg h]
  exact ⟨e, by rw [apR, if_neg (by rw [e]; exact h)]⟩
theorem ap_big {L : List Fil} (h : chE L = 0) {b : List Int} (hb : 4096 < b.length) : apE L b.length = 20 ∧ apR L b = [] := by
  have e : apE L b.length = 20 := by rw [apE, if_pos h, if_pos hb]
  exact ⟨e, by rw [apR, if_neg (by rw [e]; omega)]⟩
theorem ap_yes {L : List Fil} (h : chE L = 0) {b : List Int} (hb : ¬ 4096 < b.length) : apE L b.length = 0 ∧ apR L b = apL L b := by
  have e : apE L b.length = 0 := by rw [apE, if_pos h, if_neg hb]
  exact ⟨e, by rw [apR, if_pos e]⟩
theorem may_at {L : List Fil} (h : chE L = 0) {j : Nat} (hj : j < L.length) : mayP (L.getD j (0, 0)) := by
  refine (chE_ok h).2 _ ?_
  rw [List.getD, List.getElem?_eq_getElem hj]
  exact List.getElem_mem hj
theorem ap_room {L : List Fil} (h : chE L = 0) {b : List Int} (hb : b.length ≤ 4096) (j : Nat) : (apL (L.take j) b).length ≤ 4112 := by
  have h1 := ap_len (L.take j) b
  have h2 := (chE_ok h).1
  rw [List.length_take] at h1
  omega
theorem way_do (a c : Value) (W : World) : (Instr.field 38 (.agg #[a, c]) 0).run Try.prog W = .ok a W := rfl
theorem way_un (a c : Value) (W : World) : (Instr.field 38 (.agg #[a, c]) 1).run Try.prog W = .ok c W := rfl
set_option maxHeartbeats 64000000 in
theorem apply_any (v x : Value) (L : List Fil) (b : List Int) (w : World) (hl : Fls w v L) (hb : Bs w x b) (hby : Byt b) (hlb : L.length ≤ 8796093021952) (hbl : b.length ≤ 140737488351232) :
    Calls Try.prog 4 #[v, x] w (TlP w (apE L b.length) (apR L b)) := by
  have HK : Hid _ := check_any v L w hl hlb
  obtain ⟨ao, cap, rfl, hc, hcell⟩ := hl.opened
  obtain ⟨xo, xc, rfl, hq1, hq2, hq3⟩ := id hb
  clear hq1 hq2 hq3
  obtain ⟨n, hn⟩ : ∃ n, L.length = n := ⟨_, rfl⟩
  have HC : Hid (∀ i, i < n → ∃ b off, ao = some ⟨b, off, none⟩ ∧ w.cell? ⟨b, off + i * 2, none⟩ = some (.int .i64 (L.getD i (0, 0)).1) ∧ w.cell? ⟨b, off + i * 2 + 1, none⟩ = some (.int .i64 (L.getD i (0, 0)).2) ∧ b < w.heap.size) := by rw [← hn]; exact hcell
  have HN : Hid (L.length = n) := hn
  rw [hn] at HK hc hlb ⊢
  clear hl hcell
  by_cases h0 : chE L = 0
  · by_cases hbig : 4096 < b.length
    · obtain ⟨e1, e2⟩ := ap_big h0 hbig
      rw [e1, e2]
      obtain ⟨m, hm⟩ : ∃ m, b.length = m := ⟨_, rfl⟩
      rw [hm] at hbig hbl ⊢
      have hbi : (4096 : Int) < (m : Int) := by omega
      rw [h0] at HK
      clear hb e1 e2 hn hby hc
      go_enter Try.func4, Try.ntmps4
      go_wp2_with fail
      refine Calls.mono HK.out ?_
      rintro e w2 ⟨rfl, hb2⟩
      go_wp2_with fail
      go_ret2
      exact ⟨_, rfl, Own.nil _ _, hb2⟩
    · obtain ⟨e1, e2⟩ := ap_yes h0 hbig
      rw [e1, e2]
      have HR : Hid (∀ j, (apL (L.take j) b).length ≤ 4112) := fun j => ap_room h0 (by omega) j
      have HY : Hid (∀ j, Byt (apL (L.take j) b)) := fun j => byt_ap _ hby
      have HM : Hid (∀ j, j < n → mayP (L.getD j (0, 0))) := fun j hj => may_at h0 (by rw [hn]; exact hj)
      have HT : Hid (∀ j, j < n → apL (L.take (j + 1)) b = doF (L.getD j (0, 0)) (apL (L.take j) b)) := fun j hj => apL_take (by rw [hn]; exact hj) b
      have HZ : Hid (apL (L.take 0) b = b) := rfl
      have HE : Hid (apL (L.take n) b = apL L b) := by rw [Hid, ← hn, List.take_length]
      have HX : Hid (Bs w (.slice xo b.length xc) b) := hb
      obtain ⟨m, hm⟩ : ∃ m, b.length = m := ⟨_, rfl⟩
      rw [hm] at hbig HX ⊢
      have HBM : Hid (b.length = m) := hm
      have hbi : ¬ (4096 : Int) < (m : Int) := by omega
      rw [h0] at HK
      have hfd : ∀ (a c : Value) (W : World), (Instr.field 38 (.agg #[a, c]) 0).run Try.prog W = .ok a W := way_do
      clear hb e1 e2 hby hbl h0 hm
      clear hn hc
      go_enter Try.func4, Try.ntmps4
      go_wp2_with fail
      refine Calls.mono HK.out ?_
      rintro e w2 ⟨rfl, hb2⟩
      have HB2 : Hid (Below w.heap.size w w2) := hb2
      have HCL : Hid _ := bcl_any (.slice xo m xc) b w2 (HX.out.below hb2) (by rw [HBM.out]; omega)
      clear hb2
      go_wp2_with fail
      refine Calls.mono HCL.out ?_
      rintro e w3 ⟨y3, rfl, ho3, hb3⟩
      have HO3 : Hid (Own w3 w.heap.size y3 b) := ho3.mono HB2.out.size
      have HB3 : Hid (Below w.heap.size w w3) := HB2.out.trans (hb3.mono HB2.out.size)
      clear ho3 hb3
      go_wp2_with fail
      go_loopw [7, 22] (fun y i wr => ∃ (j : Nat), j ≤ n ∧ i = .int .i64 j ∧ Hid (Own wr w.heap.size y (apL (L.take j) b)) ∧ Hid (Below w.heap.size w wr)) (fun _ i _ => n - (intOf i).toNat)
      case atStart => exact ⟨0, Nat.zero_le _, rfl, HO3.out, HB3.out⟩
      case round =>
        obtain ⟨j, hj, rfl, HO, HB⟩ := hrel
        by_cases hlt : j < n
        · obtain ⟨b0, off, rfl, c0, c1, hbl⟩ := HC.out j hlt
          replace c0 := (HB.out.cell (p := ⟨b0, off + j * 2, none⟩) hbl).trans c0
          replace c1 := (HB.out.cell (p := ⟨b0, off + j * 2 + 1, none⟩) hbl).trans c1
          have HT1 := HT.out j hlt
          have HR1 := HR.out j
          have HY1 := HY.out j
          have HM1 := HM.out j hlt
          obtain ⟨A, hA⟩ : ∃ A, apL (L.take j) b = A := ⟨_, rfl⟩
          rw [hA] at HT1 HR1 HY1 HO
          have HYA : Hid (Byt A) := HY1
          have HRA : Hid (A.length ≤ 4112) := HR1
          clear hA HR1 HY1 hbl
          rcases may_form HM1 with ⟨z, HF, hz1, hz8⟩ | ⟨z, HF, hz1, hz8⟩ | HF | HF
          · rw [HF] at c0 c1 HT1
            have HT2 : Hid (apL (L.take (j + 1)) b = doF (1, (z : Int)) A) := HT1
            simp only at c0 c1
            obtain ⟨w1, hw1, e0, e1, f0, b1, s1⟩ := boxF wr 1 (z : Int)
            have HB1 : Hid (Below w.heap.size w w1) := box_next HB.out HB.out.size b1
            have HO1 : Hid (Own w1 w.heap.size _ A) := HO.out.below b1
            have HB2 : Hid (w.heap.size ≤ w1.heap.size) := HB1.out.size
            have HL1 : Hid (wr.heap.size < w1.heap.size) := (by omega : wr.heap.size < w1.heap.size)
            clear b1 s1 HT1 HF HM1
            go_wp2_with fail
            go_region_with (first | (go_at_call 9; refine (way_1 _).mono ?_; rintro e w3 ⟨rfl, hb3⟩; have hb3 := below_undrew hb3; have HB3 : Hid (Below w1.heap.size w1 w3) := hb3; have e1' := (hb3.cell (p := ⟨wr.heap.size, 1, none⟩) HL1.out).trans e1; clear hb3) | (go_at_call 12; refine Calls.mono (sh_do z hz1 hz8 _ A _ (by exact (HO1.out.below HB3.out).bs) HYA.out (by have := HRA.out; omega)) ?_; rintro e w4 ⟨x4, rfl, ho4, hb4⟩; have hb5 := hb4; have HO4 : Hid (Own w4 w.heap.size x4 (doF (1, (z : Int)) A)) := ho4.mono (by exact Nat.le_trans HB2.out HB3.out.size); have HB4 : Hid (Below w.heap.size w w4) := HB1.out.trans ((HB3.out.trans (hb5.mono HB3.out.size)).mono HB2.out); clear hb4 hb5 ho4))
            all_goals
              go_wp2_with fail
              go_roundw
              case rel => exact ⟨j + 1, by omega, by go_num, by rw [HT2.out]; exact HO4.out, HB4.out⟩
              case measure => simp [intOf]; omega
          · rw [HF] at c0 c1 HT1
            have HT2 : Hid (apL (L.take (j + 1)) b = doF (2, (z : Int)) A) := HT1
            simp only at c0 c1
            obtain ⟨w1, hw1, e0, e1, f0, b1, s1⟩ := boxF wr 2 (z : Int)
            have HB1 : Hid (Below w.heap.size w w1) := box_next HB.out HB.out.size b1
            have HO1 : Hid (Own w1 w.heap.size _ A) := HO.out.below b1
            have HB2 : Hid (w.heap.size ≤ w1.heap.size) := HB1.out.size
            have HL1 : Hid (wr.heap.size < w1.heap.size) := (by omega : wr.heap.size < w1.heap.size)
            clear b1 s1 HT1 HF HM1
            go_wp2_with fail
            go_region_with (first | (go_at_call 9; refine (way_2 _).mono ?_; rintro e w3 ⟨rfl, hb3⟩; have hb3 := below_undrew hb3; have HB3 : Hid (Below w1.heap.size w1 w3) := hb3; have e1' := (hb3.cell (p := ⟨wr.heap.size, 1, none⟩) HL1.out).trans e1; clear hb3) | (go_at_call 14; refine Calls.mono (de_do z hz1 hz8 _ A _ (by exact (HO1.out.below HB3.out).bs) HYA.out (by have := HRA.out; omega)) ?_; rintro e w4 ⟨x4, rfl, ho4, hb4⟩; have hb5 := hb4; have HO4 : Hid (Own w4 w.heap.size x4 (doF (2, (z : Int)) A)) := ho4.mono (by exact Nat.le_trans HB2.out HB3.out.size); have HB4 : Hid (Below w.heap.size w w4) := HB1.out.trans ((HB3.out.trans (hb5.mono HB3.out.size)).mono HB2.out); clear hb4 hb5 ho4))
            all_goals
              go_wp2_with fail
              go_roundw
              case rel => exact ⟨j + 1, by omega, by go_num, by rw [HT2.out]; exact HO4.out, HB4.out⟩
              case measure => simp [intOf]; omega
          · obtain ⟨z, HF⟩ : ∃ z : Int, L.getD j (0, 0) = (3, z) := ⟨0, HF⟩
            rw [HF] at c0 c1 HT1
            have HT2 : Hid (apL (L.take (j + 1)) b = doF (3, z) A) := HT1
            simp only at c0 c1
            obtain ⟨w1, hw1, e0, e1, f0, b1, s1⟩ := boxF wr 3 z
            have HB1 : Hid (Below w.heap.size w w1) := box_next HB.out HB.out.size b1
            have HO1 : Hid (Own w1 w.heap.size _ A) := HO.out.below b1
            have HB2 : Hid (w.heap.size ≤ w1.heap.size) := HB1.out.size
            have HL1 : Hid (wr.heap.size < w1.heap.size) := (by omega : wr.heap.size < w1.heap.size)
            clear b1 s1 HT1 HF HM1
            go_wp2_with fail
            go_region_with (first | (go_at_call 9; refine (way_3 _).mono ?_; rintro e w3 ⟨rfl, hb3⟩; have hb3 := below_undrew hb3; have HB3 : Hid (Below w1.heap.size w1 w3) := hb3; have e1' := (hb3.cell (p := ⟨wr.heap.size, 1, none⟩) HL1.out).trans e1; clear hb3) | (go_at_call 16; refine Calls.mono (pk_do z _ A _ (by exact (HO1.out.below HB3.out).bs) (by have := HRA.out; omega)) ?_; rintro e w4 ⟨x4, rfl, ho4, hb4⟩; have hb5 := hb4; have HO4 : Hid (Own w4 w.heap.size x4 (doF (3, z) A)) := ho4.mono (by exact Nat.le_trans HB2.out HB3.out.size); have HB4 : Hid (Below w.heap.size w w4) := HB1.out.trans ((HB3.out.trans (hb5.mono HB3.out.size)).mono HB2.out); clear hb4 hb5 ho4))
            all_goals
              go_wp2_with fail
              go_roundw
              case rel => exact ⟨j + 1, by omega, by go_num, by rw [HT2.out]; exact HO4.out, HB4.out⟩
              case measure => simp [intOf]; omega
          · obtain ⟨z, HF⟩ : ∃ z : Int, L.getD j (0, 0) = (4, z) := ⟨0, HF⟩
            rw [HF] at c0 c1 HT1
            have HT2 : Hid (apL (L.take (j + 1)) b = doF (4, z) A) := HT1
            simp only at c0 c1
            obtain ⟨w1, hw1, e0, e1, f0, b1, s1⟩ := boxF wr 4 z
            have HB1 : Hid (Below w.heap.size w w1) := box_next HB.out HB.out.size b1
            have HO1 : Hid (Own w1 w.heap.size _ A) := HO.out.below b1
            have HB2 : Hid (w.heap.size ≤ w1.heap.size) := HB1.out.size
            have HL1 : Hid (wr.heap.size < w1.heap.size) := (by omega : wr.heap.size < w1.heap.size)
            clear b1 s1 HT1 HF HM1
            go_wp2_with fail
            go_region_with (first | (go_at_call 9; refine (way_4 _).mono ?_; rintro e w3 ⟨rfl, hb3⟩; have hb3 := below_undrew hb3; have HB3 : Hid (Below w1.heap.size w1 w3) := hb3; have e1' := (hb3.cell (p := ⟨wr.heap.size, 1, none⟩) HL1.out).trans e1; clear hb3) | (go_at_call 18; refine Calls.mono (sm_do z _ A _ (by exact (HO1.out.below HB3.out).bs) HYA.out (by have := HRA.out; omega)) ?_; rintro e w4 ⟨x4, rfl, ho4, hb4⟩; have hb5 := hb4; have HO4 : Hid (Own w4 w.heap.size x4 (doF (4, z) A)) := ho4.mono (by exact Nat.le_trans HB2.out HB3.out.size); have HB4 : Hid (Below w.heap.size w w4) := HB1.out.trans ((HB3.out.trans (hb5.mono HB3.out.size)).mono HB2.out); clear hb4 hb5 ho4))
            all_goals
              go_wp2_with fail
              go_roundw
              case rel => exact ⟨j + 1, by omega, by go_num, by rw [HT2.out]; exact HO4.out, HB4.out⟩
              case measure => simp [intOf]; omega
        · obtain rfl : j = n := by omega
          rw [HE.out] at HO
          go_wp2_with fail
          go_ret2
          exact ⟨_, rfl, HO.out, HB.out⟩
  · obtain ⟨e1, e2⟩ := ap_bad h0 b
    rw [e1, e2]
    obtain ⟨c, hc0⟩ : ∃ c, chE L = c := ⟨_, rfl⟩
    rw [hc0] at HK h0 ⊢
    have hne : (c != 0) = true := by simp [h0]
    clear hb e1 e2 hby h0 hc0 hc hn
    go_enter Try.func4, Try.ntmps4
    go_wp2_with fail
    refine Calls.mono HK.out ?_
    rintro e w2 ⟨rfl, hb2⟩
    go_wp2_with fail
    go_ret2
    exact ⟨_, rfl, Own.nil _ _, hb2⟩
end Go.Proofs.Ytgodoogmbdgeoab

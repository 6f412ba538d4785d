/-
  The document's Apply. Conditions: bytes are bytes; their number, and that of the filters, is one that memory bears.
-/
import Derived.Test.YtgodoogmbdgeoaaFiAp
import Derived.Test.YtgodoogmbdgeoaaFiRefC
import Derived.Test.YtgodoogmbdgeoaaFRefS
import Derived.Test.YtgodoogmbdgeoaaFRefD
import Derived.Test.YtgodoogmbdgeoaaMRefTk
import Derived.Test.YtgodoogmbdgeoaaMRefV
namespace Go.Proofs.Ytgodoogmbdgeoaa
open Go.RowKit
set_option linter.unusedVariables false
set_option maxRecDepth 100000

theorem rsh_do (z : Nat) (h1 : 1 ≤ z) (h8 : z ≤ 8) (v : Value) (l : List Int) (w : World) (hl : Bs w v l) (hby : Byt l) (hlb : l.length ≤ 65536) :
    Calls Try.prog 22 #[.int .i64 (z : Int), v] w (TlP w 0 (doF (1, (z : Int)) l)) := by
  rw [do_1, Int.toNat_natCast]
  refine (refSh_any z v l w hl (by omega)).mono fun e w' h => ?_
  rw [wE_yes h1 h8, wL_yes h1 h8] at h
  exact h
theorem rde_do (z : Nat) (h1 : 1 ≤ z) (h8 : z ≤ 8) (v : Value) (l : List Int) (w : World) (hl : Bs w v l) (hby : Byt l) (hlb : l.length ≤ 65536) :
    Calls Try.prog 23 #[.int .i64 (z : Int), v] w (TlP w 0 (doF (2, (z : Int)) l)) := by
  rw [do_2, Int.toNat_natCast]
  refine (refDe_any z v l w hl hby (by omega)).mono fun e w' h => ?_
  rw [wE_yes h1 h8, wL_yes h1 h8] at h
  exact h
theorem rpk_do (z : Int) (v : Value) (l : List Int) (w : World) (hl : Bs w v l) (hby : Byt l) (hlb : l.length ≤ 65536) :
    Calls Try.prog 24 #[v] w (TlP w 0 (doF (3, z) l)) := by
  rw [do_3]
  exact refPack_any v l w hl hlb
set_option maxHeartbeats 64000000 in
theorem refApply_any (v x : Value) (L : List Fil) (b : List Int) (w : World) (hl : Fls w v L) (hb : Bs w x b) (hby : Byt b) (hlb : L.length ≤ 8796093021952) (hbl : b.length ≤ 140737488351232) :
    Calls Try.prog 14 #[v, x] w (TlP w (apE L b.length) (apR L b)) := by
  obtain ⟨i0, hi, hi0, hi1, hi2⟩ := info_parts Try.info5
  have HK : Hid _ := refCheck_any v L w hl hlb
  obtain ⟨ao, cap, rfl, hc, hcell⟩ := hl.opened
  obtain ⟨xo, xc, rfl, hq1, hq2, hq3⟩ := id hb
  clear hq1 hq2 hq3
  obtain ⟨n, hn⟩ : ∃ n, L.length = n := ⟨_, rfl⟩
  have HC : Hid (∀ i, i < n → ∃ b off, ao = some ⟨b, off, none⟩ ∧ w.cell? ⟨b, off + i * 2, none⟩ = some (.int .i64 (L.getD i (0, 0)).1) ∧ w.cell? ⟨b, off + i * 2 + 1, none⟩ = some (.int .i64 (L.getD i (0, 0)).2) ∧ b < w.heap.size) := by rw [← hn]; exact hcell
  have HN : Hid (L.length = n) := hn
  rw [hn] at HK hc hlb ⊢
  clear hl hcell
  by_cases h0 : chE L = 0
  · by_cases hbig : 4096 < b.length
    · obtain ⟨e1, e2⟩ := ap_big h0 hbig
      rw [e1, e2]
      obtain ⟨m, hm⟩ : ∃ m, b.length = m := ⟨_, rfl⟩
      rw [hm] at hbig hbl ⊢
      have hbi : (4096 : Int) < (m : Int) := by omega
      rw [h0] at HK
      clear hb e1 e2 hn hby hc
      go_enter Try.func14, Try.ntmps14
      go_wp2_with fail
      refine Calls.mono HK.out ?_
      rintro e w2 ⟨rfl, rfl⟩
      go_wp2_with fail
      go_ret2
      exact ⟨_, rfl, Own.nil _ _, Below.refl _ _⟩
    · obtain ⟨e1, e2⟩ := ap_yes h0 hbig
      rw [e1, e2]
      have HR : Hid (∀ j, (apL (L.take j) b).length ≤ 4112) := fun j => ap_room h0 (by omega) j
      have HY : Hid (∀ j, Byt (apL (L.take j) b)) := fun j => byt_ap _ hby
      have HM : Hid (∀ j, j < n → mayP (L.getD j (0, 0))) := fun j hj => may_at h0 (by rw [hn]; exact hj)
      have HT : Hid (∀ j, j < n → apL (L.take (j + 1)) b = doF (L.getD j (0, 0)) (apL (L.take j) b)) := fun j hj => apL_take (by rw [hn]; exact hj) b
      have HZ : Hid (apL (L.take 0) b = b) := rfl
      have HE : Hid (apL (L.take n) b = apL L b) := by rw [Hid, ← hn, List.take_length]
      obtain ⟨w1, hw1, b1, s1, o1⟩ := empty_own w
      have HO1 : Hid _ := o1
      have HB1 : Hid (Below w.heap.size w w1) := b1
      have HX : Hid (Bs w1 (.slice xo b.length xc) b) := hb.below b1
      have HBL : Hid (b.length ≤ 4096) := (by omega : b.length ≤ 4096)
      obtain ⟨m, hm⟩ : ∃ m, b.length = m := ⟨_, rfl⟩
      rw [hm] at hbig HX ⊢
      have hbi : ¬ (4096 : Int) < (m : Int) := by omega
      rw [h0] at HK
      clear hb e1 e2 hby hbl h0 hm b1 o1
      clear hn hc
      go_enter Try.func14, Try.ntmps14
      go_wp2_with fail
      refine Calls.mono HK.out ?_
      rintro e w2 ⟨rfl, rfl⟩
      go_wp2_with (at_builtin; refine wpList_append_bytes _ rfl (.tmp 17) (.tmp 18) 28 rfl i0 Try.underlying28 hi hi0 hi1 hi2 w2.heap.size _ (.slice xo m xc) [] b rfl rfl HO1.out HX.out (by have := HBL.out; simp only [List.length_nil]; omega) w2 HB1.out s1 ?_; intro ao1 cap1 w5 ho1 hb1 _ _; rw [List.nil_append] at ho1; generalize ([] : List Int).length + b.length = N1 at ho1 ⊢; have HO5 : Hid (Own w5 w2.heap.size _ _) := ho1; have HB5 : Hid (Below w2.heap.size w2 w5) := hb1; clear ho1 hb1)
      clear s1
      go_loopw [7, 8] (fun y i wr => ∃ (j : Nat), j ≤ n ∧ i = .int .i64 j ∧ Hid (Own wr w2.heap.size y (apL (L.take j) b)) ∧ Hid (Below w2.heap.size w2 wr)) (fun _ i _ => n - (intOf i).toNat)
      case atStart => exact ⟨0, Nat.zero_le _, rfl, HO5.out, HB5.out⟩
      case round =>
        obtain ⟨j, hj, rfl, HO, HB⟩ := hrel
        by_cases hlt : j < n
        · obtain ⟨b0, off, rfl, c0, c1, hbl⟩ := HC.out j hlt
          replace c0 := (HB.out.cell (p := ⟨b0, off + j * 2, none⟩) hbl).trans c0
          replace c1 := (HB.out.cell (p := ⟨b0, off + j * 2 + 1, none⟩) hbl).trans c1
          have HT1 := HT.out j hlt
          have HR1 := HR.out j
          have HY1 := HY.out j
          have HM1 := HM.out j hlt
          obtain ⟨A, hA⟩ : ∃ A, apL (L.take j) b = A := ⟨_, rfl⟩
          rw [hA] at HT1 HR1 HY1 HO
          have HYA : Hid (Byt A) := HY1
          have HRA : Hid (A.length ≤ 4112) := HR1
          have HWR : Hid (w2.heap.size ≤ wr.heap.size) := HB.out.size
          clear hA HR1 HY1 hbl
          rcases may_form HM1 with ⟨z, HF, hz1, hz8⟩ | ⟨z, HF, hz1, hz8⟩ | HF | HF
          · rw [HF] at c0 c1 HT1
            have HT2 : Hid (apL (L.take (j + 1)) b = doF (1, (z : Int)) A) := HT1
            simp only at c0 c1
            clear HT1 HF HM1
            go_wp2_with (go_at_call 22; refine Calls.mono (rsh_do z hz1 hz8 _ A _ (by exact HO.out.bs) HYA.out (by have := HRA.out; omega)) ?_; rintro e w4 ⟨x4, rfl, ho4, hb4⟩; have HO4 : Hid (Own w4 w2.heap.size x4 (doF (1, (z : Int)) A)) := ho4.mono HWR.out; have HB4 : Hid (Below w2.heap.size w2 w4) := HB.out.trans (hb4.mono HWR.out); clear hb4 ho4)
            go_roundw
            case rel => exact ⟨j + 1, by omega, by go_num, by rw [HT2.out]; exact HO4.out, HB4.out⟩
            case measure => simp [intOf]; omega
          · rw [HF] at c0 c1 HT1
            have HT2 : Hid (apL (L.take (j + 1)) b = doF (2, (z : Int)) A) := HT1
            simp only at c0 c1
            clear HT1 HF HM1
            go_wp2_with (go_at_call 23; refine Calls.mono (rde_do z hz1 hz8 _ A _ (by exact HO.out.bs) HYA.out (by have := HRA.out; omega)) ?_; rintro e w4 ⟨x4, rfl, ho4, hb4⟩; have HO4 : Hid (Own w4 w2.heap.size x4 (doF (2, (z : Int)) A)) := ho4.mono HWR.out; have HB4 : Hid (Below w2.heap.size w2 w4) := HB.out.trans (hb4.mono HWR.out); clear hb4 ho4)
            go_roundw
            case rel => exact ⟨j + 1, by omega, by go_num, by rw [HT2.out]; exact HO4.out, HB4.out⟩
            case measure => simp [intOf]; omega
          · obtain ⟨z, HF⟩ : ∃ z : Int, L.getD j (0, 0) = (3, z) := ⟨0, HF⟩
            rw [HF] at c0 c1 HT1
            have HT2 : Hid (apL (L.take (j + 1)) b = doF (3, z) A) := HT1
            simp only at c0 c1
            clear HT1 HF HM1
            go_wp2_with (go_at_call 24; refine Calls.mono (rpk_do z _ A _ (by exact HO.out.bs) HYA.out (by have := HRA.out; omega)) ?_; rintro e w4 ⟨x4, rfl, ho4, hb4⟩; have HO4 : Hid (Own w4 w2.heap.size x4 (doF (3, z) A)) := ho4.mono HWR.out; have HB4 : Hid (Below w2.heap.size w2 w4) := HB.out.trans (hb4.mono HWR.out); clear hb4 ho4)
            go_roundw
            case rel => exact ⟨j + 1, by omega, by go_num, by rw [HT2.out]; exact HO4.out, HB4.out⟩
            case measure => simp [intOf]; omega
          · obtain ⟨z, HF⟩ : ∃ z : Int, L.getD j (0, 0) = (4, z) := ⟨0, HF⟩
            rw [HF, do_4] at HT1
            rw [HF] at c0 c1
            have HT2 : Hid (apL (L.take (j + 1)) b = A ++ smB A) := HT1
            simp only at c0 c1
            clear HT1 HF HM1
            go_wp2_with (first | (go_at_call 25; refine Calls.mono (refSum_any _ A _ (by exact HO.out.bs) HYA.out (by have := HRA.out; omega)) ?_; rintro e w4 ⟨x4, rfl, ho4, hb4⟩; have HS4 : Hid (Bs w4 x4 (smB A)) := ho4.bs; have HO4 : Hid (Own w4 w2.heap.size _ A) := HO.out.below hb4; have HB4 : Hid (Below w2.heap.size w2 w4) := HB.out.trans (hb4.mono HWR.out); clear hb4 ho4) | (at_builtin; refine wpList_append_bytes _ rfl (.tmp 64) (.tmp 66) 28 rfl i0 Try.underlying28 hi hi0 hi1 hi2 w2.heap.size _ x4 A (smB A) rfl rfl HO4.out HS4.out (by have := HRA.out; rw [smB_len]; omega) w2 HB4.out HB4.out.size ?_; intro ao1 cap1 w6 ho1 hb1 _ _; generalize A.length + (smB A).length = N1 at ho1 ⊢; have HO6 : Hid (Own w6 w2.heap.size _ _) := ho1; have HB6 : Hid (Below w2.heap.size w2 w6) := hb1; clear ho1 hb1))
            go_roundw
            case rel => exact ⟨j + 1, by omega, by go_num, by rw [HT2.out]; exact HO6.out, HB6.out⟩
            case measure => simp [intOf]; omega
        · obtain rfl : j = n := by omega
          rw [HE.out] at HO
          go_wp2_with fail
          go_ret2
          exact ⟨_, rfl, HO.out, HB.out⟩
  · obtain ⟨e1, e2⟩ := ap_bad h0 b
    rw [e1, e2]
    obtain ⟨c, hc0⟩ : ∃ c, chE L = c := ⟨_, rfl⟩
    rw [hc0] at HK h0 ⊢
    have hne : (c != 0) = true := by simp [h0]
    clear hb e1 e2 hby h0 hc0 hc hn
    go_enter Try.func14, Try.ntmps14
    go_wp2_with fail
    refine Calls.mono HK.out ?_
    rintro e w2 ⟨rfl, rfl⟩
    go_wp2_with fail
    go_ret2
    exact ⟨_, rfl, Own.nil _ _, Below.refl _ _⟩
end Go.Proofs.Ytgodoogmbdgeoaa

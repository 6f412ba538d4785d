/-
  The walk of the law CheckTurned: true for all bytes, every place and every byte. Conditions: lengths within the machine's bounds; the table stands as the program's text lays it.
-/
import Derived.Test.YtdpjoldabnkboaaDoorPlace
import Derived.Test.YtdpjoldabnkboaaDoorTold
namespace Go.Proofs.YtdpjoldabnkboaaDoor
open Go.ChangeShapes Go.WideShapes Go.ChangeAt Go.RowKit
set_option linter.unusedVariables false

set_option maxHeartbeats 4000000 in
theorem checkTurned_walk (v0 : Value) (l0 : List Int) (a1 a2 : Int) (w : World) (hT : Tab w) (b0 : Bs w v0 l0) (y0 : Byt l0) (z0 : l0.length ≤ 140737488351232) (w1 : (Lit.int .i64 a1).wf = true) (w2 : (Lit.int .u8 a2).wf = true) :
    Calls Tryd.prog 7 #[v0, .int .i64 a1, .int .u8 a2] w fun e w' => e = .returned (.bool true) ∧ Below w.heap.size w w' := by
  obtain ⟨i0, hi, hz0, hz1, hz2⟩ := info_parts Tryd.info5
  have ha := bounds_i64 w1
  have hy := bounds_u8 w2
  clear w1 w2
  have HB : Hid (Bs w v0 l0) := b0
  by_cases h0 : l0.length = 0
  · obtain rfl := List.eq_nil_of_length_eq_zero h0
    obtain ⟨ao, cap, rfl, hc, hn, hcell⟩ := b0
    clear hcell hn
    go_enter Tryd.func7, Tryd.ntmps7
    go_wp2_with (go_at_call 13; refine (lives2_any _ hT).mono ?_; rintro e w3 ⟨rfl, hb3⟩)
    go_ret
    exact ⟨rfl, by assumption⟩
  · by_cases hy0 : a2 = 0
    · subst hy0
      obtain ⟨ao, cap, rfl, hc, hn, hcell⟩ := b0
      clear hcell hn
      go_enter Tryd.func7, Tryd.ntmps7
      go_wp2_with (go_at_call 13; refine (lives2_any _ hT).mono ?_; rintro e w3 ⟨rfl, hb3⟩)
      all_goals go_ret
      all_goals exact ⟨rfl, by assumption⟩
    · obtain ⟨b, off, cap, rfl, hc, hcell⟩ := b0.opened (by omega)
      obtain ⟨n, hn⟩ : ∃ n, l0.length = n := ⟨_, rfl⟩
      obtain ⟨k, hk, hk1, hk2, hk3⟩ := place_any a1 n (by omega)
      obtain ⟨y, rfl⟩ := Int.eq_ofNat_of_zero_le hy.1
      obtain ⟨p, hpe⟩ : ∃ p : Nat, (p : Int) = l0.getD k 0 := ⟨(l0.getD k 0).toNat, by have := y0 k; omega⟩
      have hpb := y0 k
      rw [← hpe] at hpb
      obtain ⟨t, HTE, hxor, htb⟩ : ∃ t, Hid (t = p ^^^ y) ∧ bits .xor .u8 (p : Int) (y : Int) = ((t : Nat) : Int) ∧ t < 256 := ⟨_, (show p ^^^ y = p ^^^ y from rfl), u8_xor_nat _ _ (by omega) (by omega), Nat.xor_lt_two_pow (n := 8) (by omega) (by omega)⟩
      have hpt : p ≠ t := by rw [HTE.out]; exact xor_other (by omega)
      have HCS : Hid (crcN (l0.set k (t : Int)) ≠ crcN l0) := crc_set l0 k p t (by omega) hpe (by omega) htb hpt
      have HFS : Hid (fletch (l0.set k (t : Int)) ≠ fletch l0) := fletch_set l0 k p t (by omega) hpe (by omega) htb hpt
      have HUE : Hid (unErr ((sealN l0).set k (t : Int)) = 5) := unErr_set l0 k p t (by omega) hpe (by omega) htb hpt
      have HYS : Hid (Byt (l0.set k (t : Int))) := byt_set y0 k (by omega)
      have HYT : Hid (Byt ((sealN l0).set k (t : Int))) := byt_set (byt_seal y0) k (by omega)
      have HPE : Hid ((p : Int) = l0.getD k 0) := hpe
      have HN : Hid (l0.length = n) := hn
      have hn1 : 1 ≤ n := by omega
      have hnb : ((n : Int) == 0) = false := by simp; omega
      have hyb : ((y : Int) == 0) = false := by simp; omega
      have HT : Hid (Tab w) := hT
      have HSL : Hid ((sealN l0).length = n + 4) := by show _ = _; rw [sealN_length, hn]
      have HSK : Hid ((sealN l0).getD k 0 = (p : Int)) := by
        show _ = _
        rw [hpe, sealN, List.getD, List.getElem?_append_left (by omega)]; rfl
      rw [hn] at hc z0 HB ⊢
      clear hcell h0 b0 hpe hn hT hpt
      go_enter Tryd.func7, Tryd.ntmps7
      go_wp2_with (at_builtin; refine wpList_append_bytes _ rfl (.tmp 30) (.tmp 31) 22 rfl i0 Tryd.underlying22 hi hz0 hz1 hz2 w.heap.size _ _ [] l0 rfl rfl (Own.empty _ _ (Nat.le_refl _)) (HB.out.below ((Below.refl _ _).alloc (Nat.le_refl _) _)) (by rw [HN.out]; simp; omega) w ((Below.refl _ _).alloc (Nat.le_refl _) _) (by simp) ?_; intro ao1 cap1 w1 ho1 hb1 hs1 hc1; obtain ⟨g, rfl, hg1, hg2⟩ := hs1 (by rw [HN.out]; simp; omega); clear hs1; simp only [List.length_nil, Nat.zero_add, List.nil_append] at ho1 hc1; rw [HN.out] at ho1 hc1; simp only [List.length_nil, Nat.zero_add]; rw [HN.out]; obtain ⟨hx0, hf0⟩ := ho1.cell HN.out k hk; rw [← HPE.out] at hx0; have HO1 : Hid (Own w1 w.heap.size (.slice (some ⟨g, 0, none⟩) n cap1) l0) := ho1; have HB1 : Hid (Below w.heap.size w w1) := hb1; clear ho1 hb1)
      obtain ⟨hs2, hgr2⟩ := HO1.out.stored HN.out k (t : Int)
      have HX2 : Hid (Bs (w1.setCell ⟨g, k, none⟩ (.int .u8 (t : Int))) (.slice (some ⟨g, 0, none⟩) n cap1) (l0.set k (t : Int))) := hs2.bs
      have HB2 : Hid (Below w.heap.size w (w1.setCell ⟨g, k, none⟩ (.int .u8 (t : Int)))) := HB1.out.grown hgr2 HB1.out.size (fun j hj => by simp at hj; omega)
      clear hs2 hgr2 hx0 hf0
      generalize w1.setCell ⟨g, k, none⟩ (.int .u8 (t : Int)) = w2 at *
      have hSeal := seal_any _ l0 w2 (HB.out.below HB2.out) (by rw [HN.out]; exact z0) y0 (HT.out.below HB2.out)
      rw [HN.out] at hSeal
      refine hSeal.mono ?_
      clear hSeal
      rintro e w3 ⟨rfl, hr3, hb3⟩
      have hc3 := hr3.cell (i := k) (by rw [HSL.out]; omega)
      have hf3 := hr3.free k
      rw [HSK.out] at hc3
      have HR3 : Hid (Row w3 w2.heap.size (sealN l0)) := hr3
      have HB3 : Hid (Below w2.heap.size w2 w3) := hb3
      clear hr3 hb3
      go_wp2_with fail
      have HR4 : Hid (Row (w3.setCell ⟨w2.heap.size, k, none⟩ (.int .u8 (t : Int))) w2.heap.size ((sealN l0).set k (t : Int))) := HR3.out.set k _
      have HB4 : Hid (Below w2.heap.size w2 (w3.setCell ⟨w2.heap.size, k, none⟩ (.int .u8 (t : Int)))) := HB3.out.grown (grown_set (World.grownBy.refl _ _) _ _) HB3.out.size (fun j hj => by simp at hj; omega)
      clear hc3 hf3
      generalize w3.setCell ⟨w2.heap.size, k, none⟩ (.int .u8 (t : Int)) = w4 at *
      have HB5 : Hid (Below w.heap.size w w4) := HB2.out.trans (HB4.out.mono HB2.out.size)
      have HLT : Hid (((sealN l0).set k (t : Int)).length = n + 4) := by show _ = _; rw [List.length_set, HSL.out]
      have hU := unseal_any _ _ w4 HR4.out.whole (by rw [HLT.out]; omega) HYT.out (HT.out.below HB5.out)
      rw [HLT.out, HUE.out, unList_bad HUE.out] at hU
      refine hU.mono ?_
      clear hU
      rintro e w5 ⟨x5, rfl, ho5, hb5⟩
      obtain ⟨ao5, cap5, rfl, hle5, _⟩ := ho5.opened
      clear ho5
      have HB6 : Hid (Below w4.heap.size w4 w5) := hb5
      have HB7 : Hid (Below w.heap.size w w5) := HB5.out.trans (HB6.out.mono HB5.out.size)
      clear hb5
      have HL5 : Hid (Bs w5 (.slice (some ⟨b, off, none⟩) n cap) l0) := HB.out.below HB7.out
      have HX5 : Hid (Bs w5 (.slice (some ⟨g, 0, none⟩) n cap1) (l0.set k (t : Int))) := HX2.out.below (HB4.out.trans (HB6.out.mono HB4.out.size))
      have HLN : Hid ((l0.set k (t : Int)).length = n) := by show _ = _; rw [List.length_set, HN.out]
      have HT5 : Hid (Tab w5) := HT.out.below HB7.out
      have hfs : (fletch (l0.set k (t : Int)) != fletch l0) = true := by simpa using HFS.out
      have hcs : (((crcN (l0.set k (t : Int)) : Nat) : Int) != ((crcN l0 : Nat) : Int)) = true := by
        have := HCS.out
        have h' : ¬ ((crcN (l0.set k (t : Int)) : Nat) : Int) = ((crcN l0 : Nat) : Int) := by omega
        simpa using h'
      generalize l0.set k (t : Int) = l' at *
      obtain ⟨c1, hc1e⟩ : ∃ c, c = crcN l' := ⟨_, rfl⟩
      obtain ⟨c2, hc2e⟩ : ∃ c, c = crcN l0 := ⟨_, rfl⟩
      have HK1 : Hid _ := crc_any _ l' w5 HX5.out (by rw [HLN.out]; omega) HYS.out HT5.out
      have HK2 : Hid _ := crc_any _ l0 w5 HL5.out (by rw [HN.out]; omega) y0 HT5.out
      rw [← hc1e] at hcs HK1
      rw [← hc2e] at hcs HK2
      clear hc1e hc2e
      go_wp2_with fail
      refine (fletcher_any _ l' w5 HX5.out (by rw [HLN.out]; omega) HYS.out).mono ?_
      rintro e w6 ⟨rfl, rfl⟩
      go_wp2_with fail
      refine (fletcher_any _ l0 w6 HL5.out (by rw [HN.out]; omega) y0).mono ?_
      rintro e w7 ⟨rfl, rfl⟩
      go_wp2_with fail
      refine Calls.mono HK1.out ?_
      rintro e w8 ⟨rfl, rfl⟩
      go_wp2_with fail
      refine Calls.mono HK2.out ?_
      rintro e w9 ⟨rfl, rfl⟩
      go_wp2_with fail
      refine (lives2_any _ HT5.out).mono ?_
      rintro e w10 ⟨rfl, hb10⟩
      go_wp2
      go_ret
      exact ⟨rfl, HB7.out.trans (hb10.mono HB7.out.size)⟩

end Go.Proofs.YtdpjoldabnkboaaDoor

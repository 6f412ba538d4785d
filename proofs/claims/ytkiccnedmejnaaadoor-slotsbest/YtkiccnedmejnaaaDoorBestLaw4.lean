/-
  The walk of the law SlotsBest. Conditions: the two listed variables stand as the program's text lays them.
-/
import Derived.Test.YtkiccnedmejnaaaDoorRefBest
import Derived.Deep.RegionHeld
namespace Go.Proofs.YtkiccnedmejnaaaDoor
open Go.RowKit
set_option linter.unusedVariables false
set_option maxRecDepth 100000

def offM (F : Mdl) : Mdl := { F with off := true, pl := false, left := 0 }
theorem cut0_write (F : Mdl) (h1 : F.off = false) (h2 : 1 ≤ F.most) : wrM { F with pl := true, left := 0 } 0 [1] = (6, offM F) := by
  unfold wrM
  have hE : wErr { F with pl := true, left := 0 } 0 ([1] : List Int).length = 0 := by
    unfold wErr
    rw [if_neg (by simp [h1]), if_neg (by simp), if_neg (by simp; omega)]
  rw [if_pos hE]
  rw [wrN_due _ _ _ _ (by simp) (Nat.le_refl _) (by simp)]
  rfl
theorem Bs.one1 (w : World) : Bs (w.alloc (.cells #[.int .u8 1] 5)) (.slice (some ⟨w.heap.size, 0, none⟩) 1 1) [1] := Bs.one w 1

set_option maxHeartbeats 8000000 in
theorem slotsBest_walk (v : Value) (l : List Int) (W : World) (hS : Sl W) (hl : Bs W v l) (hby : Byt l) (hb : l.length ≤ 140737488351232) :
    Calls Tryd.prog 5 #[v] W fun e W' => e = .returned (.bool true) ∧ Below W.heap.size W W' := by
  have HS : Hid (Sl W) := hS
  have HL : Hid (Bs W v l) := hl
  have HBY : Hid (Byt l) := hby
  obtain ⟨n, HN⟩ : ∃ n, Hid (l.length = n) := ⟨_, rfl⟩
  obtain ⟨ao, cap, rfl, hc, _⟩ := hl
  rw [HN.out] at HL hc hb ⊢
  clear hS hby
  go_enter Tryd.func5, Tryd.ntmps5
  by_cases hbig : 1000 < (n : Int)
  · go_wp2_with fail
    refine (lives4_any W HS.out).mono ?_
    rintro e w6 ⟨rfl, hb6⟩
    go_wp2_with fail
    go_ret
    exact ⟨rfl, hb6⟩
  · obtain ⟨F, HF⟩ : ∃ F, Hid (F = newM l 1000) := ⟨_, rfl⟩
    have HFB : Hid (F.bs = l ∧ F.off = false ∧ F.most = 1000 ∧ F.rs.length = 0) := by rw [Hid, HF.out]; exact ⟨rfl, rfl, rfl, rfl⟩
    go_wp2_with fail
    refine (of_some _ l 1000 W HL.out (by omega) (by omega) (by rw [HN.out]; omega)).mono ?_
    rintro e w1 ⟨p, vb, rfl, hp1, hb1⟩
    rw [← HF.out] at hp1
    have HP1 : Hid (PF w1 W.heap.size p F vb (.slice none 0 0) []) := hp1
    have HB1 : Hid (Below W.heap.size W w1) := hb1
    clear hp1 hb1
    have HBE : Hid _ := best_on HP1.out HFB.out.2.1 (HS.out.below HB1.out) (by rw [HFB.out.1]; exact HBY.out)
    rw [HFB.out.1, rtZ_eq] at HBE
    have HRB : Hid (∀ w', Below W.heap.size W w' → Calls Tryd.prog 17 #[.slice ao n cap] w' fun e w2 => e = .returned (.tuple #[rtZ (bestR l), .bool (bestR l).isSome]) ∧ Below w'.heap.size w' w2) := fun w' hb => refBest_any _ l w' (HL.out.below hb) (by rw [HN.out]; omega) HBY.out
    rw [rtZ_eq] at HRB
    obtain ⟨G, HG⟩ : ∃ x, Hid (zg (bestR l) = x) := ⟨_, rfl⟩
    obtain ⟨A, HA⟩ : ∃ x, Hid (za (bestR l) = x) := ⟨_, rfl⟩
    obtain ⟨Z, HZ⟩ : ∃ x, Hid (zz (bestR l) = x) := ⟨_, rfl⟩
    obtain ⟨q, Hq⟩ : ∃ x, Hid ((bestR l).isSome = x) := ⟨_, rfl⟩
    rw [HG.out, HA.out, HZ.out, Hq.out] at HBE HRB
    go_wp2_with fail
    refine Calls.mono HBE.out ?_
    rintro e w2 ⟨rfl, hb2⟩
    obtain ⟨W2, HW2⟩ : ∃ W2, Hid (W2 = w2.alloc (.cells #[.int .u64 G, .int .i64 A, .int .i64 Z] 24)) := ⟨_, rfl⟩
    have HC2 : Hid (W2.heap[w2.heap.size]? = some (.cells #[.int .u64 G, .int .i64 A, .int .i64 Z] 24 (0, 0))) := by rw [Hid, HW2.out]; exact heap_alloc_new _ _
    have HB12 : Hid (Below w1.heap.size w1 W2) := by rw [Hid, HW2.out]; exact hb2.alloc hb2.size _
    have HBW2 : Hid (Below W.heap.size W W2) := HB1.out.trans (HB12.out.mono HB1.out.size)
    have HL2 : Hid (w1.heap.size ≤ w2.heap.size) := hb2.size
    clear hb2 HBE
    go_upto_region 5 with fail
    rw [← HW2.out]
    go_wp2_with fail
    refine (HRB.out _ HBW2.out).mono ?_
    rintro e w3 ⟨rfl, hb3⟩
    obtain ⟨W3, HW3⟩ : ∃ W3, Hid (W3 = w3.alloc (.cells #[.int .u64 G, .int .i64 A, .int .i64 Z] 31)) := ⟨_, rfl⟩
    have HC3 : Hid (W3.heap[w3.heap.size]? = some (.cells #[.int .u64 G, .int .i64 A, .int .i64 Z] 31 (0, 0))) := by rw [Hid, HW3.out]; exact heap_alloc_new _ _
    have HB23 : Hid (Below W2.heap.size W2 W3) := by rw [Hid, HW3.out]; exact hb3.alloc hb3.size _
    have HBW3 : Hid (Below W.heap.size W W3) := HBW2.out.trans (HB23.out.mono HBW2.out.size)
    have HB13 : Hid (Below w1.heap.size w1 W3) := HB12.out.trans (HB23.out.mono HB12.out.size)
    have HC23 : Hid _ := (HB23.out.block _ (Array.getElem?_eq_some_iff.1 HC2.out).1).trans HC2.out
    have HL3 : Hid (w1.heap.size ≤ w3.heap.size) := Nat.le_trans HB12.out.size hb3.size
    clear hb3 HRB
    go_upto_region 6 with fail
    rw [← HW3.out]
    have HNB : Hid _ := best_bad (.pointer none) 1 W3 (by omega) (fun w1 hb => standing_bad (.pointer none) 1 w1 (by omega) (by omega) (fun w2 hb2 => (read_no (.pointer none) 0 32 w2 (.inl rfl)).mono (fun e w3 h => ⟨none, 0, 0, h.1, by rw [h.2]; exact Below.refl _ _⟩)))
    go_wp2_with fail
    refine Calls.mono HNB.out ?_
    rintro e w4 ⟨rfl, hb4⟩
    obtain ⟨W4, HW4⟩ : ∃ W4, Hid (W4 = w4.alloc (.cells #[.int .u64 0, .int .i64 0, .int .i64 0] 24)) := ⟨_, rfl⟩
    have HB34 : Hid (Below W3.heap.size W3 W4) := by rw [Hid, HW4.out]; exact hb4.alloc hb4.size _
    have HBW4 : Hid (Below W.heap.size W W4) := HBW3.out.trans (HB34.out.mono HBW3.out.size)
    have HB14 : Hid (Below w1.heap.size w1 W4) := HB13.out.trans (HB34.out.mono HB13.out.size)
    clear hb4 HNB
    go_upto_region 7 with fail
    rw [← HW4.out]
    have HP4 : Hid (PF W4 W.heap.size p F vb (.slice none 0 0) []) := HP1.out.below HB14.out
    have HPL : Hid (∀ k, Foot p vb (.slice none 0 0) k → k < w1.heap.size) := fun k hk => (HP1.out.hold.foot k hk).2
    go_wp2_with fail
    refine (cut_any HP4.out 0 (by omega) (by omega)).mono ?_
    rintro e w5 ⟨rfl, hp5, hc5⟩
    have HP5 : Hid (PF w5 W.heap.size p { F with pl := true, left := 0 } vb (.slice none 0 0) []) := hp5
    have HB5 : Hid (Below W.heap.size W4 w5) := hc5.below (fun k hk => by have hk' : k = p := hk; rw [hk']; exact hp5.hold.bp) HBW4.out.size
    have HCH5 : Hid (Chg (Foot p vb (.slice none 0 0)) W4 w5) := hc5.mono (fun k hk => .inl hk)
    clear hp5 hc5
    obtain ⟨W5, HW5⟩ : ∃ W5, Hid (W5 = w5.alloc (.cells #[.int .u8 1] 5)) := ⟨_, rfl⟩
    have HB55 : Hid (Below w5.heap.size w5 W5) := by rw [Hid, HW5.out]; exact (Below.refl _ _).alloc (Nat.le_refl _) _
    have HX5 : Hid (Bs W5 (.slice (some ⟨w5.heap.size, 0, none⟩) 1 1) [1]) := by rw [Hid, HW5.out]; exact Bs.one1 w5
    have HLT5 : Hid (w5.heap.size < W5.heap.size) := by rw [Hid, HW5.out]; simp
    have HWR : Hid _ := write_any (HP5.out.below HB55.out) (Nat.le_trans HBW4.out.size (Nat.le_trans HB5.out.size HB55.out.size)) 0 [1] (.slice (some ⟨w5.heap.size, 0, none⟩) 1 1) HX5.out (fun _ => alien_new HP5.out (Nat.le_refl _) HLT5.out) (by simp) (by simp) (by omega)
    rw [cut0_write F HFB.out.2.1 (by rw [HFB.out.2.2.1]; omega)] at HWR
    go_wp2_with fail
    rw [← HW5.out]
    refine Calls.mono HWR.out ?_
    rintro e w6 ⟨vb6, vr6, rv6, rfl, hp6, hm6⟩
    have HP6 : Hid (PF w6 W.heap.size p (offM F) vb6 vr6 rv6) := hp6
    have HCH6 : Hid (Chg (Foot p vb (.slice none 0 0)) W4 w6) := (HCH5.out.next (Chg.of_below HB55.out)).next hm6.chg
    have HBW6 : Hid (Below W.heap.size W w6) := HBW4.out.trans (HCH6.out.below (fun k hk => (HP4.out.hold.foot k hk).1) HBW4.out.size)
    have HC26 : Hid (w6.heap[w2.heap.size]? = some (.cells #[.int .u64 G, .int .i64 A, .int .i64 Z] 24 (0, 0))) := by
      have e1 := (HB34.out.block _ (Array.getElem?_eq_some_iff.1 HC23.out).1).trans HC23.out
      exact (HCH6.out.block _ (Array.getElem?_eq_some_iff.1 e1).1 (fun hk => by have h1 := HPL.out _ hk; have h2 := HL2.out; omega)).trans e1
    have HC36 : Hid (w6.heap[w3.heap.size]? = some (.cells #[.int .u64 G, .int .i64 A, .int .i64 Z] 31 (0, 0))) := by
      have e1 := (HB34.out.block _ (Array.getElem?_eq_some_iff.1 HC3.out).1).trans HC3.out
      exact (HCH6.out.block _ (Array.getElem?_eq_some_iff.1 e1).1 (fun hk => by have h1 := HPL.out _ hk; have h2 := HL3.out; omega)).trans e1
    clear hp6 hm6 HWR
    have HNB : Hid _ := best_bad (.pointer (some ⟨p, 0, none⟩)) 6 w6 (by omega) (fun w1 hb => standing_bad (.pointer (some ⟨p, 0, none⟩)) 6 w1 (by omega) (by omega) (fun w2 hb2 => (read_bad ((HP6.out.below hb).below hb2) 0 32 (by omega) (by omega) (by unfold rdErr offM; simp)).mono (fun e w3 h => ⟨none, 0, 0, by rw [h.1]; unfold rdErr offM; simp, by rw [h.2]; exact Below.refl _ _⟩)))
    go_wp2_with fail
    refine Calls.mono HNB.out ?_
    rintro e w7 ⟨rfl, hb7⟩
    obtain ⟨W7, HW7⟩ : ∃ W7, Hid (W7 = w7.alloc (.cells #[.int .u64 0, .int .i64 0, .int .i64 0] 24)) := ⟨_, rfl⟩
    have HB67 : Hid (Below w6.heap.size w6 W7) := by rw [Hid, HW7.out]; exact hb7.alloc hb7.size _
    have HBW7 : Hid (Below W.heap.size W W7) := HBW6.out.trans (HB67.out.mono HBW6.out.size)
    have HC27 : Hid _ := (HB67.out.block _ (Array.getElem?_eq_some_iff.1 HC26.out).1).trans HC26.out
    have HC37 : Hid _ := (HB67.out.block _ (Array.getElem?_eq_some_iff.1 HC36.out).1).trans HC36.out
    clear hb7 HNB
    have HK : Hid (∀ w', Below W7.heap.size W7 w' → (w'.cell? ⟨w2.heap.size, 0, none⟩ = some (.int .u64 G) ∧ w'.cell? ⟨w2.heap.size, 1, none⟩ = some (.int .i64 A) ∧ w'.cell? ⟨w2.heap.size, 2, none⟩ = some (.int .i64 Z) ∧ w'.cell? ⟨w3.heap.size, 0, none⟩ = some (.int .u64 G) ∧ w'.cell? ⟨w3.heap.size, 1, none⟩ = some (.int .i64 A) ∧ w'.cell? ⟨w3.heap.size, 2, none⟩ = some (.int .i64 Z)) ∧ Below W7.heap.size W7 w') := fun w' hb => by
      obtain ⟨c0, c1, c2, _⟩ := three_cells ((hb.block _ (Array.getElem?_eq_some_iff.1 HC27.out).1).trans HC27.out)
      obtain ⟨d0, d1, d2, _⟩ := three_cells ((hb.block _ (Array.getElem?_eq_some_iff.1 HC37.out).1).trans HC37.out)
      exact ⟨⟨c0, c1, c2, d0, d1, d2⟩, hb⟩
    go_upto_region 10 with fail
    rw [← HW7.out]
    have hd0 : Below W7.heap.size W7 W7.drew := (Below.refl _ _).drew
    go_region_held (fun w' => (w'.cell? ⟨w2.heap.size, 0, none⟩ = some (.int .u64 G) ∧ w'.cell? ⟨w2.heap.size, 1, none⟩ = some (.int .i64 A) ∧ w'.cell? ⟨w2.heap.size, 2, none⟩ = some (.int .i64 Z) ∧ w'.cell? ⟨w3.heap.size, 0, none⟩ = some (.int .u64 G) ∧ w'.cell? ⟨w3.heap.size, 1, none⟩ = some (.int .i64 A) ∧ w'.cell? ⟨w3.heap.size, 2, none⟩ = some (.int .i64 Z)) ∧ Below W7.heap.size W7 w') (exact HK.out _ (by assumption)) (first | (go_at_call 11; refine (plain4_any G A Z _).mono ?_; rintro e w8 ⟨rfl, hb8'⟩; have hb8 : Below W7.heap.size W7 w8 := below_undrew hb8'; clear hb8') | (go_at_call 12; refine (lives4_any _ (HS.out.below (HBW7.out.trans (Below.mono (by assumption) HBW7.out.size)))).mono ?_; rintro e w9 ⟨rfl, hb9'⟩; have hb9 : Below W7.heap.size W7 w9 := Below.trans (by assumption) (hb9'.mono (Below.size (by assumption))); clear hb9'))
    all_goals
      have HB9 : Hid (Below W7.heap.size W7 w9) := hb9
      clear hb9
      go_wp2
      go_ret
      exact ⟨rfl, HBW7.out.trans (HB9.out.mono HBW7.out.size)⟩
end Go.Proofs.YtkiccnedmejnaaaDoor

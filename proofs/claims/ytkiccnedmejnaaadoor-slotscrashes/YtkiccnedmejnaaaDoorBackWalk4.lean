/-
  The walk of the law SlotsBack. Conditions: the two listed variables stand as the program's text lays them.
-/
import Derived.Test.YtkiccnedmejnaaaDoorLoadsWalk4
import Derived.Test.YtkiccnedmejnaaaDoorToldAny
import Derived.Test.YtkiccnedmejnaaaDoorPlace
namespace Go.Proofs.YtkiccnedmejnaaaDoor
open Go.RowKit
set_option linter.unusedVariables false
set_option maxRecDepth 100000

theorem lOk_root {g a z : Int} (h0 : 0 ≤ g) (h1 : g < 18446744073709551616) (ha0 : 0 ≤ a) (ha1 : a ≤ 4194304) (hz0 : 0 ≤ z) (hz1 : z ≤ 4194304) : lR (rootB g a z) = .agg #[.int .u64 g, .int .i64 a, .int .i64 z] ∧ lE (rootB g a z) = 0 := by
  have hr := isRt_root h0 h1 ha0 ha1 hz0 hz1
  obtain ⟨e1, e2⟩ := lR_long (l := rootB g a z) (by rw [rootB_length]; omega)
  rw [root_take] at e1 e2
  rw [e1, e2]
  unfold ldRoot ldErr
  rw [if_pos hr, if_pos hr, ldG_root h0 h1, ldA_root ha0 ha1, ldZ_root hz0 hz1]
  exact ⟨rfl, rfl⟩
/-- Of a root's bytes one turned: none. -/
theorem lOk_turned (g a z : Int) (k p t : Nat) (h : k < 32) (hp : (p : Int) = (rootB g a z).getD k 0) (hp2 : p < 256) (ht : t < 256) (hne : p ≠ t) : lR ((rootB g a z).set k (t : Int)) = .agg #[.int .u64 0, .int .i64 0, .int .i64 0] ∧ lE ((rootB g a z).set k (t : Int)) = 5 := by
  have hl : ((rootB g a z).set k (t : Int)).length = 32 := by rw [List.length_set, rootB_length]
  have hr : isRt ((rootB g a z).set k (t : Int)) = false := by
    cases hc : isRt ((rootB g a z).set k (t : Int))
    · rfl
    · unfold isRt at hc
      simp only [Bool.and_eq_true, beq_iff_eq] at hc
      have e := hc.2
      rw [List.take_of_length_le (by omega)] at e
      have h5 := unErr_any (rootL g a z) k p t (by rw [sealN_length, rootL_length]; omega) hp hp2 ht hne
      rw [show sealN (rootL g a z) = rootB g a z from rfl, ← e, rootB, unErr_seal] at h5
      cases h5
  obtain ⟨e1, e2⟩ := lR_long (l := (rootB g a z).set k (t : Int)) (by omega)
  rw [List.take_of_length_le (by omega)] at e1 e2
  rw [e1, e2]
  unfold ldRoot ldErr
  rw [hr]
  exact ⟨rfl, rfl⟩

set_option maxHeartbeats 4000000 in
theorem slotsBack_walk (x : Rt) (bt : Int) (W : World) (hS : Sl W) (hx : RtW x) (hbt : (Lit.int .u64 bt).wf = true) :
    Calls Tryd.prog 7 #[rtV x, .int .u64 bt] W fun e W' => e = .returned (.bool true) ∧ Below W.heap.size W W' := by
  obtain ⟨g, a, z⟩ := x
  obtain ⟨⟨g0, g1⟩, ⟨a0, a1⟩, z0, z1⟩ := hx
  dsimp only at g0 g1 a0 a1 z0 z1
  unfold rtV
  dsimp only
  have hb64 : 0 ≤ bt ∧ bt < 18446744073709551616 := by
    simp [Lit.wf, IntKind.min, IntKind.max, IntKind.bits, IntKind.signed] at hbt
    omega
  have HS : Hid (Sl W) := hS
  obtain ⟨W1, HW1⟩ : ∃ W1, Hid (W1 = W.alloc (.cells #[.int .u64 g, .int .i64 a, .int .i64 z] 24)) := ⟨_, rfl⟩
  have HB1 : Hid (Below W.heap.size W W1) := by rw [Hid, HW1.out]; exact (Below.refl _ W).alloc (Nat.le_refl _) _
  have HC1 : Hid (W1.heap[W.heap.size]? = some (.cells #[.int .u64 g, .int .i64 a, .int .i64 z] 24 (0, 0))) := by rw [Hid, HW1.out]; exact heap_alloc_new W _
  have HCC : Hid (∀ w', Below W1.heap.size W1 w' → w'.cell? ⟨W.heap.size, 0, none⟩ = some (.int .u64 g) ∧ w'.cell? ⟨W.heap.size, 1, none⟩ = some (.int .i64 a) ∧ w'.cell? ⟨W.heap.size, 2, none⟩ = some (.int .i64 z)) := fun w' hb => by
    have := (hb.block _ (Array.getElem?_eq_some_iff.1 HC1.out).1).trans HC1.out
    obtain ⟨c0, c1, c2, _⟩ := three_cells this
    exact ⟨c0, c1, c2⟩
  have HBW : Hid (∀ w', Below W1.heap.size W1 w' → Below W.heap.size W w') := fun w' hb => HB1.out.trans (hb.mono HB1.out.size)
  clear hS hbt
  go_enter Tryd.func7, Tryd.ntmps7
  go_upto_region 1 with fail
  rw [← HW1.out]
  obtain ⟨c0, c1, c2⟩ := HCC.out _ (Below.refl _ _)
  by_cases hin : inF a = false ∨ inF z = false
  · go_wp2_with fail
    refine (rBytes_no g a z W1 hin).mono ?_
    rintro e w2 ⟨rfl, hb2⟩
    have HB2 : Hid (Below W1.heap.size W1 w2) := hb2
    clear hb2 c0 c1 c2
    obtain ⟨c0, c1, c2⟩ := HCC.out _ HB2.out
    have hcase : a < 0 ∨ (¬ a < 0 ∧ z < 0) ∨ (¬ a < 0 ∧ ¬ z < 0 ∧ 4194304 < a) ∨ (¬ a < 0 ∧ ¬ z < 0 ∧ ¬ 4194304 < a ∧ 4194304 < z) := by
      rcases inF_cases a with ⟨h1, h2, h3⟩ | ⟨h1, h2⟩
      · rcases inF_cases z with ⟨h4, h5, h6⟩ | ⟨h4, h5⟩
        · rw [h1, h4] at hin; simp at hin
        · omega
      · omega
    clear hin
    rcases hcase with h | ⟨h, h'⟩ | ⟨h, h', h''⟩ | ⟨h, h', h'', h3⟩
    · go_wp2_with fail
      refine (lives4_any w2 (HS.out.below (HBW.out _ HB2.out))).mono ?_
      rintro e w6 ⟨rfl, hb6⟩
      go_wp2_with fail
      go_ret
      exact ⟨rfl, (HBW.out _ HB2.out).trans (hb6.mono (HBW.out _ HB2.out).size)⟩
    · go_wp2_with fail
      refine (lives4_any w2 (HS.out.below (HBW.out _ HB2.out))).mono ?_
      rintro e w6 ⟨rfl, hb6⟩
      go_wp2_with fail
      go_ret
      exact ⟨rfl, (HBW.out _ HB2.out).trans (hb6.mono (HBW.out _ HB2.out).size)⟩
    · go_wp2_with fail
      refine (lives4_any w2 (HS.out.below (HBW.out _ HB2.out))).mono ?_
      rintro e w6 ⟨rfl, hb6⟩
      go_wp2_with fail
      go_ret
      exact ⟨rfl, (HBW.out _ HB2.out).trans (hb6.mono (HBW.out _ HB2.out).size)⟩
    · go_wp2_with fail
      refine (lives4_any w2 (HS.out.below (HBW.out _ HB2.out))).mono ?_
      rintro e w6 ⟨rfl, hb6⟩
      go_wp2_with fail
      go_ret
      exact ⟨rfl, (HBW.out _ HB2.out).trans (hb6.mono (HBW.out _ HB2.out).size)⟩
  · have hA : inF a = true := by cases h1 : inF a <;> simp_all
    have hZ : inF z = true := by cases h1 : inF z <;> simp_all
    obtain ⟨ha0, ha1⟩ := inF_bounds hA
    obtain ⟨hz0, hz1⟩ := inF_bounds hZ
    have HRL : Hid ((rootB g a z).length = 32) := rootB_length g a z
    have HRB : Hid (Byt (rootB g a z)) := rootB_byt g a z
    go_wp2_with fail
    refine (rBytes_ok g a z W1 (HS.out.below HB1.out).tab g0 g1 hA hZ ha0 ha1 hz0 hz1).mono ?_
    rintro e w2 ⟨b2, rfl, hr2, hl2, hb2⟩
    have HB2 : Hid (Below W1.heap.size W1 w2) := hb2
    have HR2 : Hid (Row w2 b2 (rootB g a z)) := hr2
    have HL2 : Hid (W1.heap.size ≤ b2) := hl2
    clear hb2 hr2 hl2 c0 c1 c2
    have HLD : Hid _ := load4_any _ (rootB g a z) w2 (row_bs HR2.out HRL.out) (by rw [HRL.out]; omega) HRB.out (HS.out.below (HBW.out _ HB2.out)).tab
    rw [(lOk_root g0 g1 ha0 ha1 hz0 hz1).1, (lOk_root g0 g1 ha0 ha1 hz0 hz1).2] at HLD
    go_wp2_with fail
    refine Calls.mono HLD.out ?_
    rintro e w3 ⟨rfl, hb3⟩
    obtain ⟨W3, HW3⟩ : ∃ W3, Hid (W3 = w3.alloc (.cells #[.int .u64 g, .int .i64 a, .int .i64 z] 24)) := ⟨_, rfl⟩
    have HC3 : Hid (W3.heap[w3.heap.size]? = some (.cells #[.int .u64 g, .int .i64 a, .int .i64 z] 24 (0, 0))) := by rw [Hid, HW3.out]; exact heap_alloc_new _ _
    have HB23 : Hid (Below w2.heap.size w2 W3) := by rw [Hid, HW3.out]; exact hb3.alloc hb3.size _
    have HB3 : Hid (Below W1.heap.size W1 W3) := HB2.out.trans (HB23.out.mono HB2.out.size)
    have HR3 : Hid (Row W3 b2 (rootB g a z)) := HR2.out.below HB23.out HR2.out.lt
    clear hb3 HLD
    obtain ⟨c0, c1, c2⟩ := HCC.out _ HB3.out
    obtain ⟨d0, d1, d2, _, _, _⟩ := three_cells HC3.out
    go_upto_region 5 with fail
    rw [← HW3.out]
    obtain ⟨kk, hkk⟩ : ∃ kk : Nat, (kk : Int) = bt % 256 := ⟨(bt % 256).toNat, by omega⟩
    have hk256 : kk < 256 := by omega
    have hm1 : bt.tmod 256 = (kk : Int) := by rw [Int.tmod_eq_emod_of_nonneg hb64.1]; exact hkk.symm
    have hw1 : IntKind.i64.wrap (kk : Int) = kk := by simp [IntKind.wrap, IntKind.bits, IntKind.signed]; omega
    have hw2 : IntKind.u64.wrap (kk : Int) = kk := by simp [IntKind.wrap, IntKind.bits, IntKind.signed]; omega
    obtain ⟨q, hqe⟩ : ∃ q, q = kk / 8 := ⟨_, rfl⟩
    obtain ⟨r, hre⟩ : ∃ r, r = kk % 8 := ⟨_, rfl⟩
    have hr8 : r < 8 := by omega
    have hq32 : q < 32 := by omega
    have hq1 : (kk : Int).tdiv 8 = (q : Int) := by rw [Int.tdiv_eq_ediv_of_nonneg (by omega)]; omega
    have hr1 : (kk : Int).tmod 8 = (r : Int) := by rw [Int.tmod_eq_emod_of_nonneg (by omega)]; omega
    have hwr : IntKind.u64.wrap (r : Int) = r := by simp [IntKind.wrap, IntKind.bits, IntKind.signed]; omega
    obtain ⟨p, hpe⟩ : ∃ p : Nat, (p : Int) = (rootB g a z).getD q 0 := ⟨((rootB g a z).getD q 0).toNat, by have := HRB.out q; omega⟩
    have hpb : p < 256 := by have := HRB.out q; omega
    have hp8 : 2 ^ r < 2 ^ 8 := Nat.pow_lt_pow_right (by decide) hr8
    obtain ⟨t, HTE, htb, hxor⟩ : ∃ t, Hid (t = p ^^^ 2 ^ r) ∧ t < 256 ∧ bits .xor .u8 (p : Int) (2 ^ r % 256) = ((t : Nat) : Int) := by
      refine ⟨p ^^^ 2 ^ r, rfl, Nat.xor_lt_two_pow (n := 8) hpb hp8, ?_⟩
      have e : (2 : Int) ^ r % 256 = ((2 ^ r : Nat) : Int) := by
        have e1 : ((2 ^ r : Nat) : Int) = (2 : Int) ^ r := by simp
        have h1 : (0 : Int) ≤ (2 : Int) ^ r := Int.le_of_lt (Int.pow_pos (by decide))
        have h2 : (2 : Int) ^ r < 256 := by have := Int.ofNat_lt.2 hp8; rw [e1] at this; exact this
        rw [e1, Int.emod_eq_of_lt h1 h2]
      rw [e]
      exact u8_xor_nat _ _ (by omega) (by omega)
    have hpt : p ≠ t := by rw [HTE.out]; exact xor_other (Nat.ne_of_gt (Nat.pow_pos (by decide)))
    have HOT : Hid _ := lOk_turned g a z q p t hq32 hpe hpb htb hpt
    have HYT : Hid (Byt ((rootB g a z).set q (t : Int))) := byt_set HRB.out q (by omega)
    have e0 := HR3.out.cell (i := q) (by rw [HRL.out]; exact hq32)
    have e1 := HR3.out.free q
    rw [← hpe] at e0
    have HPE : Hid (2 ^ r < 2 ^ 8) := hp8
    clear hpe hpt hp8 hqe hre hkk
    go_wp2_with fail
    obtain ⟨W4, HW4⟩ : ∃ W4, Hid (W4 = W3.setCell ⟨b2, q, none⟩ (.int .u8 (t : Int))) := ⟨_, rfl⟩
    rw [← HW4.out]
    have HR4 : Hid (Row W4 b2 ((rootB g a z).set q (t : Int))) := by rw [Hid, HW4.out]; exact HR3.out.set q _
    have HB4 : Hid (Below W1.heap.size W1 W4) := by rw [Hid, HW4.out]; exact HB3.out.setCell HL2.out _
    have HL4 : Hid _ := load4_any _ ((rootB g a z).set q (t : Int)) W4 (row_bs (n := 32) HR4.out (by rw [List.length_set]; exact HRL.out)) (by rw [List.length_set, HRL.out]; omega) HYT.out (HS.out.below (HBW.out _ HB4.out)).tab
    rw [HOT.out.1, HOT.out.2] at HL4
    refine Calls.mono HL4.out ?_
    rintro e w5 ⟨rfl, hb5⟩
    obtain ⟨W5, HW5⟩ : ∃ W5, Hid (W5 = w5.alloc (.cells #[.int .u64 0, .int .i64 0, .int .i64 0] 24)) := ⟨_, rfl⟩
    have HC5 : Hid (W5.heap[w5.heap.size]? = some (.cells #[.int .u64 0, .int .i64 0, .int .i64 0] 24 (0, 0))) := by rw [Hid, HW5.out]; exact heap_alloc_new _ _
    have HB45 : Hid (Below W4.heap.size W4 W5) := by rw [Hid, HW5.out]; exact hb5.alloc hb5.size _
    have HB5 : Hid (Below W1.heap.size W1 W5) := HB4.out.trans (HB45.out.mono HB4.out.size)
    clear hb5 HL4 e0 e1 c0 c1 c2 d0 d1 d2
    obtain ⟨d0, d1, d2, _, _, _⟩ := three_cells HC5.out
    go_upto_region 10 with fail
    rw [← HW5.out]
    go_wp2_with fail
    refine (lives4_any W5 (HS.out.below (HBW.out _ HB5.out))).mono ?_
    rintro e w6 ⟨rfl, hb6⟩
    go_wp2_with fail
    go_ret
    exact ⟨rfl, (HBW.out _ HB5.out).trans (hb6.mono (HBW.out _ HB5.out).size)⟩
end Go.Proofs.YtkiccnedmejnaaaDoor

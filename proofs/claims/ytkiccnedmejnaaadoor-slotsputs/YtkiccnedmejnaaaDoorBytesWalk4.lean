/-
  The walk of the law SlotsBytes. Conditions: the two listed variables stand as the program's text lays them.
-/
import Derived.Test.YtkiccnedmejnaaaDoorLives4
namespace Go.Proofs.YtkiccnedmejnaaaDoor
open Go.RowKit
set_option linter.unusedVariables false
set_option maxRecDepth 100000

theorem inF_bounds {a : Int} (h : inF a = true) : 0 ≤ a ∧ a ≤ 4194304 := by
  rcases inF_cases a with ⟨_, h0, h1⟩ | ⟨h1, _⟩
  · exact ⟨h0, h1⟩
  · rw [h] at h1; cases h1

set_option maxHeartbeats 4000000 in
theorem slotsBytes_walk (x : Rt) (W : World) (hS : Sl W) (hx : RtW x) :
    Calls Tryd.prog 3 #[rtV x] W fun e W' => e = .returned (.bool true) ∧ Below W.heap.size W W' := by
  obtain ⟨g, a, z⟩ := x
  obtain ⟨⟨g0, g1⟩, ⟨a0, a1⟩, z0, z1⟩ := hx
  dsimp only at g0 g1 a0 a1 z0 z1
  unfold rtV
  dsimp only
  have HS : Hid (Sl W) := hS
  obtain ⟨W1, HW1⟩ : ∃ W1, Hid (W1 = W.alloc (.cells #[.int .u64 g, .int .i64 a, .int .i64 z] 24)) := ⟨_, rfl⟩
  have HB1 : Hid (Below W.heap.size W W1) := by rw [Hid, HW1.out]; exact (Below.refl _ W).alloc (Nat.le_refl _) _
  have HC1 : Hid (W1.heap[W.heap.size]? = some (.cells #[.int .u64 g, .int .i64 a, .int .i64 z] 24 (0, 0))) := by rw [Hid, HW1.out]; exact heap_alloc_new W _
  have HCC : Hid (∀ w', Below W1.heap.size W1 w' → w'.cell? ⟨W.heap.size, 0, none⟩ = some (.int .u64 g) ∧ w'.cell? ⟨W.heap.size, 1, none⟩ = some (.int .i64 a) ∧ w'.cell? ⟨W.heap.size, 2, none⟩ = some (.int .i64 z)) := fun w' hb => by
    have := (hb.block _ (Array.getElem?_eq_some_iff.1 HC1.out).1).trans HC1.out
    obtain ⟨c0, c1, c2, _⟩ := three_cells this
    exact ⟨c0, c1, c2⟩
  have HBW : Hid (∀ w', Below W1.heap.size W1 w' → Below W.heap.size W w') := fun w' hb => HB1.out.trans (hb.mono HB1.out.size)
  clear hS
  go_enter Tryd.func3, Tryd.ntmps3
  go_upto_region 1 with fail
  rw [← HW1.out]
  obtain ⟨c0, c1, c2⟩ := HCC.out _ (Below.refl _ _)
  by_cases hin : inF a = false ∨ inF z = false
  · go_wp2_with fail
    refine (rBytes_no g a z W1 hin).mono ?_
    rintro e w2 ⟨rfl, hb2⟩
    have HB2 : Hid (Below W1.heap.size W1 w2) := hb2
    clear hb2 c0 c1 c2
    obtain ⟨c0, c1, c2⟩ := HCC.out _ HB2.out
    go_wp2_with fail
    refine (rBytes_no g a z w2 hin).mono ?_
    rintro e w3 ⟨rfl, hb3⟩
    have HB3 : Hid (Below W1.heap.size W1 w3) := HB2.out.trans (hb3.mono HB2.out.size)
    clear hb3 c0 c1 c2
    obtain ⟨c0, c1, c2⟩ := HCC.out _ HB3.out
    go_wp2_with fail
    refine (plain4_any g a z w3).mono ?_
    rintro e w4 ⟨rfl, hb4⟩
    have HB4 : Hid (Below W1.heap.size W1 w4) := HB3.out.trans (hb4.mono HB3.out.size)
    clear hb4 c0 c1 c2
    go_wp2_with fail
    refine (refRBytes_no g a z w4 hin).mono ?_
    rintro e w5 ⟨rfl, hb5⟩
    have HB5 : Hid (Below W1.heap.size W1 w5) := HB4.out.trans (hb5.mono HB4.out.size)
    clear hb5
    have s1 := str_of (Bs.nil w5)
    go_wp2_with fail
    refine wp_loop_rounds 1 ?_
    rw [rounds_succ]
    go_wp2_with fail
    refine (lives4_any w5 (HS.out.below (HBW.out _ HB5.out))).mono ?_
    rintro e w6 ⟨rfl, hb6⟩
    go_wp2_with fail
    go_ret
    exact ⟨rfl, (HBW.out _ HB5.out).trans (hb6.mono (HBW.out _ HB5.out).size)⟩
  · have hA : inF a = true := by cases h1 : inF a <;> simp_all
    have hZ : inF z = true := by cases h1 : inF z <;> simp_all
    obtain ⟨ha0, ha1⟩ := inF_bounds hA
    obtain ⟨hz0, hz1⟩ := inF_bounds hZ
    have HRL : Hid ((rootB g a z).length = 32) := rootB_length g a z
    go_wp2_with fail
    refine (rBytes_ok g a z W1 (HS.out.below HB1.out).tab g0 g1 hA hZ ha0 ha1 hz0 hz1).mono ?_
    rintro e w2 ⟨b2, rfl, hr2, hl2, hb2⟩
    have HB2 : Hid (Below W1.heap.size W1 w2) := hb2
    have HR2 : Hid (Row w2 b2 (rootB g a z)) := hr2
    have HL2 : Hid (W1.heap.size ≤ b2) := hl2
    clear hb2 hr2 hl2 c0 c1 c2
    obtain ⟨c0, c1, c2⟩ := HCC.out _ HB2.out
    go_wp2_with fail
    refine (rBytes_ok g a z w2 (HS.out.below (HBW.out _ HB2.out)).tab g0 g1 hA hZ ha0 ha1 hz0 hz1).mono ?_
    rintro e w3 ⟨b3, rfl, hr3, hl3, hb3⟩
    have HB3 : Hid (Below W1.heap.size W1 w3) := HB2.out.trans (hb3.mono HB2.out.size)
    have HR3 : Hid (Row w3 b3 (rootB g a z)) := hr3
    have HN3 : Hid (b3 ≠ b2) := fun e => by have := HR2.out.lt; omega
    have HR23 : Hid (Row w3 b2 (rootB g a z)) := HR2.out.below hb3 HR2.out.lt
    clear hb3 hr3 hl3 c0 c1 c2
    obtain ⟨c0, c1, c2⟩ := HCC.out _ HB3.out
    go_wp2_with fail
    refine (plain4_any g a z w3).mono ?_
    rintro e w4 ⟨rfl, hb4⟩
    have HB34 : Hid (Below w3.heap.size w3 w4) := hb4
    have HB4 : Hid (Below W1.heap.size W1 w4) := HB3.out.trans (hb4.mono HB3.out.size)
    clear hb4 c0 c1 c2
    go_wp2_with fail
    refine (refRBytes_ok g a z w4 g0 g1 ha0 ha1 hz0 hz1).mono ?_
    rintro e w5 ⟨a5, cap5, rfl, ho5, hb5⟩
    have HB5 : Hid (Below W1.heap.size W1 w5) := HB4.out.trans (hb5.mono HB4.out.size)
    have HB35 : Hid (Below w3.heap.size w3 w5) := HB34.out.trans (hb5.mono HB34.out.size)
    have HO5 : Hid (Own w5 w4.heap.size (.slice a5 32 cap5) (rootB g a z)) := ho5
    have HN5 : Hid (∀ k, (Value.slice a5 32 cap5).ownBlock = some k → ¬ k = b2) := fun k hk e => by
      have h1 := (World.ownsRow.lt ho5 k hk).1
      have h2 := HR23.out.lt
      have h3 := HB34.out.size
      omega
    have HR25 : Hid (Row w5 b2 (rootB g a z)) := HR23.out.below HB35.out HR23.out.lt
    have HR35 : Hid (Row w5 b3 (rootB g a z)) := HR3.out.below HB35.out HR3.out.lt
    have s1 := str_of (row_bs HR25.out HRL.out)
    have s2 := str_of ho5.bs
    clear hb5 ho5
    go_wp2_with fail
    clear s1 s2
    go_loopw [9] (fun i wr => ∃ k : Nat, k ≤ 32 ∧ i = .int .i64 (k : Int) ∧ Hid (∃ l, Row wr b2 l ∧ l.length = 32) ∧ Hid (Row wr b3 (rootB g a z)) ∧ Hid (Bs wr (.slice a5 32 cap5) (rootB g a z)) ∧ Hid (Below W1.heap.size W1 wr)) (fun i _ => 32 - (intOf i).toNat)
    case atStart => exact ⟨0, by omega, rfl, ⟨_, HR25.out, HRL.out⟩, HR35.out, HO5.out.bs, HB5.out⟩
    case round =>
      obtain ⟨k, hk, rfl, HA, HC, HD, HE⟩ := hrel
      by_cases hlt : k < 32
      · obtain ⟨l, hl1, hl2⟩ := HA.out
        have HLR : Hid (Row wr b2 l) := hl1
        have HLL : Hid (l.length = 32) := hl2
        have d0 := hl1.cell (i := k) (by omega)
        have d1 := hl1.free k
        clear hl1 hl2
        generalize l.getD k 0 = y at d0
        go_wp2_with fail
        go_roundw
        case rel =>
          refine ⟨k + 1, by omega, by simp, ⟨_, HLR.out.set k _, by rw [List.length_set]; exact HLL.out⟩, ?_, ?_, ?_⟩
          · unfold Hid Row
            rw [Below.heap_setCell _ _ _ _ (fun e => HN3.out e)]
            exact HC.out
          · exact HD.out.chg (Chg.cell wr b2 k _) (fun q hq => HN5.out q hq)
          · exact HE.out.setCell HL2.out _
        case measure => simp [intOf]; omega
      · obtain rfl : k = 32 := by omega
        have s1 := str_of (row_bs HC.out HRL.out)
        have s2 := str_of HD.out
        go_wp2_with fail
        refine (lives4_any wr (HS.out.below (HBW.out _ HE.out))).mono ?_
        rintro e w6 ⟨rfl, hb6⟩
        go_wp2_with fail
        go_ret
        exact ⟨rfl, (HBW.out _ HE.out).trans (hb6.mono (HBW.out _ HE.out).size)⟩
end Go.Proofs.YtkiccnedmejnaaaDoor

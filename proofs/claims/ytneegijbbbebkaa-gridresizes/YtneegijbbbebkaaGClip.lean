/-
  The program's clip: where a chunk begins within the extent, and how many of its numbers lie there. Conditions: dims and shape fit, the coordinates are some.
-/
import Derived.Test.YtneegijbbbebkaaGPlM
import Derived.BigRegion
import Derived.Deep.QuietTactic
namespace Go.Proofs.Ytneegijbbbebkaa
open Go.RowKit Go.Shelf
set_option linter.unusedVariables false
set_option maxRecDepth 100000

/-- What clip tells. -/
def ClP (w : World) (D S C : List Int) (n : Nat) (e : Ending) (w' : World) : Prop := ∃ g1 g2, e = .returned (.tuple #[.slice (some ⟨g1, 0, none⟩) n n, .slice (some ⟨g2, 0, none⟩) n n]) ∧ RI w' g1 (clS D S C) ∧ RI w' g2 (clB D S C) ∧ g1 ≠ g2 ∧ w.heap.size ≤ g1 ∧ w.heap.size ≤ g2 ∧ Below w.heap.size w w'
set_option maxHeartbeats 16000000 in
theorem clip_any (D S C : List Int) (vd vs vc : Value) (n : Nat) (w : World) (hD : Is w vd D) (hS : Is w vs S) (hC : Is w vc C) (hn : D.length = n) (hn4 : n ≤ 4) (hsn : S.length = n) (hcn : C.length = n) (hd : ∀ x ∈ D, 0 ≤ x ∧ x ≤ 1048576) (hs : ∀ x ∈ S, 1 ≤ x ∧ x ≤ 1048576) (hc : ∀ x ∈ C, 0 ≤ x) :
    Calls Try.prog 35 #[vd, vs, vc] w (ClP w D S C n) := by
  have HD : Hid (Is w vd D) := hD
  have HS : Hid (Is w vs S) := hS
  have HC : Hid (Is w vc C) := hC
  obtain ⟨a1, m1, c1, rfl, e1, k1, _⟩ := hD.open
  obtain ⟨a2, m2, c2, rfl, e2, k2, _⟩ := hS.open
  obtain ⟨a3, m3, c3, rfl, e3, k3, _⟩ := hC.open
  obtain rfl : n = m1 := by omega
  obtain rfl : n = m2 := by omega
  obtain rfl : n = m3 := by omega
  obtain ⟨Z, hZ, hmk⟩ := make_rule n hn4
  have HZ : Hid _ := hZ
  have HLS : Hid ((clS D S C).length = n) := by rw [Hid, clS_length D S C (by omega) (by omega), hn]
  have HLB : Hid ((clB D S C).length = n) := by rw [Hid, clB_length D S C (by omega) (by omega), hn]
  have HAT : Hid (∀ (i : Nat) x y z, D[i]? = some x → S[i]? = some y → C[i]? = some z → (clS D S C)[i]? = some (if z ≤ x / y then z * y else x) ∧ (clB D S C)[i]? = some (min y (x - (if z ≤ x / y then z * y else x))) ∧ 0 ≤ x ∧ x ≤ 1048576 ∧ 1 ≤ y ∧ y ≤ 1048576 ∧ 0 ≤ z) := fun i x y z h1 h2 h3 =>
    ⟨clS_at D S C i x y z h1 h2 h3, clB_at D S C i x y z h1 h2 h3, (hd x (List.mem_of_getElem? h1)).1, (hd x (List.mem_of_getElem? h1)).2, (hs y (List.mem_of_getElem? h2)).1, (hs y (List.mem_of_getElem? h2)).2, hc z (List.mem_of_getElem? h3)⟩
  have hn0 : (n : Int) ≤ 4 := by omega
  clear hD hS hC hn hsn hcn hd hs hc hZ e1 e2 e3
  go_enter Try.func35, Try.ntmps35
  go_upto_region 1 with fail
  go_cut [6, 7] (fun x y wx => ∃ g1 g2, x = .slice (some ⟨g1, 0, none⟩) n n ∧ y = .slice (some ⟨g2, 0, none⟩) n n ∧ Hid (wx.heap[g1]? = some (.cells Z 3 (0, 0)) ∧ wx.heap[g2]? = some (.cells Z 3 (0, 0)) ∧ g1 ≠ g2 ∧ w.heap.size ≤ g1 ∧ w.heap.size ≤ g2 ∧ Below w.heap.size w wx))
  case first =>
    obtain ⟨wa, hwa, hba, hsa, hga⟩ := alloc_facts w.drew (.cells Z 3)
    obtain ⟨wb, hwb, hbb, hsb, hgb⟩ := alloc_facts wa (.cells Z 3)
    have hq : w.drew.heap.size = w.heap.size := rfl
    have HGA : Hid (wb.heap[w.heap.size]? = some (.cells Z 3 (0, 0)) ∧ wb.heap[w.heap.size + 1]? = some (.cells Z 3 (0, 0)) ∧ Below w.heap.size w wb) := by
      rw [hq] at hga hsa
      refine ⟨(hbb.block _ (by omega)).trans hga, by rw [← hsa]; exact hgb, ?_⟩
      have h1 : Below w.heap.size w wa := (Below.refl _ w).drew.trans (hba.mono (Nat.le_refl _))
      exact h1.trans (hbb.mono h1.size)
    clear hba hbb hga hgb hsb hq
    go_region
    all_goals
      go_wp2_with fail
      go_meet
      first
        | exact ⟨w.heap.size, w.heap.size + 1, rfl, rfl, HGA.out.1, HGA.out.2.1, by omega, by omega, by omega, HGA.out.2.2⟩
        | exact ⟨w.heap.size + 1, w.heap.size, rfl, rfl, HGA.out.2.1, HGA.out.1, by omega, by omega, by omega, HGA.out.2.2⟩
  case rest =>
    obtain ⟨g1, g2, rfl, rfl, HGG⟩ := hcut
    clear hmk
    have HNE : Hid (g1 ≠ g2) := HGG.out.2.2.1
    go_wp2_with fail
    go_loopw [17] (fun x wr => ∃ i : Nat, i ≤ n ∧ x = .int .i64 (i : Int) ∧ Hid (RI wr g1 (fillI n i (clS D S C))) ∧ Hid (RI wr g2 (fillI n i (clB D S C))) ∧ Hid (Below w.heap.size w wr)) (fun x _ => n - (intOf x).toNat)
    case atStart => exact ⟨0, Nat.zero_le _, rfl, by rw [Hid, fillI_zero, RI, ← HZ.out]; exact HGG.out.1, by rw [Hid, fillI_zero, RI, ← HZ.out]; exact HGG.out.2.1, HGG.out.2.2.2.2.2⟩
    case round =>
      obtain ⟨i, hin, rfl, H1, H2, HB⟩ := hrel
      rename World => w6
      by_cases hlt : i < n
      · have hili : (i : Int) < (n : Int) := by omega
        have hi0 : (0 : Int) ≤ (i : Int) := by omega
        obtain ⟨b1, o1, x, rfl, hx, _, cx⟩ := (HD.out.below HB.out).at hlt
        obtain ⟨b2, o2, y, rfl, hy, _, cy⟩ := (HS.out.below HB.out).at hlt
        obtain ⟨b3, o3, z, rfl, hz, _, cz⟩ := (HC.out.below HB.out).at hlt
        obtain ⟨hs1, hs2, x0, x1, y1, y2, z0⟩ := HAT.out i x y z hx hy hz
        have n1 : b1 ≠ g1 ∧ b1 ≠ g2 := by
          obtain ⟨b, o, x', e, _, _, c⟩ := HD.out.at hlt
          injection e with e; injection e with e e'; subst e
          have := World.block_lt_of_cell? w _ c
          have h8 := HGG.out.2.2.2
          simp only [] at this
          omega
        have n2 : b2 ≠ g1 ∧ b2 ≠ g2 := by
          obtain ⟨b, o, x', e, _, _, c⟩ := HS.out.at hlt
          injection e with e; injection e with e e'; subst e
          have := World.block_lt_of_cell? w _ c
          have h8 := HGG.out.2.2.2
          simp only [] at this
          omega
        have n3 : b3 ≠ g1 ∧ b3 ≠ g2 := by
          obtain ⟨b, o, x', e, _, _, c⟩ := HC.out.at hlt
          injection e with e; injection e with e e'; subst e
          have := World.block_lt_of_cell? w _ c
          have h8 := HGG.out.2.2.2
          simp only [] at this
          omega
        have hq0 : 0 ≤ x / y := Int.ediv_nonneg (by omega) (by omega)
        have hq1 : x / y ≤ x := Int.ediv_le_self _ (by omega)
        have HQ : Hid (x.tdiv y = x / y) := Int.tdiv_eq_ediv_of_nonneg (by omega)
        have hyz : (y == 0) = false := by simpa using (by omega : y ≠ 0)
        have hyn : y ≠ 0 := by omega
        have hym : y ≠ -1 := by omega
        have hcb := clip_bd (n := x) (s := y) (c := z) x0 y1 z0
        -- the store of the extent's own number
        obtain ⟨w7, hw7⟩ : ∃ w7, w6.setCell ⟨g1, i, none⟩ (.int .i64 x) = w7 := ⟨_, rfl⟩
        have f1 := H1.out.free i
        have q1 := H1.out.cell (fillI_at HLS.out hlt)
        have HR7 : Hid (RI w7 g1 ((fillI n i (clS D S C)).set i x)) := by rw [← hw7]; exact H1.out.set i x
        have HK7 : Hid (Kp (fun g => g = g1) w6 w7) := by rw [← hw7]; exact (Kp.refl _ w6).setCell _ (fun _ => rfl)
        have hl1 : ((fillI n i (clS D S C)).set i x)[i]? = some x := by rw [List.getElem?_set_self (by rw [fillI_len HLS.out hin]; exact hlt)]
        have dx := HK7.out.cell cx n1.1
        have dy := HK7.out.cell cy n2.1
        have dz := HK7.out.cell cz n3.1
        have d7 := HR7.out.cell hl1
        have f7 := HR7.out.free i
        by_cases hcl : z ≤ x / y
        · rw [if_pos hcl] at hs1 hs2 hcb
          have e1 : decide (z ≤ x / y) = true := by simpa using hcl
          obtain ⟨st, hst⟩ : ∃ st, z * y = st := ⟨_, rfl⟩
          have hw1 : IntKind.i64.wrap (z * y) = st := by rw [hst]; exact wrap_i64_in _ (by omega) (by omega)
          rw [hst] at hs1 hs2 hcb
          obtain ⟨bx, hbx⟩ : ∃ bx, min y (x - st) = bx := ⟨_, rfl⟩
          rw [hbx] at hs2
          clear hst
          go_wp2_with fail
          go_quiet (fail)
          go_wp2_with fail
          obtain ⟨w8, HW8⟩ : ∃ w8, Hid (w7.drewN nq = w8) := ⟨_, rfl⟩
          have HR8 : Hid (RI w8 g1 ((fillI n i (clS D S C)).set i x)) := by rw [← HW8.out]; exact HR7.out
          have HK8 : Hid (Kp (fun g => g = g1) w6 w8) := by rw [← HW8.out]; exact ⟨HK7.out.os, HK7.out.tape, HK7.out.output, HK7.out.size, HK7.out.block⟩
          rw [HW8.out]
          clear dx dy dz d7 f7 q1 f1
          have dx := HK8.out.cell cx n1.1
          have dy := HK8.out.cell cy n2.1
          have dz := HK8.out.cell cz n3.1
          have d7 := HR8.out.cell hl1
          have f7 := HR8.out.free i
          obtain ⟨w9, hw9⟩ : ∃ w9, w8.drew.setCell ⟨g1, i, none⟩ (.int .i64 st) = w9 := ⟨_, rfl⟩
          have HR1X : Hid (RI w9 g1 (fillI n (i + 1) (clS D S C))) := by
            have h9 := (show RI w8.drew g1 _ from HR8.out).set i st
            rw [hw9, List.set_set, fillI_set HLS.out hlt hs1] at h9
            exact h9
          have HKX : Hid (Kp (fun g => g = g1) w6 w9) := by rw [← hw9]; exact HK8.out.drew.setCell _ (fun _ => rfl)
          go_region
          clear dx dy dz d7 f7 hw9
          -- the box's number
          obtain ⟨wY, hwY⟩ : ∃ wY, w9.drew.setCell ⟨g2, i, none⟩ (.int .i64 bx) = wY := ⟨_, rfl⟩
          have HR2X : Hid (RI w9 g2 (fillI n i (clB D S C))) := H2.out.of_block (HKX.out.block g2 H2.out.lt (fun e => HNE.out e.symm))
          have HR2Y : Hid (RI wY g2 (fillI n (i + 1) (clB D S C))) := by
            rw [← hwY, Hid, ← fillI_set HLB.out hlt hs2]
            exact (show RI w9.drew g2 _ from HR2X.out).set i bx
          have HR1Y : Hid (RI wY g1 (fillI n (i + 1) (clS D S C))) := by
            rw [← hwY]
            exact HR1X.out.of_block (Below.heap_setCell _ _ _ _ (show g1 ≠ g2 from HNE.out))
          have HBY : Hid (Below w.heap.size w wY) := by
            have h1 : Below w.heap.size w w9 := HB.out.trans (HKX.out.below HB.out.size (fun x e => by rw [e]; exact HGG.out.2.2.2.1))
            rw [← hwY]
            exact h1.drew.setCell (by have := HGG.out.2.2.2.2.1; simpa using this) _
          have dx := HKX.out.cell cx n1.1
          have dy := HKX.out.cell cy n2.1
          have dz := HKX.out.cell cz n3.1
          have hl9 : (fillI n (i + 1) (clS D S C))[i]? = some st := by
            rw [fillI, List.getElem?_append_left (by simp; have := HLS.out; omega), List.getElem?_take_of_lt (by omega)]
            exact hs1
          have d9 := HR1X.out.cell hl9
          have f9 := HR2X.out.free i
          have q9 := HR2X.out.cell (fillI_at HLB.out hlt)
          have hwm : IntKind.i64.wrap (x - st) = x - st := wrap_i64_in _ (by omega) (by omega)
          go_wp2_with fail
          go_region
          all_goals
            go_wp2_with fail
            go_roundw
            case rel => exact ⟨i + 1, by omega, by simp, HR1Y.out, HR2Y.out, HBY.out⟩
            case measure => simp [intOf]; omega
        · rw [if_neg hcl] at hs1 hs2 hcb
          have e1 : decide (z ≤ x / y) = false := by simpa using hcl
          have hm0 : min y (0 : Int) = 0 := by omega
          rw [Int.sub_self, hm0] at hs2
          go_wp2_with fail
          go_quiet (fail)
          go_wp2_with fail
          obtain ⟨w8, HW8⟩ : ∃ w8, Hid (w7.drewN nq = w8) := ⟨_, rfl⟩
          have HR1X : Hid (RI w8 g1 (fillI n (i + 1) (clS D S C))) := by
            have h9 : RI (w7.drewN nq) g1 ((fillI n i (clS D S C)).set i x) := HR7.out
            rw [HW8.out, fillI_set HLS.out hlt hs1] at h9
            exact h9
          have HKX : Hid (Kp (fun g => g = g1) w6 w8) := by rw [← HW8.out]; exact ⟨HK7.out.os, HK7.out.tape, HK7.out.output, HK7.out.size, HK7.out.block⟩
          rw [HW8.out]
          clear dx dy dz d7 f7 q1 f1
          -- the box's number
          obtain ⟨wY, hwY⟩ : ∃ wY, w8.drew.setCell ⟨g2, i, none⟩ (.int .i64 0) = wY := ⟨_, rfl⟩
          have HR2X : Hid (RI w8 g2 (fillI n i (clB D S C))) := H2.out.of_block (HKX.out.block g2 H2.out.lt (fun e => HNE.out e.symm))
          have HR2Y : Hid (RI wY g2 (fillI n (i + 1) (clB D S C))) := by
            rw [← hwY, Hid, ← fillI_set HLB.out hlt hs2]
            exact (show RI w8.drew g2 _ from HR2X.out).set i 0
          have HR1Y : Hid (RI wY g1 (fillI n (i + 1) (clS D S C))) := by
            rw [← hwY]
            exact HR1X.out.of_block (Below.heap_setCell _ _ _ _ (show g1 ≠ g2 from HNE.out))
          have HBY : Hid (Below w.heap.size w wY) := by
            have h1 : Below w.heap.size w w8 := HB.out.trans (HKX.out.below HB.out.size (fun x e => by rw [e]; exact HGG.out.2.2.2.1))
            rw [← hwY]
            exact h1.drew.setCell (by have := HGG.out.2.2.2.2.1; simpa using this) _
          have dx := HKX.out.cell cx n1.1
          have dy := HKX.out.cell cy n2.1
          have dz := HKX.out.cell cz n3.1
          have hl9 : (fillI n (i + 1) (clS D S C))[i]? = some x := by
            rw [fillI, List.getElem?_append_left (by simp; have := HLS.out; omega), List.getElem?_take_of_lt (by omega)]
            exact hs1
          have d9 := HR1X.out.cell hl9
          have f9 := HR2X.out.free i
          have q9 := HR2X.out.cell (fillI_at HLB.out hlt)
          have hwm : IntKind.i64.wrap (x - x) = x - x := wrap_i64_in _ (by omega) (by omega)
          go_wp2_with fail
          go_region
          all_goals
            go_wp2_with fail
            go_roundw
            case rel => exact ⟨i + 1, by omega, by simp, HR1Y.out, HR2Y.out, HBY.out⟩
            case measure => simp [intOf]; omega
      · obtain rfl : i = n := by omega
        have HV : Hid (ClP w D S C i (.returned (.tuple #[.slice (some ⟨g1, 0, none⟩) i i, .slice (some ⟨g2, 0, none⟩) i i])) w6) := by
          have h1 := H1.out
          have h2 := H2.out
          rw [fillI_all HLS.out] at h1
          rw [fillI_all HLB.out] at h2
          exact ⟨g1, g2, rfl, h1, h2, HNE.out, HGG.out.2.2.2.1, HGG.out.2.2.2.2.1, HB.out⟩
        go_wp2_with fail
        go_ret2
        exact HV.out
end Go.Proofs.Ytneegijbbbebkaa

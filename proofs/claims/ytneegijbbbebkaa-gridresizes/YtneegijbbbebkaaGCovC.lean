/-
  The law's own counts and wide. Conditions: the extent and the shape fit.
-/
import Derived.Test.YtneegijbbbebkaaGCovN
namespace Go.Proofs.Ytneegijbbbebkaa
open Go.RowKit Go.Shelf
set_option linter.unusedVariables false
set_option maxRecDepth 100000

theorem cov_snoc {l : List Int} {i : Nat} {x : Int} (h : l[i]? = some x) : l.take (i + 1) = l.take i ++ [x] := by rw [List.take_add_one, h]; rfl
set_option maxHeartbeats 8000000 in
theorem counts_any (D S : List Int) (vd vs : Value) (n : Nat) (w : World) (hD : Is w vd D) (hS : Is w vs S) (hDn : D.length = n) (hSn : S.length = n) (hn : n ≤ 4) (hd : ∀ x ∈ D, 1 ≤ x ∧ x ≤ 1048576) (hs : ∀ x ∈ S, 1 ≤ x ∧ x ≤ 1048576) :
    Calls Try.prog 29 #[vd, vs] w fun e w' => ∃ u c, e = .returned (.slice u n c) ∧ OwnI w' w.heap.size (.slice u n c) (cntL D S) ∧ Below w.heap.size w w' := by
  have HD : Hid (Is w vd D) := hD
  have HS : Hid (Is w vs S) := hS
  obtain ⟨a1, m1, c1, rfl, e1, k1, l1⟩ := hD.open
  obtain ⟨a2, m2, c2, rfl, e2, k2, l2⟩ := hS.open
  obtain rfl : n = m1 := by omega
  obtain rfl : n = m2 := by omega
  have HDP : Hid (∀ x ∈ D, 1 ≤ x ∧ x ≤ 1048576) := hd
  have HSP : Hid (∀ x ∈ S, 1 ≤ x ∧ x ≤ 1048576) := hs
  have HCL : Hid ((cntL D S).length = n) := by rw [Hid, cntL, List.length_zipWith]; omega
  have hn0 : (n : Int) ≤ 4 := by omega
  clear hD hS hDn hSn hd hs e1 e2
  go_enter Try.func29, Try.ntmps29
  go_wp2_with fail
  go_loopw [6, 5] (fun x y wr => ∃ (i : Nat) (ua : Option Addr) (uc : Nat), i ≤ n ∧ x = .int .i64 (i : Int) ∧ y = .slice ua i uc ∧ Hid (OwnI wr w.heap.size (.slice ua i uc) ((cntL D S).take i)) ∧ Hid (Below w.heap.size w wr)) (fun x _ _ => n - (intOf x).toNat)
  case atStart => exact ⟨0, none, 0, Nat.zero_le _, rfl, rfl, OwnI.nil _ _, Below.refl _ _⟩
  case round =>
    obtain ⟨i, ua, uc, hin, rfl, rfl, HO, HB⟩ := hrel
    rename World => w6
    by_cases hlt : i < n
    · have hili : (i : Int) < (n : Int) := by omega
      have hi0 : (0 : Int) ≤ (i : Int) := by omega
      obtain ⟨b1, p1, x, rfl, hx, _, cx⟩ := (HD.out.below HB.out).at hlt
      obtain ⟨b2, p2, y, rfl, hy, _, cy⟩ := (HS.out.below HB.out).at hlt
      have HXX : Hid (D[i]? = some x ∧ S[i]? = some y) := ⟨hx, hy⟩
      have hx1 := HDP.out x (List.mem_of_getElem? hx)
      have hy1 := HSP.out y (List.mem_of_getElem? hy)
      clear hx hy
      have HSK : Hid (∀ wz : World, Below w.heap.size w wz → wz.cell? ⟨b1, p1 + i, none⟩ = some (.int .i64 x) ∧ wz.cell? ⟨b2, p2 + i, none⟩ = some (.int .i64 y)) := fun wz hz => by
        obtain ⟨b, o, x', e, hxx, _, c⟩ := HD.out.at hlt
        injection e with e; injection e with e e'; subst e e'
        obtain ⟨b', o', y', e2, hyy, _, c2⟩ := HS.out.at hlt
        injection e2 with e2; injection e2 with e2 e2'; subst e2 e2'
        rw [HXX.out.1] at hxx
        rw [HXX.out.2] at hyy
        obtain rfl := Option.some.inj hxx
        obtain rfl := Option.some.inj hyy
        exact ⟨(hz.cell (World.block_lt_of_cell? w _ c)).trans c, (hz.cell (World.block_lt_of_cell? w _ c2)).trans c2⟩
      obtain ⟨q, hq⟩ : ∃ q, (x + y - 1) / y = q := ⟨_, rfl⟩
      have HT1 : Hid ((cntL D S).take (i + 1) = (cntL D S).take i ++ [q]) := cov_snoc (by rw [cntL_at HXX.out.1 HXX.out.2, hq])
      have HL1 : Hid (((cntL D S).take i).length = i) := by rw [Hid, List.length_take, HCL.out]; omega
      have hq0 : 0 ≤ q := by rw [← hq]; exact Int.ediv_nonneg (by omega) (by omega)
      have hq1 : q ≤ 2097152 := by rw [← hq]; have := Int.ediv_le_self y (show 0 ≤ x + y - 1 by omega); omega
      have hw0 : IntKind.i64.wrap (x + y) = x + y := wrap_i64_in _ (by omega) (by omega)
      have hw0' : IntKind.i64.wrap (x + y - 1) = x + y - 1 := wrap_i64_in _ (by omega) (by omega)
      have htd : (x + y - 1).tdiv y = q := by rw [Int.tdiv_eq_ediv_of_nonneg (by omega), hq]
      have hwq : IntKind.i64.wrap q = q := wrap_i64_in _ (by omega) (by omega)
      have hyz : (y == 0) = false := by simpa using (by omega : y ≠ 0)
      have hyn : y ≠ 0 := by omega
      have hym : y ≠ -1 := by omega
      obtain ⟨wA, hwA, bA, sA, gA⟩ := alloc_facts w6.drew (.cells #[.int .i64 q] 3)
      have HBA6 : Hid (Below w6.heap.size w6 wA) := (Below.refl _ w6).drew.trans (bA.mono (Nat.le_refl _))
      have HGA : Hid (wA.heap[w6.heap.size]? = some (.cells #[.int .i64 q] 3 (0, 0))) := gA
      have HBA : Hid (Below w.heap.size w wA) := HB.out.trans (HBA6.out.mono HB.out.size)
      clear bA sA gA hq
      go_wp2_with fail
      clear cx cy
      go_region_held_law (fun wz => wz.cell? ⟨b1, p1 + i, none⟩ = some (.int .i64 x) ∧ wz.cell? ⟨b2, p2 + i, none⟩ = some (.int .i64 y)) (first | exact HSK.out _ HBD.out | exact HSK.out _ HBA.out | exact HSK.out _ HB.out.drew)
        ((refine step_push_intD 30 (w := wA) rfl rfl (.tmp 13) (.tmp 29) rfl w.heap.size (.slice ua i uc) ((cntL D S).take i) i HL1.out w6.heap.size q (by rfl) (by rfl) (HO.out.below HBA6.out) HGA.out (by omega) HBA.out.size ?_; rintro gD cD wD hOD hgD hatD; have HOD : Hid (OwnI wD w.heap.size (.slice (some ⟨gD, 0, none⟩) (i + 1) cD) ((cntL D S).take (i + 1))) := (by rw [Hid, HT1.out]; exact hOD); have HBD : Hid (Below w.heap.size w wD) := bel_grown HBA.out (HO.out.below HBA6.out) (Nat.le_refl _) hgD; clear hOD hgD hatD))
      go_wp2_with fail
      go_roundw
      case rel => exact ⟨i + 1, _, _, by omega, by simp, rfl, HOD.out, HBD.out⟩
      case measure => simp [intOf]; omega
    · obtain rfl : i = n := by omega
      have HE : Hid (OwnI w6 w.heap.size (.slice ua i uc) (cntL D S)) := by have h9 := HO.out; rwa [List.take_of_length_le (by rw [HCL.out]; exact Nat.le_refl _)] at h9
      go_wp2_with fail
      go_ret
      exact ⟨_, _, rfl, HE.out, HB.out⟩
theorem wide_any (D : List Int) (v : Value) (w : World) (h : Is w v D) : Calls Try.prog 27 #[v] w fun e w' => e = .returned (.bool (decide (3000 < elN D))) ∧ Below w.heap.size w w' := by
  have HE : Hid _ := refElements_any D v w h
  obtain ⟨a1, m1, c1, rfl, _⟩ := h.open
  obtain ⟨x, hx⟩ : ∃ x, elN D = x := ⟨_, rfl⟩
  obtain ⟨y, hy⟩ : ∃ y, elE D = y := ⟨_, rfl⟩
  rw [hx, hy] at HE
  rw [hx]
  clear hx hy h
  go_enter Try.func27, Try.ntmps27
  go_wp2_with (go_at_call 30; refine Calls.mono HE.out ?_; rintro e w1 ⟨rfl, hb1⟩; have HB1 : Hid (Below w.heap.size w w1) := hb1; clear hb1)
  go_ret
  exact ⟨rfl, HB1.out⟩
end Go.Proofs.Ytneegijbbbebkaa

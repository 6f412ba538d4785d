/-
  What two extents have in common, and the part that is all of an array. Conditions: the ranks are at most 4.
-/
import Derived.Test.YtneegijbbbebkaaGPlace
namespace Go.Proofs.Ytneegijbbbebkaa
open Go.RowKit Go.Shelf
set_option linter.unusedVariables false
set_option maxRecDepth 100000

def minL (a b : List Int) : List Int := List.zipWith min a b
theorem minL_at {a b : List Int} {i : Nat} {x y : Int} (hx : a[i]? = some x) (hy : b[i]? = some y) : (minL a b)[i]? = some (min x y) := by
  rw [minL, List.getElem?_zipWith, hx, hy]
theorem minL_length {a b : List Int} {n : Nat} (ha : a.length = n) (hb : b.length = n) : (minL a b).length = n := by
  rw [minL, List.length_zipWith]; omega
set_option maxHeartbeats 8000000 in
theorem common_any (A B : List Int) (va vb : Value) (n : Nat) (w : World) (hA : Is w va A) (hB : Is w vb B) (ha : A.length = n) (hb : B.length = n) (hn4 : n ≤ 4) : Calls Try.prog 47 #[va, vb] w fun e w' => ∃ g, e = .returned (.slice (some ⟨g, 0, none⟩) n n) ∧ RI w' g (minL A B) ∧ w.heap.size ≤ g ∧ Below w.heap.size w w' := by
  have HA : Hid (Is w va A) := hA
  have HB0 : Hid (Is w vb B) := hB
  obtain ⟨a1, m1, c1, rfl, e1, k1, _⟩ := hA.open
  obtain ⟨a2, m2, c2, rfl, e2, k2, _⟩ := hB.open
  obtain rfl : n = m1 := by omega
  obtain rfl : n = m2 := by omega
  obtain ⟨Z, hZ, hmk⟩ := make_rule n hn4
  have HZ : Hid _ := hZ
  have HLM : Hid ((minL A B).length = n) := minL_length ha hb
  obtain ⟨wa, hwa, hba, hsa, hga⟩ := alloc_facts w (.cells Z 3)
  have HBA : Hid (Below w.heap.size w wa) := hba
  have HGA : Hid (wa.heap[w.heap.size]? = some (.cells Z 3 (0, 0))) := hga
  clear hA hB ha hb hZ e1 e2 hba hsa hga
  go_enter Try.func47, Try.ntmps47
  go_wp2_with fail
  go_loopw [12] (fun x wr => ∃ i : Nat, i ≤ n ∧ x = .int .i64 (i : Int) ∧ Hid (RI wr w.heap.size (fillI n i (minL A B))) ∧ Hid (Below w.heap.size w wr)) (fun x _ => n - (intOf x).toNat)
  case atStart => exact ⟨0, Nat.zero_le _, rfl, by rw [Hid, fillI_zero, RI, ← HZ.out]; exact HGA.out, HBA.out⟩
  case round =>
    obtain ⟨i, hin, rfl, H1, HB⟩ := hrel
    rename World => w6
    by_cases hlt : i < n
    · have hili : (i : Int) < (n : Int) := by omega
      have hi0 : (0 : Int) ≤ (i : Int) := by omega
      obtain ⟨b1, o1, x, rfl, hx, _, cx⟩ := (HA.out.below HB.out).at hlt
      obtain ⟨b2, o2, y, rfl, hy, _, cy⟩ := (HB0.out.below HB.out).at hlt
      have hm := minL_at hx hy
      obtain ⟨z, hz⟩ : ∃ z, min x y = z := ⟨_, rfl⟩
      rw [hz] at hm
      have HM : Hid ((minL A B)[i]? = some z) := hm
      obtain ⟨w7, hw7⟩ : ∃ w7, w6.drew.setCell ⟨w.heap.size, i, none⟩ (.int .i64 z) = w7 := ⟨_, rfl⟩
      have f1 := H1.out.free i
      have q1 := H1.out.cell (fillI_at HLM.out hlt)
      have HR7 : Hid (RI w7 w.heap.size (fillI n (i + 1) (minL A B))) := by
        rw [← hw7, Hid, ← fillI_set HLM.out hlt HM.out]
        exact (show RI w6.drew w.heap.size _ from H1.out).set i z
      have HB7 : Hid (Below w.heap.size w w7) := by rw [← hw7]; exact HB.out.drew.setCell (Nat.le_refl _) _
      clear hx hy hm
      go_wp2_with fail
      go_region
      all_goals
        go_wp2_with fail
        go_roundw
        case rel => exact ⟨i + 1, by omega, by simp, HR7.out, HB7.out⟩
        case measure => simp [intOf]; omega
    · obtain rfl : i = n := by omega
      have HV : Hid (RI w6 w.heap.size (minL A B)) := by have h1 := H1.out; rwa [fillI_all HLM.out] at h1
      go_wp2_with fail
      go_ret
      exact ⟨_, rfl, HV.out, Nat.le_refl _, HB.out⟩
theorem Try.hiP : (Try.prog.info? 63).map (·.size) = some 3 := by kernel_rfl
set_option maxHeartbeats 8000000 in
theorem whole_any (b0 : Option Addr) (bn bc : Nat) (a1 : Option Addr) (n c1 : Nat) (w : World) (hn4 : n ≤ 4) : Calls Try.prog 40 #[.slice b0 bn bc, .slice a1 n c1] w fun e w' => ∃ g, e = .returned (.agg #[.slice b0 bn bc, .slice a1 n c1, .slice (some ⟨g, 0, none⟩) n n]) ∧ RI w' g (List.replicate n 0) ∧ w.heap.size ≤ g ∧ Below w.heap.size w w' := by
  obtain ⟨Z, hZ, hmk⟩ := make_rule n hn4
  have HZ : Hid _ := hZ
  obtain ⟨w1, hw1, hb1, hs1, hg1⟩ := alloc_facts w (.cells #[.slice none 0 0, .slice none 0 0, .slice none 0 0] 63)
  obtain ⟨w2, hw2, hb2, hs2, hg2⟩ := alloc_facts w1 (.cells Z 3)
  have B02 : Below w.heap.size w w2 := hb1.trans (hb2.mono hb1.size)
  have r0 : w2.heap[w.heap.size]? = _ := (hb2.block _ (by omega)).trans hg1
  have HR0 : Hid _ := r0
  have HB02 : Hid _ := B02
  have HG2 : Hid (w2.heap[w1.heap.size]? = some (.cells Z 3 (0, 0))) := hg2
  have HNE : Hid (w.heap.size < w1.heap.size ∧ w1.heap.size < w2.heap.size) := by rw [Hid]; omega
  clear hb1 hb2 hs1 hs2 hg1 hg2 B02 r0 hZ
  have k0 : w2.cell? ⟨w.heap.size, 0, none⟩ = some (.slice none 0 0) := cell_of_row _ _ 0 _ _ _ HR0.out
  have k1 : w2.cell? ⟨w.heap.size, 1, none⟩ = some (.slice none 0 0) := cell_of_row _ _ 1 _ _ _ HR0.out
  have k2 : w2.cell? ⟨w.heap.size, 2, none⟩ = some (.slice none 0 0) := cell_of_row _ _ 2 _ _ _ HR0.out
  have kf : ∀ j, w2.frozen? ⟨w.heap.size, j, none⟩ = false := fun j => by simp [World.frozen?, HR0.out]
  have kf0 := kf 0
  have kf1 := kf 1
  have kf2 := kf 2
  clear kf
  go_enter Try.func40, Try.ntmps40
  go_wp2_with fail
  have e0 := heap_setCell_same w2 w.heap.size 0 _ _ (.slice b0 bn bc) HR0.out
  have e1 := heap_setCell_same _ w.heap.size 1 _ _ (.slice a1 n c1) e0
  have e2 := heap_setCell_same _ w.heap.size 2 _ _ (.slice (some ⟨w1.heap.size, 0, none⟩) n n) e1
  have HBL : Hid (∀ u0 u1 u2 : Value, Below w.heap.size w (((w2.setCell ⟨w.heap.size, 0, none⟩ u0).setCell ⟨w.heap.size, 1, none⟩ u1).setCell ⟨w.heap.size, 2, none⟩ u2)) := fun u0 u1 u2 => ((HB02.out.setCell (Nat.le_refl _) u0).setCell (Nat.le_refl _) u1).setCell (Nat.le_refl _) u2
  refine bodyPost_ret (results_cell_row (P := Try.prog) rfl _ _ w.heap.size _ _ _ _ rfl e2 Try.underlying63 rfl Try.hiP) rfl ?_
  refine ⟨w1.heap.size, rfl, ?_, Nat.le_of_lt HNE.out.1, HBL.out _ _ _⟩
  have h9 : w.heap.size ≠ w1.heap.size := by have := HNE.out.1; omega
  unfold RI
  rw [← HZ.out]
  refine (Below.heap_setCell _ _ _ _ (show w1.heap.size ≠ w.heap.size from h9.symm)).trans ((Below.heap_setCell _ _ _ _ (show w1.heap.size ≠ w.heap.size from h9.symm)).trans ((Below.heap_setCell _ _ _ _ (show w1.heap.size ≠ w.heap.size from h9.symm)).trans HG2.out))
end Go.Proofs.Ytneegijbbbebkaa

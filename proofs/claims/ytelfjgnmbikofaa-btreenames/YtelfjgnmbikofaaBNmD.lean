/-
  The document's Drop of a name. Conditions: lengths are such as memory bears.
-/
import Derived.Test.YtelfjgnmbikofaaBNm2
namespace Go.Proofs.Ytelfjgnmbikofaa
open Go.RowKit
set_option linter.unusedVariables false
set_option maxRecDepth 100000

set_option maxHeartbeats 8000000 in
theorem refDrop_yes {w : World} {B r n i : Nat} {aoK aoV : Option Addr} {capK capV : Nat} {Ks : List ByteArray} {Vs : List Int} {X : List Pc} (hS : Sep w B (NM2 r (.slice aoK n capK) (.slice aoV n capV) Ks Vs ++ X)) (hB : B ≤ w.heap.size) (hKs : Ks.length = n) (hVs : Vs.length = n) (hin : i < n) (hn : n ≤ 100000) (k : ByteArray)
    (hat : Calls Try.prog 34 #[.pointer (some ⟨r, 0, none⟩), .string k] w fun e w' => e = .returned (.tuple #[.int .i64 (i : Int), .bool true]) ∧ Below w.heap.size w w') :
    Calls Try.prog 15 #[.pointer (some ⟨r, 0, none⟩), .string k] w fun e w' => e = .returned (.bool true) ∧ (∃ vK vV, Sep w' B (NM2 r vK vV (Ks.take i ++ Ks.drop (i + 1)) (Vs.take i ++ Vs.drop (i + 1)) ++ X)) ∧ Below B w w' := by
  obtain ⟨i1, hi1, hy0, hy1, hy2⟩ := info_partsG Try.infoS
  obtain ⟨j1, hj1, hv0, hv1, hv2⟩ := info_partsG Try.infoU
  have HKs : Hid (Ks.length = n) := hKs
  have HVs : Hid (Vs.length = n) := hVs
  have HSw : Hid (Sep w B (NM2 r (.slice aoK n capK) (.slice aoV n capV) Ks Vs ++ X)) := hS
  have HAT : Hid _ := hat
  have hini : (i : Int) < (n : Int) := by omega
  have hini1 : (i : Int) + 1 ≤ (n : Int) := by omega
  clear hS hat hKs hVs
  go_enter Try.func15, Try.ntmps15
  go_upto_region 3 with (go_at_call 34; refine Calls.mono HAT.out ?_; rintro e w1 ⟨rfl, hb1⟩; have HS0 : Hid (Sep w1 B (NM2 r (.slice aoK n capK) (.slice aoV n capV) Ks Vs ++ X)) := HSw.out.below hb1; have HB0 : Hid (Below B w w1) := hb1.mono hB; clear hb1)
  obtain ⟨q0, f0, ro⟩ := NM2.k (n := n) HS0.out
  have HRO : Hid (∀ W, Sep W B (NM2 r (.slice aoK n capK) (.slice aoV n capV) Ks Vs ++ X) → W.ownsRow B 9 1 (.slice aoK n capK) n (gc encS Ks)) := fun W hW => (NM2.k (n := n) hW).2.2 HKs.out
  have HQ0 : Hid (∀ W, Sep W B (NM2 r (.slice aoK n capK) (.slice aoV n capV) Ks Vs ++ X) → W.cell? ⟨r, 0, none⟩ = some (.slice aoK n capK) ∧ W.frozen? ⟨r, 0, none⟩ = false) := fun W hW => ⟨(NM2.k (n := n) hW).1, (NM2.k (n := n) hW).2.1⟩
  have hcp : n ≤ capK := row_cap (HRO.out _ HS0.out)
  have hcpi : (n : Int) ≤ (capK : Int) := by omega
  have hic : i ≤ capK := by omega
  have hic1 : i + 1 ≤ capK := by omega
  have hic2 : i + 1 ≤ n := by omega
  have hic3 : i ≤ n := by omega
  have hwr1 : IntKind.i64.wrap ((i : Int) + 1) = (i : Int) + 1 := by simp [IntKind.wrap, IntKind.bits, IntKind.signed]; omega
  have htn1 : ((i : Int) + 1).toNat = i + 1 := by omega
  have hnn1 : (0 : Int) ≤ (i : Int) + 1 := by omega
  have hic4 : (i : Int) + 1 ≤ (capK : Int) := by omega
  obtain ⟨wA, eA⟩ : ∃ x, w1.drew.alloc (.cells #[] 9) = x := ⟨_, rfl⟩
  have HBA : Hid (Below w1.heap.size w1 wA) := by unfold Hid; rw [← eA]; exact (Below.refl _ _).drew.alloc (Nat.le_refl _) _
  have HSA : Hid (Sep wA B (.row 9 1 (.slice (some ⟨w1.heap.size, 0, none⟩) 0 0) 0 (gc encS []) :: (NM2 r (.slice aoK n capK) (.slice aoV n capV) Ks Vs ++ X))) := Sep.new HS0.out HBA.out (by rw [← eA]; exact World.ownsRow_made w1.drew #[] 0 (Nat.le_trans hB HB0.out.size) (Nat.zero_le _) rfl) (by intro x hx; simp [Pc.blk, Value.ownBlock] at hx; omega)
  have HB0A : Hid (Below B w wA) := HB0.out.trans (HBA.out.mono (Nat.le_trans hB HB0.out.size))
  obtain ⟨qA, fA⟩ := HQ0.out wA HSA.out.tail
  have hrA : r < wA.heap.size := World.block_lt_of_cell? wA _ qA
  have HON : Hid (∀ (l : List ByteArray), ∀ u ∈ gc encS l, u.oneCell' = true) := one_gcS
  go_cut [32] (fun _ wc => ∃ ao9 cap9, Hid (Sep wc B (NM2 r (.slice ao9 (n - 1) cap9) (.slice aoV n capV) (Ks.take i ++ Ks.drop (i + 1)) Vs ++ X)) ∧ Hid (Below B w wc))
  case first =>
    go_region_law (first
      | (refine step_append_T 22 rfl rfl (.tmp 15) (.tmp 21) 26 9 rfl i1 Try.underlying26 hi1 _ hy0 1 16 hy1 hy2 rfl (by omega) B (.slice (some ⟨w1.heap.size, 0, none⟩) 0 0) (.slice aoK i capK) 0 i (gc encS []) (gc encS (Ks.take i)) rfl rfl (HSA.out.at_ (.row 9 1 (.slice (some ⟨w1.heap.size, 0, none⟩) 0 0) 0 (gc encS [])) (List.Mem.head _)) (by have h9 := rd_front (m := i) (HRO.out wA HSA.out.tail) (by omega); rw [Nat.mul_one] at h9; have h8 := gc_take encS_len Ks i; rw [Nat.mul_one] at h8; rw [h8] at h9; exact h9) (HON.out _) (by omega) (by omega) (Nat.le_trans hB HB0A.out.size) i (by omega) ?_; intro ao3 cap3 w3 ho3 hg3 ha3; have HS3 : Hid (Sep w3 B (.row 9 1 (.slice ao3 i cap3) i (gc encS (Ks.take i)) :: (NM2 r (.slice aoK n capK) (.slice aoV n capV) Ks Vs ++ X))) := Sep.turn [] (v := .slice (some ⟨w1.heap.size, 0, none⟩) 0 0) (n := 0) (xs := gc encS []) HSA.out ho3 hg3 (ha3.imp id (fun e => by intro x hx; rw [e] at hx; injection hx with hx; omega)); have HB3 : Hid (Below B w w3) := below_gr HB0A.out (Nat.le_trans hB HB0A.out.size) (HSA.out.at_ (.row 9 1 (.slice (some ⟨w1.heap.size, 0, none⟩) 0 0) 0 (gc encS [])) (List.Mem.head _)) hg3; obtain ⟨q3, f3⟩ := HQ0.out w3 HS3.out.tail; clear ho3 hg3 ha3)
      | (refine step_append_T 30 rfl rfl (.tmp 22) (.tmp 29) 26 9 rfl i1 Try.underlying26 hi1 _ hy0 1 16 hy1 hy2 rfl (by omega) B (.slice ao3 i cap3) _ i (n - (i + 1)) (gc encS (Ks.take i)) (gc encS (Ks.drop (i + 1))) rfl rfl (HS3.out.at_ (.row 9 1 (.slice ao3 i cap3) i (gc encS (Ks.take i))) (List.Mem.head _)) (by have h9 := rd_back (m := i + 1) (HRO.out w3 HS3.out.tail) (by omega) _ (pk0 capK (i + 1) aoK) (pk1 (m := i + 1) (by omega)) (pk2 capK (i + 1) aoK); rw [Nat.mul_one] at h9; have h8 := gc_drop encS_len Ks (i + 1); rw [Nat.mul_one] at h8; rw [h8] at h9; exact h9) (HON.out _) (by omega) (by omega) (Nat.le_trans hB HB3.out.size) (n - 1) (by omega) ?_; intro ao4 cap4 w4 ho4 hg4 ha4; have HS4 : Hid (Sep w4 B (.row 9 1 (.slice ao4 (n - 1) cap4) (n - 1) (gc encS (Ks.take i) ++ gc encS (Ks.drop (i + 1))) :: (NM2 r (.slice aoK n capK) (.slice aoV n capV) Ks Vs ++ X))) := Sep.turn [] (v := .slice ao3 i cap3) (n := i) (xs := gc encS (Ks.take i)) HS3.out ho4 hg4 (ha4.imp id (fun e => by intro x hx; rw [e] at hx; injection hx with hx; omega)); have HB4 : Hid (Below B w w4) := below_gr HB3.out (Nat.le_trans hB HB3.out.size) (HS3.out.at_ (.row 9 1 (.slice ao3 i cap3) i (gc encS (Ks.take i))) (List.Mem.head _)) hg4; obtain ⟨q4, f4⟩ := HQ0.out w4 HS4.out.tail; clear ho4 hg4 ha4))
    all_goals go_wp2_with fail
    all_goals go_meet
    all_goals exact ⟨ao4, cap4, nm_k (n := n) (by rw [List.length_append, List.length_take, List.length_drop, HKs.out]; omega) (by rw [gc_append]) HS4.out, nm_below HB4.out (obj_ge HS4.out)⟩
  case rest =>
    obtain ⟨aoN, capN, HS9, HB9⟩ := hcut
    clear q0 f0 ro qA fA hrA HSA HBA HB0A HRO HQ0 HS0 HB0 eA hcp hcpi hic hic1 hic2 hic3 hic4 hwr1 htn1 hnn1 HON wA
    have HS0 : Hid (Sep wc B (NM2 r (.slice aoN (n - 1) capN) (.slice aoV n capV) (Ks.take i ++ Ks.drop (i + 1)) Vs ++ X)) := HS9.out
    have HB0 : Hid (Below B w wc) := HB9.out
    obtain ⟨q0, f0, ro⟩ := NM2.v (n := n) HS0.out
    have HRO : Hid (∀ W, Sep W B (NM2 r (.slice aoN (n - 1) capN) (.slice aoV n capV) (Ks.take i ++ Ks.drop (i + 1)) Vs ++ X) → W.ownsRow B 31 1 (.slice aoV n capV) n (gc encU Vs)) := fun W hW => (NM2.v (n := n) hW).2.2 HVs.out
    have HQ0 : Hid (∀ W, Sep W B (NM2 r (.slice aoN (n - 1) capN) (.slice aoV n capV) (Ks.take i ++ Ks.drop (i + 1)) Vs ++ X) → W.cell? ⟨r, 1, none⟩ = some (.slice aoV n capV) ∧ W.frozen? ⟨r, 1, none⟩ = false) := fun W hW => ⟨(NM2.v (n := n) hW).1, (NM2.v (n := n) hW).2.1⟩
    have hcp : n ≤ capV := row_cap (HRO.out _ HS0.out)
    have hcpi : (n : Int) ≤ (capV : Int) := by omega
    have hic : i ≤ capV := by omega
    have hic1 : i + 1 ≤ capV := by omega
    have hic2 : i + 1 ≤ n := by omega
    have hic3 : i ≤ n := by omega
    have hwr1 : IntKind.i64.wrap ((i : Int) + 1) = (i : Int) + 1 := by simp [IntKind.wrap, IntKind.bits, IntKind.signed]; omega
    have htn1 : ((i : Int) + 1).toNat = i + 1 := by omega
    have hnn1 : (0 : Int) ≤ (i : Int) + 1 := by omega
    have hic4 : (i : Int) + 1 ≤ (capV : Int) := by omega
    obtain ⟨wA, eA⟩ : ∃ x, wc.drew.alloc (.cells #[] 31) = x := ⟨_, rfl⟩
    have HBA : Hid (Below wc.heap.size wc wA) := by unfold Hid; rw [← eA]; exact (Below.refl _ _).drew.alloc (Nat.le_refl _) _
    have HSA : Hid (Sep wA B (.row 31 1 (.slice (some ⟨wc.heap.size, 0, none⟩) 0 0) 0 (gc encU []) :: (NM2 r (.slice aoN (n - 1) capN) (.slice aoV n capV) (Ks.take i ++ Ks.drop (i + 1)) Vs ++ X))) := Sep.new HS0.out HBA.out (by rw [← eA]; exact World.ownsRow_made wc.drew #[] 0 (Nat.le_trans hB HB0.out.size) (Nat.zero_le _) rfl) (by intro x hx; simp [Pc.blk, Value.ownBlock] at hx; omega)
    have HB0A : Hid (Below B w wA) := HB0.out.trans (HBA.out.mono (Nat.le_trans hB HB0.out.size))
    obtain ⟨qA, fA⟩ := HQ0.out wA HSA.out.tail
    have hrA : r < wA.heap.size := World.block_lt_of_cell? wA _ qA
    have HON : Hid (∀ (l : List Int), ∀ u ∈ gc encU l, u.oneCell' = true) := one_gcU
    go_upto_region 4 with fail
    go_cut [51] (fun _ wc => ∃ ao9 cap9, Hid (Sep wc B (NM2 r (.slice aoN (n - 1) capN) (.slice ao9 (n - 1) cap9) (Ks.take i ++ Ks.drop (i + 1)) (Vs.take i ++ Vs.drop (i + 1)) ++ X)) ∧ Hid (Below B w wc))
    case first =>
      go_region_law (first
        | (refine step_append_T 41 rfl rfl (.tmp 34) (.tmp 40) 27 31 rfl j1 Try.underlying27 hj1 _ hv0 1 8 hv1 hv2 rfl (by omega) B (.slice (some ⟨wc.heap.size, 0, none⟩) 0 0) (.slice aoV i capV) 0 i (gc encU []) (gc encU (Vs.take i)) rfl rfl (HSA.out.at_ (.row 31 1 (.slice (some ⟨wc.heap.size, 0, none⟩) 0 0) 0 (gc encU [])) (List.Mem.head _)) (by have h9 := rd_front (m := i) (HRO.out wA HSA.out.tail) (by omega); rw [Nat.mul_one] at h9; have h8 := gc_take encU_len Vs i; rw [Nat.mul_one] at h8; rw [h8] at h9; exact h9) (HON.out _) (by omega) (by omega) (Nat.le_trans hB HB0A.out.size) i (by omega) ?_; intro ao3 cap3 w3 ho3 hg3 ha3; have HS3 : Hid (Sep w3 B (.row 31 1 (.slice ao3 i cap3) i (gc encU (Vs.take i)) :: (NM2 r (.slice aoN (n - 1) capN) (.slice aoV n capV) (Ks.take i ++ Ks.drop (i + 1)) Vs ++ X))) := Sep.turn [] (v := .slice (some ⟨wc.heap.size, 0, none⟩) 0 0) (n := 0) (xs := gc encU []) HSA.out ho3 hg3 (ha3.imp id (fun e => by intro x hx; rw [e] at hx; injection hx with hx; omega)); have HB3 : Hid (Below B w w3) := below_gr HB0A.out (Nat.le_trans hB HB0A.out.size) (HSA.out.at_ (.row 31 1 (.slice (some ⟨wc.heap.size, 0, none⟩) 0 0) 0 (gc encU [])) (List.Mem.head _)) hg3; obtain ⟨q3, f3⟩ := HQ0.out w3 HS3.out.tail; clear ho3 hg3 ha3)
        | (refine step_append_T 49 rfl rfl (.tmp 41) (.tmp 48) 27 31 rfl j1 Try.underlying27 hj1 _ hv0 1 8 hv1 hv2 rfl (by omega) B (.slice ao3 i cap3) _ i (n - (i + 1)) (gc encU (Vs.take i)) (gc encU (Vs.drop (i + 1))) rfl rfl (HS3.out.at_ (.row 31 1 (.slice ao3 i cap3) i (gc encU (Vs.take i))) (List.Mem.head _)) (by have h9 := rd_back (m := i + 1) (HRO.out w3 HS3.out.tail) (by omega) _ (pk0 capV (i + 1) aoV) (pk1 (m := i + 1) (by omega)) (pk2 capV (i + 1) aoV); rw [Nat.mul_one] at h9; have h8 := gc_drop encU_len Vs (i + 1); rw [Nat.mul_one] at h8; rw [h8] at h9; exact h9) (HON.out _) (by omega) (by omega) (Nat.le_trans hB HB3.out.size) (n - 1) (by omega) ?_; intro ao4 cap4 w4 ho4 hg4 ha4; have HS4 : Hid (Sep w4 B (.row 31 1 (.slice ao4 (n - 1) cap4) (n - 1) (gc encU (Vs.take i) ++ gc encU (Vs.drop (i + 1))) :: (NM2 r (.slice aoN (n - 1) capN) (.slice aoV n capV) (Ks.take i ++ Ks.drop (i + 1)) Vs ++ X))) := Sep.turn [] (v := .slice ao3 i cap3) (n := i) (xs := gc encU (Vs.take i)) HS3.out ho4 hg4 (ha4.imp id (fun e => by intro x hx; rw [e] at hx; injection hx with hx; omega)); have HB4 : Hid (Below B w w4) := below_gr HB3.out (Nat.le_trans hB HB3.out.size) (HS3.out.at_ (.row 31 1 (.slice ao3 i cap3) i (gc encU (Vs.take i))) (List.Mem.head _)) hg4; obtain ⟨q4, f4⟩ := HQ0.out w4 HS4.out.tail; clear ho4 hg4 ha4))
      all_goals go_wp2_with fail
      all_goals go_meet
      all_goals exact ⟨ao4, cap4, nm_v (n := n) (by rw [List.length_append, List.length_take, List.length_drop, HVs.out]; omega) (by rw [gc_append]) HS4.out, nm_below HB4.out (obj_ge HS4.out)⟩
    case rest =>
      obtain ⟨aoM, capM, HS8, HB8⟩ := hcut
      go_wp2_with fail
      go_ret
      exact ⟨rfl, ⟨_, _, HS8.out⟩, HB8.out⟩
end Go.Proofs.Ytelfjgnmbikofaa

/-
  The document's Place. Conditions: the numbers fit their kinds; the length is small.
-/
import Derived.Test.YtkiccnedmejnaaaDoorBytesWalk4
namespace Go.Proofs.YtkiccnedmejnaaaDoor
open Go.RowKit
set_option linter.unusedVariables false
set_option maxRecDepth 100000

theorem refPlace_no (L g a z : Int) (w : World) (hin : inF a = false ∨ inF z = false) :
    Calls Tryd.prog 22 #[.int .i64 L, .agg #[.int .u64 g, .int .i64 a, .int .i64 z]] w fun e w' => e = .returned (.tuple #[.int .i64 0, .slice none 0 0, .int .i64 2]) ∧ Below w.heap.size w w' := by
  obtain ⟨W, HW⟩ : ∃ W, Hid (W = w.alloc (.cells #[.int .u64 g, .int .i64 a, .int .i64 z] 31)) := ⟨_, rfl⟩
  have HB : Hid (Below w.heap.size w W) := by rw [Hid, HW.out]; exact (Below.refl _ w).alloc (Nat.le_refl _) _
  have HC : Hid (W.heap[w.heap.size]? = some (.cells #[.int .u64 g, .int .i64 a, .int .i64 z] 31 (0, 0))) := by rw [Hid, HW.out]; exact heap_alloc_new w _
  obtain ⟨c0, c1, c2, _, _, _⟩ := three_cells HC.out
  go_enter Tryd.func22, Tryd.ntmps22
  go_upto_region 1 with fail
  rw [← HW.out]
  go_wp2_with fail
  refine (refRBytes_no g a z W hin).mono ?_
  rintro e w2 ⟨rfl, hb2⟩
  have HB2 : Hid (Below w.heap.size w w2) := HB.out.trans (hb2.mono HB.out.size)
  clear hb2 c0 c1 c2
  go_wp2_with fail
  refine bodyPost_ret (v := .tuple #[.int .i64 0, .slice none 0 0, .int .i64 2]) ?_ rfl ?_
  · simp [results, Tryd.f22, go_sem]
  · exact ⟨rfl, HB2.out⟩

set_option maxHeartbeats 4000000 in
theorem refPlace_ok (F : Mdl) (g a z : Int) (w : World) (hL : F.bs.length ≤ 4194304) (hg0 : 0 ≤ g) (hg1 : g < 18446744073709551616) (ha0 : 0 ≤ a) (ha1 : a ≤ 4194304) (hz0' : 0 ≤ z) (hz1' : z ≤ 4194304) :
    Calls Tryd.prog 22 #[.int .i64 (F.bs.length : Int), .agg #[.int .u64 g, .int .i64 a, .int .i64 z]] w fun e w' => ∃ x, e = .returned (.tuple #[.int .i64 ((putAt F g : Nat) : Int), x, .int .i64 0]) ∧ Own w' w.heap.size x (putX F g a z) ∧ Below w.heap.size w w' := by
  obtain ⟨i0, hi, hz0, hz1, hz2⟩ := info_parts Tryd.info5
  obtain ⟨W, HW⟩ : ∃ W, Hid (W = w.alloc (.cells #[.int .u64 g, .int .i64 a, .int .i64 z] 31)) := ⟨_, rfl⟩
  have HB : Hid (Below w.heap.size w W) := by rw [Hid, HW.out]; exact (Below.refl _ w).alloc (Nat.le_refl _) _
  have HC : Hid (W.heap[w.heap.size]? = some (.cells #[.int .u64 g, .int .i64 a, .int .i64 z] 31 (0, 0))) := by rw [Hid, HW.out]; exact heap_alloc_new w _
  obtain ⟨c0, c1, c2, _, _, _⟩ := three_cells HC.out
  obtain ⟨n, HN⟩ : ∃ n, Hid (putN g = n) := ⟨_, rfl⟩
  obtain ⟨fr, HF⟩ : ∃ fr, Hid (putAt F g = fr) := ⟨_, rfl⟩
  obtain ⟨L, HL⟩ : ∃ L, Hid (F.bs.length = L) := ⟨_, rfl⟩
  have hn : n ≤ 32 := by rw [← HN.out]; exact putN_le g hg0
  have HFR : Hid (fr = min n L) := by rw [Hid, ← HF.out, ← HN.out, ← HL.out]; rfl
  have HNG : Hid ((n : Int) = 32 * (g % 2)) := by rw [Hid, ← HN.out]; unfold putN; omega
  have HX : Hid (putX F g a z = List.replicate (n - fr) 0 ++ rootB g a z) := by unfold Hid putX; rw [HN.out, HF.out]
  have HRB : Hid ((rootB g a z).length = 32) := rootB_length g a z
  have hgm : g.tmod 2 = g % 2 := Int.tmod_eq_emod_of_nonneg hg0
  have hgw : IntKind.i64.wrap (g % 2) = g % 2 := by simp [IntKind.wrap, IntKind.bits, IntKind.signed]; omega
  have hgw2 : IntKind.u64.wrap (g % 2) = g % 2 := by simp [IntKind.wrap, IntKind.bits, IntKind.signed]; omega
  have hmul : 32 * (g % 2) = (n : Int) := HNG.out.symm
  have hL4 : L ≤ 4194304 := by rw [← HL.out]; exact hL
  rw [HL.out]
  clear hL
  go_enter Tryd.func22, Tryd.ntmps22
  go_upto_region 1 with fail
  rw [← HW.out]
  go_wp2_with fail
  refine (refRBytes_ok g a z W hg0 hg1 ha0 ha1 hz0' hz1').mono ?_
  rintro e w2 ⟨a2, cap2, rfl, ho2, hb2⟩
  have HO2 : Hid (Own w2 W.heap.size (.slice a2 32 cap2) (rootB g a z)) := ho2
  have HB2 : Hid (Below W.heap.size W w2) := hb2
  have HBW2 : Hid (Below w.heap.size w w2) := HB.out.trans (hb2.mono HB.out.size)
  have HC2 : Hid _ := (hb2.block _ (Array.getElem?_eq_some_iff.1 HC.out).1).trans HC.out
  clear ho2 hb2 c0 c1 c2
  obtain ⟨c0, c1, c2, _, _, _⟩ := three_cells HC2.out
  go_wp2_with fail
  go_loopw [9, 10] (fun q o wr => ∃ (k : Nat) (ak : Option Addr) (ck : Nat), k ≤ n - fr ∧ q = .int .i64 ((n : Int) - (k : Int)) ∧ o = .slice ak k ck ∧ Hid (Own wr w2.heap.size (.slice ak k ck) (List.replicate k 0)) ∧ Hid (Below w2.heap.size w2 wr)) (fun q _ _ => (intOf q).toNat)
  case atStart => exact ⟨0, none, 0, Nat.zero_le _, by simp, rfl, Own.nil _ _, Below.refl _ _⟩
  case round =>
    obtain ⟨k, ak, ck, hk, rfl, rfl, HO, HBR⟩ := hrel
    by_cases hlt : k < n - fr
    · have hc : (L : Int) < (n : Int) - (k : Int) := by have := HFR.out; omega
      go_wp2_with (at_builtin; refine wpList_append_bytes _ rfl (.tmp 27) (.tmp 28) 25 rfl i0 Tryd.underlying25 hi hz0 hz1 hz2 w2.heap.size _ _ (List.replicate k 0) [0] rfl rfl (HO.out.alloc _) (Bs.one _ _) (by simp; omega) w2 (HBR.out.alloc HBR.out.size _) (by have := HBR.out.size; simp; omega) ?_; intro a3 c3 w3 ho3 hb3 _ _; simp only [List.length_replicate, List.length_cons, List.length_nil, Nat.zero_add] at ho3 ⊢; have HO3 : Hid (Own w3 w2.heap.size (.slice a3 (k + 1) c3) (List.replicate k 0 ++ [0])) := ho3; have HB3 : Hid (Below w2.heap.size w2 w3) := hb3; clear ho3 hb3)
      go_roundw
      case rel => exact ⟨k + 1, a3, c3, by omega, by simp; omega, rfl, by rw [List.replicate_succ']; exact HO3.out, HB3.out⟩
      case measure => simp [intOf]; omega
    · obtain hke : k = n - fr := by omega
      have hc : ¬ (L : Int) < (n : Int) - (k : Int) := by have := HFR.out; omega
      have HPE : Hid ((n : Int) - (k : Int) = (fr : Int)) := by unfold Hid; have := HFR.out; omega
      have HKE : Hid (k = n - fr) := hke
      have HBX : Hid (Bs wr (.slice a2 32 cap2) (rootB g a z)) := HO2.out.bs.below HBR.out
      clear hke
      go_wp2_with (at_builtin; refine wpList_append_bytes _ rfl (.tmp 33) (.tmp 34) 25 rfl i0 Tryd.underlying25 hi hz0 hz1 hz2 w2.heap.size _ _ (List.replicate k 0) (rootB g a z) rfl rfl HO.out HBX.out (by rw [List.length_replicate, HRB.out]; omega) w2 HBR.out HBR.out.size ?_; intro a3 c3 w3 ho3 hb3 _ _; have HO3 : Hid (Own w3 w2.heap.size (.slice a3 ((List.replicate k (0 : Int)).length + (rootB g a z).length) c3) (List.replicate k 0 ++ rootB g a z)) := ho3; have HB3 : Hid (Below w2.heap.size w2 w3) := hb3; clear ho3 hb3)
      refine bodyPost_ret (v := .tuple #[.int .i64 ((n : Int) - (k : Int)), .slice a3 ((List.replicate k (0 : Int)).length + (rootB g a z).length) c3, .int .i64 0]) ?_ rfl ?_
      · simp [results, Tryd.f22, go_sem]
      · refine ⟨_, by rw [HPE.out, HF.out], ?_, HBW2.out.trans (HB3.out.mono HBW2.out.size)⟩
        rw [HX.out, ← HKE.out]
        exact HO3.out.mono HBW2.out.size
end Go.Proofs.YtkiccnedmejnaaaDoor

/-
  The small functions of slots: slotOf, better, ownRoot; the law's plain. Conditions: noRoot stands.
-/
import Derived.Test.YtkiccnedmejnaaaDoorRefLoad4
import Derived.Test.YtkiccnedmejnaaaDoorNoRoot
namespace Go.Proofs.YtkiccnedmejnaaaDoor
open Go.RowKit
set_option linter.unusedVariables false
set_option maxRecDepth 100000

theorem slotOf_any (g a z : Int) (w : World) (h0 : 0 ≤ g) (h1 : g < 18446744073709551616) :
    Calls Tryd.prog 49 #[.agg #[.int .u64 g, .int .i64 a, .int .i64 z]] w fun e w' => e = .returned (.int .i64 (g % 2)) ∧ Below w.heap.size w w' := by
  have hm : g.tmod 2 = g % 2 := Int.tmod_eq_emod_of_nonneg h0
  have hw : IntKind.i64.wrap (g % 2) = g % 2 := by simp [IntKind.wrap, IntKind.bits, IntKind.signed]; omega
  have hw2 : IntKind.u64.wrap (g % 2) = g % 2 := by simp [IntKind.wrap, IntKind.bits, IntKind.signed]; omega
  go_enter Tryd.func49, Tryd.ntmps49
  go_wp2
  go_ret
  exact ⟨by simp, (Below.refl _ w).alloc (Nat.le_refl _) _⟩

theorem three_new (w : World) (a b c : Obj) : (((w.alloc a).alloc b).alloc c).heap[w.heap.size]? = some a ∧ (((w.alloc a).alloc b).alloc c).heap[w.heap.size + 1]? = some b ∧ (((w.alloc a).alloc b).alloc c).heap[w.heap.size + 1 + 1]? = some c := by
  refine ⟨?_, ?_, ?_⟩
  · rw [Below.heap_alloc _ _ _ (by simp; omega), Below.heap_alloc _ _ _ (by simp)]
    exact heap_alloc_new w a
  · rw [Below.heap_alloc _ _ _ (by simp)]
    have := heap_alloc_new (w.alloc a) b
    simpa using this
  · have := heap_alloc_new ((w.alloc a).alloc b) c
    simpa using this
theorem better_none (g' a' z' : Int) (w : World) (hN : NoR w)  :
    Calls Tryd.prog 40 #[.agg #[.int .u64 0, .int .i64 (-1), .int .i64 0], .agg #[.int .u64 g', .int .i64 a', .int .i64 z']] w fun e w' => e = .returned (.agg #[.int .u64 g', .int .i64 a', .int .i64 z']) ∧ Below w.heap.size w w' := by
  obtain ⟨W, HW⟩ : ∃ W, Hid (W = ((w.alloc (.cells #[.int .u64 0, .int .i64 (-1), .int .i64 0] 24)).alloc (.cells #[.int .u64 g', .int .i64 a', .int .i64 z'] 24)).alloc (.cells #[.int .u64 0, .int .i64 0, .int .i64 0] 24)) := ⟨_, rfl⟩
  have HB : Hid (Below w.heap.size w W) := by rw [Hid, HW.out]; exact (((Below.refl _ w).alloc (Nat.le_refl _) _).alloc (by simp) _).alloc (by simp; omega) _
  obtain ⟨n0, n1, n2⟩ := hN.below HB.out hN.lt
  obtain ⟨q0, q1, q2⟩ := three_new w (.cells #[.int .u64 0, .int .i64 (-1), .int .i64 0] 24) (.cells #[.int .u64 g', .int .i64 a', .int .i64 z'] 24) (.cells #[.int .u64 0, .int .i64 0, .int .i64 0] 24)
  rw [← HW.out] at q0 q1 q2
  obtain ⟨a0, a1, a2, _, _, _⟩ := three_cells q0
  obtain ⟨b0, b1, b2, _, _, _⟩ := three_cells q1
  obtain ⟨d0, d1, d2, f0, f1, f2⟩ := three_cells q2
  have HQ2 : Hid _ := q2
  clear q0 q1 q2 hN
  go_enter Tryd.func40, Tryd.ntmps40
  go_upto_region 1 with fail
  rw [← HW.out]
  go_wp2
  refine bodyPost_ret (v := .agg #[.int .u64 g', .int .i64 a', .int .i64 z']) ?_ rfl ?_
  · have d0 := three_set HQ2.out (.int .u64 g') (.int .i64 a') (.int .i64 z') 0
    have d1 := three_set HQ2.out (.int .u64 g') (.int .i64 a') (.int .i64 z') 1
    have d2 := three_set HQ2.out (.int .u64 g') (.int .i64 a') (.int .i64 z') 2
    simp at d0 d1 d2
    simp [results, Tryd.f40, go_sem, d0, d1, d2]
  · refine ⟨rfl, ?_⟩
    exact ((HB.out.setCell (by simp; omega) _).setCell (by simp; omega) _).setCell (by simp; omega) _
theorem better_first (g a z : Int) (w : World) (hN : NoR w) (ha : 0 ≤ a) :
    Calls Tryd.prog 40 #[.agg #[.int .u64 g, .int .i64 a, .int .i64 z], .agg #[.int .u64 0, .int .i64 (-1), .int .i64 0]] w fun e w' => e = .returned (.agg #[.int .u64 g, .int .i64 a, .int .i64 z]) ∧ Below w.heap.size w w' := by
  obtain ⟨W, HW⟩ : ∃ W, Hid (W = ((w.alloc (.cells #[.int .u64 g, .int .i64 a, .int .i64 z] 24)).alloc (.cells #[.int .u64 0, .int .i64 (-1), .int .i64 0] 24)).alloc (.cells #[.int .u64 0, .int .i64 0, .int .i64 0] 24)) := ⟨_, rfl⟩
  have HB : Hid (Below w.heap.size w W) := by rw [Hid, HW.out]; exact (((Below.refl _ w).alloc (Nat.le_refl _) _).alloc (by simp) _).alloc (by simp; omega) _
  obtain ⟨n0, n1, n2⟩ := hN.below HB.out hN.lt
  obtain ⟨q0, q1, q2⟩ := three_new w (.cells #[.int .u64 g, .int .i64 a, .int .i64 z] 24) (.cells #[.int .u64 0, .int .i64 (-1), .int .i64 0] 24) (.cells #[.int .u64 0, .int .i64 0, .int .i64 0] 24)
  rw [← HW.out] at q0 q1 q2
  obtain ⟨a0, a1, a2, _, _, _⟩ := three_cells q0
  obtain ⟨b0, b1, b2, _, _, _⟩ := three_cells q1
  obtain ⟨d0, d1, d2, f0, f1, f2⟩ := three_cells q2
  have HQ2 : Hid _ := q2
  clear q0 q1 q2 hN
  have hn : (a == -1) = false := by simp; omega
  have hn2 : ¬ a = -1 := by omega
  go_enter Tryd.func40, Tryd.ntmps40
  go_upto_region 1 with fail
  rw [← HW.out]
  go_wp2
  refine bodyPost_ret (v := .agg #[.int .u64 g, .int .i64 a, .int .i64 z]) ?_ rfl ?_
  · have d0 := three_set HQ2.out (.int .u64 g) (.int .i64 a) (.int .i64 z) 0
    have d1 := three_set HQ2.out (.int .u64 g) (.int .i64 a) (.int .i64 z) 1
    have d2 := three_set HQ2.out (.int .u64 g) (.int .i64 a) (.int .i64 z) 2
    simp at d0 d1 d2
    simp [results, Tryd.f40, go_sem, d0, d1, d2]
  · refine ⟨rfl, ?_⟩
    exact ((HB.out.setCell (by simp; omega) _).setCell (by simp; omega) _).setCell (by simp; omega) _
theorem better_second (g a z g' a' z' : Int) (w : World) (hN : NoR w) (ha : 0 ≤ a) (ha' : 0 ≤ a') (hg : g < g') :
    Calls Tryd.prog 40 #[.agg #[.int .u64 g, .int .i64 a, .int .i64 z], .agg #[.int .u64 g', .int .i64 a', .int .i64 z']] w fun e w' => e = .returned (.agg #[.int .u64 g', .int .i64 a', .int .i64 z']) ∧ Below w.heap.size w w' := by
  obtain ⟨W, HW⟩ : ∃ W, Hid (W = ((w.alloc (.cells #[.int .u64 g, .int .i64 a, .int .i64 z] 24)).alloc (.cells #[.int .u64 g', .int .i64 a', .int .i64 z'] 24)).alloc (.cells #[.int .u64 0, .int .i64 0, .int .i64 0] 24)) := ⟨_, rfl⟩
  have HB : Hid (Below w.heap.size w W) := by rw [Hid, HW.out]; exact (((Below.refl _ w).alloc (Nat.le_refl _) _).alloc (by simp) _).alloc (by simp; omega) _
  obtain ⟨n0, n1, n2⟩ := hN.below HB.out hN.lt
  obtain ⟨q0, q1, q2⟩ := three_new w (.cells #[.int .u64 g, .int .i64 a, .int .i64 z] 24) (.cells #[.int .u64 g', .int .i64 a', .int .i64 z'] 24) (.cells #[.int .u64 0, .int .i64 0, .int .i64 0] 24)
  rw [← HW.out] at q0 q1 q2
  obtain ⟨a0, a1, a2, _, _, _⟩ := three_cells q0
  obtain ⟨b0, b1, b2, _, _, _⟩ := three_cells q1
  obtain ⟨d0, d1, d2, f0, f1, f2⟩ := three_cells q2
  have HQ2 : Hid _ := q2
  clear q0 q1 q2 hN
  have hn : (a == -1) = false := by simp; omega
  have hn2 : ¬ a = -1 := by omega
  have hm : (a' == -1) = false := by simp; omega
  have hm2 : ¬ a' = -1 := by omega
  go_enter Tryd.func40, Tryd.ntmps40
  go_upto_region 1 with fail
  rw [← HW.out]
  go_wp2
  refine bodyPost_ret (v := .agg #[.int .u64 g', .int .i64 a', .int .i64 z']) ?_ rfl ?_
  · have d0 := three_set HQ2.out (.int .u64 g') (.int .i64 a') (.int .i64 z') 0
    have d1 := three_set HQ2.out (.int .u64 g') (.int .i64 a') (.int .i64 z') 1
    have d2 := three_set HQ2.out (.int .u64 g') (.int .i64 a') (.int .i64 z') 2
    simp at d0 d1 d2
    simp [results, Tryd.f40, go_sem, d0, d1, d2]
  · refine ⟨rfl, ?_⟩
    exact ((HB.out.setCell (by simp; omega) _).setCell (by simp; omega) _).setCell (by simp; omega) _
theorem better_stays (g a z g' a' z' : Int) (w : World) (hN : NoR w) (ha : 0 ≤ a) (ha' : 0 ≤ a') (hg : ¬ g < g') :
    Calls Tryd.prog 40 #[.agg #[.int .u64 g, .int .i64 a, .int .i64 z], .agg #[.int .u64 g', .int .i64 a', .int .i64 z']] w fun e w' => e = .returned (.agg #[.int .u64 g, .int .i64 a, .int .i64 z]) ∧ Below w.heap.size w w' := by
  obtain ⟨W, HW⟩ : ∃ W, Hid (W = ((w.alloc (.cells #[.int .u64 g, .int .i64 a, .int .i64 z] 24)).alloc (.cells #[.int .u64 g', .int .i64 a', .int .i64 z'] 24)).alloc (.cells #[.int .u64 0, .int .i64 0, .int .i64 0] 24)) := ⟨_, rfl⟩
  have HB : Hid (Below w.heap.size w W) := by rw [Hid, HW.out]; exact (((Below.refl _ w).alloc (Nat.le_refl _) _).alloc (by simp) _).alloc (by simp; omega) _
  obtain ⟨n0, n1, n2⟩ := hN.below HB.out hN.lt
  obtain ⟨q0, q1, q2⟩ := three_new w (.cells #[.int .u64 g, .int .i64 a, .int .i64 z] 24) (.cells #[.int .u64 g', .int .i64 a', .int .i64 z'] 24) (.cells #[.int .u64 0, .int .i64 0, .int .i64 0] 24)
  rw [← HW.out] at q0 q1 q2
  obtain ⟨a0, a1, a2, _, _, _⟩ := three_cells q0
  obtain ⟨b0, b1, b2, _, _, _⟩ := three_cells q1
  obtain ⟨d0, d1, d2, f0, f1, f2⟩ := three_cells q2
  have HQ2 : Hid _ := q2
  clear q0 q1 q2 hN
  have hn : (a == -1) = false := by simp; omega
  have hn2 : ¬ a = -1 := by omega
  have hm : (a' == -1) = false := by simp; omega
  have hm2 : ¬ a' = -1 := by omega
  go_enter Tryd.func40, Tryd.ntmps40
  go_upto_region 1 with fail
  rw [← HW.out]
  go_wp2
  refine bodyPost_ret (v := .agg #[.int .u64 g, .int .i64 a, .int .i64 z]) ?_ rfl ?_
  · have d0 := three_set HQ2.out (.int .u64 g) (.int .i64 a) (.int .i64 z) 0
    have d1 := three_set HQ2.out (.int .u64 g) (.int .i64 a) (.int .i64 z) 1
    have d2 := three_set HQ2.out (.int .u64 g) (.int .i64 a) (.int .i64 z) 2
    simp at d0 d1 d2
    simp [results, Tryd.f40, go_sem, d0, d1, d2]
  · refine ⟨rfl, ?_⟩
    exact ((HB.out.setCell (by simp; omega) _).setCell (by simp; omega) _).setCell (by simp; omega) _
end Go.Proofs.YtkiccnedmejnaaaDoor

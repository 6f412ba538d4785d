/-
  The walk of ownRoot. Conditions: noRoot stands, Load tells what it tells.
-/
import Derived.Test.YtkiccnedmejnaaaDoorBetter
namespace Go.Proofs.YtkiccnedmejnaaaDoor
open Go.RowKit
set_option linter.unusedVariables false
set_option maxRecDepth 100000

set_option maxHeartbeats 2000000 in
theorem ownRoot_go (ao : Option Addr) (n cap : Nat) (k g a z e : Int) (w : World) (R : Value) (hyes : e = 0 ∧ g % 2 = k → R = .agg #[.int .u64 g, .int .i64 a, .int .i64 z]) (hno : ¬ (e = 0 ∧ g % 2 = k) → R = .agg #[.int .u64 0, .int .i64 (-1), .int .i64 0]) (hN : NoR w) (h0 : 0 ≤ g) (h1 : g < 18446744073709551616)
    (hL : ∀ w1, Below w.heap.size w w1 → Calls Tryd.prog 13 #[.slice ao n cap] w1 fun e' w' => e' = .returned (.tuple #[.agg #[.int .u64 g, .int .i64 a, .int .i64 z], .int .i64 e]) ∧ Below w1.heap.size w1 w') :
    Calls Tryd.prog 57 #[.int .i64 k, .slice ao n cap] w fun e' w' => e' = .returned R ∧ Below w.heap.size w w' := by
  have HYES : Hid _ := hyes
  have HNO : Hid _ := hno
  clear hyes hno
  have HL : Hid _ := hL
  have HN : Hid (NoR w) := hN
  obtain ⟨W, HW⟩ : ∃ W, Hid (W = w.alloc (.cells #[.int .u64 0, .int .i64 0, .int .i64 0] 24)) := ⟨_, rfl⟩
  have HB0 : Hid (Below w.heap.size w W) := by rw [Hid, HW.out]; exact (Below.refl _ w).alloc (Nat.le_refl _) _
  have HC0 : Hid (W.heap[w.heap.size]? = some (.cells #[.int .u64 0, .int .i64 0, .int .i64 0] 24 (0, 0))) := by rw [Hid, HW.out]; exact heap_alloc_new w _
  clear hL hN
  go_enter Tryd.func57, Tryd.ntmps57
  go_wp2_with fail
  rw [← HW.out]
  refine (HL.out _ HB0.out).mono ?_
  rintro e' w2 ⟨rfl, hb2⟩
  obtain ⟨W3, HW3⟩ : ∃ W3, Hid (W3 = w2.alloc (.cells #[.int .u64 g, .int .i64 a, .int .i64 z] 24)) := ⟨_, rfl⟩
  have HB3 : Hid (Below W.heap.size W W3) := by rw [Hid, HW3.out]; exact hb2.alloc hb2.size _
  have HC3 : Hid (W3.heap[w2.heap.size]? = some (.cells #[.int .u64 g, .int .i64 a, .int .i64 z] 24 (0, 0))) := by rw [Hid, HW3.out]; exact heap_alloc_new w2 _
  have HCR : Hid (∀ w4, Below W3.heap.size W3 w4 → w4.heap[w.heap.size]? = some (.cells #[.int .u64 0, .int .i64 0, .int .i64 0] 24 (0, 0)) ∧ w4.heap[w2.heap.size]? = some (.cells #[.int .u64 g, .int .i64 a, .int .i64 z] 24 (0, 0)) ∧ NoR w4 ∧ Below w.heap.size w w4) := fun w4 hb4 =>
    have hb04 : Below W.heap.size W w4 := HB3.out.trans (hb4.mono HB3.out.size)
    have hbw : Below w.heap.size w w4 := HB0.out.trans (hb04.mono HB0.out.size)
    ⟨(hb04.block _ (Array.getElem?_eq_some_iff.1 HC0.out).1).trans HC0.out, (hb4.block _ (Array.getElem?_eq_some_iff.1 HC3.out).1).trans HC3.out, HN.out.below hbw HN.out.lt, hbw⟩
  clear hb2
  go_upto_region 2 with fail
  rw [← HW3.out]
  obtain ⟨p1, p2, p3, p4⟩ := HCR.out _ (Below.refl _ _)
  obtain ⟨g0, g1, g2, _, _, _⟩ := three_cells p2
  obtain ⟨c0, c1, c2, f0, f1, f2⟩ := three_cells p1
  obtain ⟨n0, n1, n2⟩ := p3
  by_cases he : e = 0
  · subst he
    clear n0 n1 n2 c0 c1 c2 f0 f1 f2 p1 p2 p4
    go_wp2_with fail
    refine (slotOf_any g a z _ h0 h1).mono ?_
    rintro e' w5 ⟨rfl, hb5⟩
    obtain ⟨p1, p2, p3, p4⟩ := HCR.out _ hb5
    clear g0 g1 g2 hb5
    obtain ⟨g0, g1, g2, _, _, _⟩ := three_cells p2
    obtain ⟨c0, c1, c2, f0, f1, f2⟩ := three_cells p1
    obtain ⟨n0, n1, n2⟩ := p3
    have HQ : Hid _ := p1
    have HBQ : Hid (Below w.heap.size w w5) := p4
    clear p1 p2 p4
    obtain ⟨m, HM⟩ : ∃ m, Hid (g % 2 = m) := ⟨_, rfl⟩
    rw [HM.out]
    by_cases hk : m = k
    · subst hk
      go_wp2_with fail
      refine bodyPost_ret (v := .agg #[.int .u64 g, .int .i64 a, .int .i64 z]) ?_ rfl ?_
      · have d0 := three_set HQ.out (.int .u64 g) (.int .i64 a) (.int .i64 z) 0
        have d1 := three_set HQ.out (.int .u64 g) (.int .i64 a) (.int .i64 z) 1
        have d2 := three_set HQ.out (.int .u64 g) (.int .i64 a) (.int .i64 z) 2
        simp at d0 d1 d2
        simp [results, Tryd.f57, go_sem, d0, d1, d2]
      · refine ⟨by rw [HYES.out (by first | exact ⟨rfl, HM.out⟩ | exact ⟨trivial, HM.out⟩ | exact HM.out)], ?_⟩
        exact ((HBQ.out.setCell (p := ⟨w.heap.size, 0, none⟩) (Nat.le_refl _) _).setCell (p := ⟨w.heap.size, 1, none⟩) (Nat.le_refl _) _).setCell (p := ⟨w.heap.size, 2, none⟩) (Nat.le_refl _) _
    · have hk2 : (m == k) = false := by simpa using hk
      have hk3 : (m != k) = true := by simpa using hk
      go_wp2_with fail
      refine bodyPost_ret (v := .agg #[.int .u64 0, .int .i64 (-1), .int .i64 0]) ?_ rfl ?_
      · have d0 := three_set HQ.out (.int .u64 0) (.int .i64 (-1)) (.int .i64 0) 0
        have d1 := three_set HQ.out (.int .u64 0) (.int .i64 (-1)) (.int .i64 0) 1
        have d2 := three_set HQ.out (.int .u64 0) (.int .i64 (-1)) (.int .i64 0) 2
        simp at d0 d1 d2
        simp [results, Tryd.f57, go_sem, d0, d1, d2]
      · refine ⟨by rw [HNO.out (by first | exact (fun h => hk (HM.out.symm.trans h.2)) | exact (fun h => hk (HM.out.symm.trans h)) | exact (fun _ h => hk (HM.out.symm.trans h)))], ?_⟩
        exact ((HBQ.out.setCell (p := ⟨w.heap.size, 0, none⟩) (Nat.le_refl _) _).setCell (p := ⟨w.heap.size, 1, none⟩) (Nat.le_refl _) _).setCell (p := ⟨w.heap.size, 2, none⟩) (Nat.le_refl _) _
  · have he2 : (e != 0) = true := by simpa using he
    have HQ : Hid _ := p1
    have HBQ : Hid (Below w.heap.size w W3) := p4
    clear p1 p2 p4
    go_wp2_with fail
    refine bodyPost_ret (v := .agg #[.int .u64 0, .int .i64 (-1), .int .i64 0]) ?_ rfl ?_
    · have d0 := three_set HQ.out (.int .u64 0) (.int .i64 (-1)) (.int .i64 0) 0
      have d1 := three_set HQ.out (.int .u64 0) (.int .i64 (-1)) (.int .i64 0) 1
      have d2 := three_set HQ.out (.int .u64 0) (.int .i64 (-1)) (.int .i64 0) 2
      simp at d0 d1 d2
      simp [results, Tryd.f57, go_sem, d0, d1, d2]
    · refine ⟨by rw [HNO.out (by first | exact (fun h => he h.1) | simp [he])], ?_⟩
      exact ((HBQ.out.setCell (p := ⟨w.heap.size, 0, none⟩) (Nat.le_refl _) _).setCell (p := ⟨w.heap.size, 1, none⟩) (Nat.le_refl _) _).setCell (p := ⟨w.heap.size, 2, none⟩) (Nat.le_refl _) _
end Go.Proofs.YtkiccnedmejnaaaDoor

/-
  The walk of Best. Conditions: the two listed variables stand; the file's bytes are bytes.
-/
import Derived.Test.YtkiccnedmejnaaaDoorStandWalk
namespace Go.Proofs.YtkiccnedmejnaaaDoor
open Go.RowKit
set_option linter.unusedVariables false
set_option maxRecDepth 100000

def okO (o : Option Rt) : Prop := ∀ r, o = some r → 0 ≤ r.2.1
def bestO : Option Rt → Option Rt → Option Rt
  | none, b => b
  | some a, none => some a
  | some a, some b => if a.1 < b.1 then some b else some a
theorem bestO_ok {a b : Option Rt} (ha : okO a) (hb : okO b) : okO (bestO a b) := by
  cases a with
  | none => exact hb
  | some a =>
    cases b with
    | none => exact ha
    | some b =>
      intro r hr
      simp only [bestO] at hr
      split at hr
      · exact hb r hr
      · exact ha r hr
theorem better_any (o o' : Option Rt) (w : World) (hN : NoR w) (h : okO o) (h' : okO o') :
    Calls Tryd.prog 40 #[nrV o, nrV o'] w fun e w' => e = .returned (nrV (bestO o o')) ∧ Below w.heap.size w w' := by
  cases o with
  | none => exact better_none (ng o') (na o') (nz o') w hN
  | some a =>
    cases o' with
    | none => exact better_first a.1 a.2.1 a.2.2 w hN (h a rfl)
    | some b =>
      by_cases hg : a.1 < b.1
      · have := better_second a.1 a.2.1 a.2.2 b.1 b.2.1 b.2.2 w hN (h a rfl) (h' b rfl) hg
        simpa [nrV, ng, na, nz, bestO, hg] using this
      · have := better_stays a.1 a.2.1 a.2.2 b.1 b.2.1 b.2.2 w hN (h a rfl) (h' b rfl) hg
        simpa [nrV, ng, na, nz, bestO, hg] using this
def nr3 (o : Option Rt) : Array Value := #[.int .u64 (ng o), .int .i64 (na o), .int .i64 (nz o)]
def bk (o0 o1 : Option Rt) (k : Nat) : Option Rt := if k = 0 then none else if k = 1 then o0 else bestO o0 o1
def elk (o0 o1 : Option Rt) (k : Nat) : Option Rt := if k = 0 then o0 else o1
theorem bk_next (o0 o1 : Option Rt) (k : Nat) (h : k < 2) : bestO (bk o0 o1 k) (elk o0 o1 k) = bk o0 o1 (k + 1) := by
  rcases (show k = 0 ∨ k = 1 by omega) with rfl | rfl <;> rfl
theorem bk_ok {o0 o1 : Option Rt} (h0 : okO o0) (h1 : okO o1) (k : Nat) : okO (bk o0 o1 k) := by
  unfold bk
  split
  · intro r h; cases h
  · split
    · exact h0
    · exact bestO_ok h0 h1
theorem elk_ok {o0 o1 : Option Rt} (h0 : okO o0) (h1 : okO o1) (k : Nat) : okO (elk o0 o1 k) := by
  unfold elk; split; exact h0; exact h1
/-- What Best tells of the root that stands. -/
def rtZ : Option Rt → Value
  | none => .agg #[.int .u64 0, .int .i64 0, .int .i64 0]
  | some r => .agg #[.int .u64 r.1, .int .i64 r.2.1, .int .i64 r.2.2]

theorem index_fst (a b c d e f : Value) (w : World) : Sem.run Tryd.prog (Instr.index 82 (.agg #[a, b, c, d, e, f]) (.int .i64 0)) w = .ok (.agg #[a, b, c]) w := by
  simp [Instr.index, run_underlying Tryd.underlying82, asIntOf, go_sem]
theorem index_snd (a b c d e f : Value) (w : World) : Sem.run Tryd.prog (Instr.index 82 (.agg #[a, b, c, d, e, f]) (.int .i64 1)) w = .ok (.agg #[d, e, f]) w := by
  simp [Instr.index, run_underlying Tryd.underlying82, asIntOf, go_sem]

set_option maxHeartbeats 4000000 in
theorem best_go (v : Value) (o0 o1 : Option Rt) (w : World) (hN : NoR w) (h0 : okO o0) (h1 : okO o1)
    (hS : ∀ w1, Below w.heap.size w w1 → Calls Tryd.prog 39 #[v] w1 fun e w' => e = .returned (.tuple #[.agg (six o0 o1), .int .i64 0]) ∧ Below w1.heap.size w1 w') :
    Calls Tryd.prog 16 #[v] w fun e w' => e = .returned (.tuple #[rtZ (bestO o0 o1), .bool (bestO o0 o1).isSome, .int .i64 0]) ∧ Below w.heap.size w w' := by
  have HS : Hid _ := hS
  have HN : Hid (NoR w) := hN
  have H0 : Hid (okO o0) := h0
  have H1 : Hid (okO o1) := h1
  obtain ⟨W1, HW1⟩ : ∃ W1, Hid (W1 = w.alloc (.cells #[.int .u64 0, .int .i64 0, .int .i64 0] 24)) := ⟨_, rfl⟩
  have HB1 : Hid (Below w.heap.size w W1) := by rw [Hid, HW1.out]; exact (Below.refl _ w).alloc (Nat.le_refl _) _
  have HC1 : Hid (W1.heap[w.heap.size]? = some (.cells #[.int .u64 0, .int .i64 0, .int .i64 0] 24 (0, 0))) := by rw [Hid, HW1.out]; exact heap_alloc_new w _
  clear hS hN h0 h1
  go_enter Tryd.func16, Tryd.ntmps16
  go_wp2_with fail
  rw [← HW1.out]
  refine (HS.out _ HB1.out).mono ?_
  rintro e w2 ⟨rfl, hb2⟩
  unfold six
  obtain ⟨G0, HG0⟩ : ∃ x, Hid (ng o0 = x) := ⟨_, rfl⟩
  obtain ⟨A0, HA0⟩ : ∃ x, Hid (na o0 = x) := ⟨_, rfl⟩
  obtain ⟨Z0, HZ0⟩ : ∃ x, Hid (nz o0 = x) := ⟨_, rfl⟩
  obtain ⟨G1, HG1⟩ : ∃ x, Hid (ng o1 = x) := ⟨_, rfl⟩
  obtain ⟨A1, HA1⟩ : ∃ x, Hid (na o1 = x) := ⟨_, rfl⟩
  obtain ⟨Z1, HZ1⟩ : ∃ x, Hid (nz o1 = x) := ⟨_, rfl⟩
  rw [HG0.out, HA0.out, HZ0.out, HG1.out, HA1.out, HZ1.out]
  obtain ⟨W2, HW2⟩ : ∃ W2, Hid (W2 = w2.alloc (.cells #[.int .u64 G0, .int .i64 A0, .int .i64 Z0, .int .u64 G1, .int .i64 A1, .int .i64 Z1] 82)) := ⟨_, rfl⟩
  have HB2 : Hid (Below W1.heap.size W1 W2) := by rw [Hid, HW2.out]; exact hb2.alloc hb2.size _
  have HC2 : Hid (W2.heap[w2.heap.size]? = some (.cells #[.int .u64 G0, .int .i64 A0, .int .i64 Z0, .int .u64 G1, .int .i64 A1, .int .i64 Z1] 82 (0, 0))) := by rw [Hid, HW2.out]; exact heap_alloc_new _ _
  have HBW2 : Hid (Below w.heap.size w W2) := HB1.out.trans (HB2.out.mono HB1.out.size)
  clear hb2
  go_upto_region 4 with fail
  rw [← HW2.out]
  obtain ⟨W3, HW3⟩ : ∃ W3, Hid (W3 = W2.alloc (.cells #[.int .u64 0, .int .i64 (-1), .int .i64 0] 24)) := ⟨_, rfl⟩
  have HB3 : Hid (Below W2.heap.size W2 W3) := by rw [Hid, HW3.out]; exact (Below.refl _ _).alloc (Nat.le_refl _) _
  have HC3 : Hid (W3.heap[W2.heap.size]? = some (.cells #[.int .u64 0, .int .i64 (-1), .int .i64 0] 24 (0, 0))) := by rw [Hid, HW3.out]; exact heap_alloc_new _ _
  have HBW3 : Hid (Below w.heap.size w W3) := HBW2.out.trans (HB3.out.mono HBW2.out.size)
  obtain ⟨n0, n1, n2⟩ := HN.out.below HBW2.out HN.out.lt
  go_upto_region 5 with fail
  rw [← HW3.out]
  have HC23 : Hid _ := (HB3.out.block _ (Array.getElem?_eq_some_iff.1 HC2.out).1).trans HC2.out
  obtain ⟨⟨q0, q1, q2, q3, q4, q5⟩, _⟩ := six_cells HC23.out
  have HL2 : Hid (w.heap.size < W2.heap.size ∧ w.heap.size ≤ W2.heap.size) := by have h1 := (Array.getElem?_eq_some_iff.1 HC1.out).1; have h2 := HB2.out.size; exact ⟨by omega, by omega⟩
  have HZ1' : Hid (W3.heap[w.heap.size]? = some (.cells #[.int .u64 0, .int .i64 0, .int .i64 0] 24 (0, 0))) := (HB3.out.block _ HL2.out.1).trans ((HB2.out.block _ (Array.getElem?_eq_some_iff.1 HC1.out).1).trans HC1.out)
  clear n0 n1 n2
  go_wp2_with fail
  clear q0 q1 q2 q3 q4 q5
  go_loopw [21] (fun i wr => ∃ k : Nat, k ≤ 2 ∧ i = .int .i64 (k : Int) ∧ Hid (wr.heap[W2.heap.size]? = some (.cells (nr3 (bk o0 o1 k)) 24 (0, 0))) ∧ Hid (wr.heap[w.heap.size]? = some (.cells #[.int .u64 0, .int .i64 0, .int .i64 0] 24 (0, 0))) ∧ Hid (Below w.heap.size w wr)) (fun i _ => 2 - (intOf i).toNat)
  case atStart => exact ⟨0, by omega, rfl, HC3.out, HZ1'.out, HBW3.out⟩
  case round =>
    obtain ⟨k, hk, rfl, HK1, HK0, HB⟩ := hrel
    by_cases hlt : k < 2
    · obtain ⟨EG, EA, EZ, HEL⟩ : ∃ EG EA EZ, Hid (ng (elk o0 o1 k) = EG ∧ na (elk o0 o1 k) = EA ∧ nz (elk o0 o1 k) = EZ) := ⟨_, _, _, rfl, rfl, rfl⟩
      obtain ⟨OG, OA, OZ, HOL⟩ : ∃ EG EA EZ, Hid (ng (bk o0 o1 k) = EG ∧ na (bk o0 o1 k) = EA ∧ nz (bk o0 o1 k) = EZ) := ⟨_, _, _, rfl, rfl, rfl⟩
      obtain ⟨NG, NA, NZ, HNL⟩ : ∃ EG EA EZ, Hid (ng (bk o0 o1 (k + 1)) = EG ∧ na (bk o0 o1 (k + 1)) = EA ∧ nz (bk o0 o1 (k + 1)) = EZ) := ⟨_, _, _, rfl, rfl, rfl⟩
      unfold nr3 at HK1
      rw [HOL.out.1, HOL.out.2.1, HOL.out.2.2] at HK1
      obtain ⟨W4, HW4⟩ : ∃ W4, Hid (W4 = wr.alloc (.cells #[.int .u64 EG, .int .i64 EA, .int .i64 EZ] 24)) := ⟨_, rfl⟩
      have HB4 : Hid (Below wr.heap.size wr W4) := by rw [Hid, HW4.out]; exact (Below.refl _ _).alloc (Nat.le_refl _) _
      have HC4 : Hid (W4.heap[wr.heap.size]? = some (.cells #[.int .u64 EG, .int .i64 EA, .int .i64 EZ] 24 (0, 0))) := by rw [Hid, HW4.out]; exact heap_alloc_new _ _
      have HKL : Hid (W2.heap.size < wr.heap.size) := (Array.getElem?_eq_some_iff.1 HK1.out).1
      have HK4 : Hid _ := (HB4.out.block _ HKL.out).trans HK1.out
      obtain ⟨c0, c1, c2, _, _, _⟩ := three_cells HK4.out
      obtain ⟨d0, d1, d2, _, _, _⟩ := three_cells HC4.out
      have HNR : Hid (NoR wr) := HN.out.below HB.out HN.out.lt
      have HBT : Hid _ := better_any (bk o0 o1 k) (elk o0 o1 k) W4 (HNR.out.below HB4.out HNR.out.lt) (bk_ok H0.out H1.out k) (elk_ok H0.out H1.out k)
      rw [bk_next o0 o1 k hlt] at HBT
      unfold nrV at HBT
      rw [HOL.out.1, HOL.out.2.1, HOL.out.2.2, HEL.out.1, HEL.out.2.1, HEL.out.2.2, HNL.out.1, HNL.out.2.1, HNL.out.2.2] at HBT
      have HNX : Hid (nr3 (bk o0 o1 (k + 1)) = #[.int .u64 NG, .int .i64 NA, .int .i64 NZ]) := by unfold Hid nr3; rw [HNL.out.1, HNL.out.2.1, HNL.out.2.2]
      have HIX : Hid ((k = 0 ∧ EG = G0 ∧ EA = A0 ∧ EZ = Z0) ∨ (k = 1 ∧ EG = G1 ∧ EA = A1 ∧ EZ = Z1)) := by
        have h1 := HEL.out
        rcases (show k = 0 ∨ k = 1 by omega) with rfl | rfl
        · exact .inl ⟨rfl, h1.1.symm.trans HG0.out, h1.2.1.symm.trans HA0.out, h1.2.2.symm.trans HZ0.out⟩
        · exact .inr ⟨rfl, h1.1.symm.trans HG1.out, h1.2.1.symm.trans HA1.out, h1.2.2.symm.trans HZ1.out⟩
      have hix0 := index_fst (.int .u64 G0) (.int .i64 A0) (.int .i64 Z0) (.int .u64 G1) (.int .i64 A1) (.int .i64 Z1)
      have hix1 := index_snd (.int .u64 G0) (.int .i64 A0) (.int .i64 Z0) (.int .u64 G1) (.int .i64 A1) (.int .i64 Z1)
      rcases HIX.out with ⟨rfl, rfl, rfl, rfl⟩ | ⟨rfl, rfl, rfl, rfl⟩
      · go_upto_region 8 with fail
        rw [← HW4.out]
        go_wp2_with fail
        refine Calls.mono HBT.out ?_
        rintro e w5 ⟨rfl, hb5⟩
        have HK5 : Hid _ := (hb5.block _ (Array.getElem?_eq_some_iff.1 HK4.out).1).trans HK4.out
        have HB5 : Hid (Below wr.heap.size wr w5) := HB4.out.trans (hb5.mono HB4.out.size)
        have HBW5 : Hid (Below w.heap.size w w5) := HB.out.trans (HB5.out.mono HB.out.size)
        have HZ5 : Hid _ := (HB5.out.block _ (Array.getElem?_eq_some_iff.1 HK0.out).1).trans HK0.out
        clear hb5 c0 c1 c2 d0 d1 d2
        obtain ⟨c0, c1, c2, f0, f1, f2⟩ := three_cells HK5.out
        go_wp2_with fail
        go_roundw
        case rel =>
          refine ⟨1, by omega, by simp, ?_, ?_, ?_⟩
          · unfold Hid
            rw [show nr3 (bk o0 o1 1) = #[.int .u64 NG, .int .i64 NA, .int .i64 NZ] from HNX.out]
            exact heap_set3 w5 W2.heap.size 0 1 2 _ _ _ _ _ HK5.out
          · unfold Hid
            have hne := HL2.out.1
            rw [Below.heap_setCell _ _ _ _ (by simp; omega), Below.heap_setCell _ _ _ _ (by simp; omega), Below.heap_setCell _ _ _ _ (by simp; omega)]
            exact HZ5.out
          · exact ((HBW5.out.setCell HL2.out.2 _).setCell HL2.out.2 _).setCell HL2.out.2 _
        case measure => simp [intOf]
      · go_upto_region 8 with fail
        rw [← HW4.out]
        go_wp2_with fail
        refine Calls.mono HBT.out ?_
        rintro e w5 ⟨rfl, hb5⟩
        have HK5 : Hid _ := (hb5.block _ (Array.getElem?_eq_some_iff.1 HK4.out).1).trans HK4.out
        have HB5 : Hid (Below wr.heap.size wr w5) := HB4.out.trans (hb5.mono HB4.out.size)
        have HBW5 : Hid (Below w.heap.size w w5) := HB.out.trans (HB5.out.mono HB.out.size)
        have HZ5 : Hid _ := (HB5.out.block _ (Array.getElem?_eq_some_iff.1 HK0.out).1).trans HK0.out
        clear hb5 c0 c1 c2 d0 d1 d2
        obtain ⟨c0, c1, c2, f0, f1, f2⟩ := three_cells HK5.out
        go_wp2_with fail
        go_roundw
        case rel =>
          refine ⟨2, by omega, by simp, ?_, ?_, ?_⟩
          · unfold Hid
            rw [show nr3 (bk o0 o1 2) = #[.int .u64 NG, .int .i64 NA, .int .i64 NZ] from HNX.out]
            exact heap_set3 w5 W2.heap.size 0 1 2 _ _ _ _ _ HK5.out
          · unfold Hid
            have hne := HL2.out.1
            rw [Below.heap_setCell _ _ _ _ (by simp; omega), Below.heap_setCell _ _ _ _ (by simp; omega), Below.heap_setCell _ _ _ _ (by simp; omega)]
            exact HZ5.out
          · exact ((HBW5.out.setCell HL2.out.2 _).setCell HL2.out.2 _).setCell HL2.out.2 _
        case measure => simp [intOf]
    · obtain rfl : k = 2 := by omega
      have HK2 : Hid (wr.heap[W2.heap.size]? = some (.cells (nr3 (bestO o0 o1)) 24 (0, 0))) := HK1.out
      have HOK : Hid (okO (bestO o0 o1)) := bestO_ok H0.out H1.out
      clear HK1
      obtain ⟨n0, n1, n2⟩ := HN.out.below HB.out HN.out.lt
      obtain ⟨z0, z1, z2, f0, f1, f2⟩ := three_cells HK0.out
      obtain ⟨O, HO⟩ : ∃ O, Hid (bestO o0 o1 = O) := ⟨_, rfl⟩
      rw [HO.out] at HK2 HOK
      cases O with
      | none =>
        obtain ⟨c0, c1, c2, _, _, _⟩ := three_cells (show wr.heap[W2.heap.size]? = some (.cells #[.int .u64 0, .int .i64 (-1), .int .i64 0] 24 (0, 0)) from HK2.out)
        go_wp2_with fail
        refine bodyPost_ret (v := .tuple #[.agg #[.int .u64 0, .int .i64 0, .int .i64 0], .bool false, .int .i64 0]) ?_ rfl ?_
        · have e0 := three_set HK0.out (.int .u64 0) (.int .i64 0) (.int .i64 0) 0
          have e1 := three_set HK0.out (.int .u64 0) (.int .i64 0) (.int .i64 0) 1
          have e2 := three_set HK0.out (.int .u64 0) (.int .i64 0) (.int .i64 0) 2
          simp at e0 e1 e2
          simp [results, Tryd.f16, go_sem, e0, e1, e2]
        · refine ⟨by rw [HO.out]; rfl, ?_⟩
          exact ((HB.out.setCell (Nat.le_refl _) _).setCell (Nat.le_refl _) _).setCell (Nat.le_refl _) _
      | some r =>
        obtain ⟨g, a, z⟩ := r
        have ha : 0 ≤ a := HOK.out _ rfl
        have hn : (a == -1) = false := by simp; omega
        have hn2 : ¬ a = -1 := by omega
        obtain ⟨c0, c1, c2, _, _, _⟩ := three_cells (show wr.heap[W2.heap.size]? = some (.cells #[.int .u64 g, .int .i64 a, .int .i64 z] 24 (0, 0)) from HK2.out)
        go_wp2_with fail
        refine bodyPost_ret (v := .tuple #[.agg #[.int .u64 g, .int .i64 a, .int .i64 z], .bool true, .int .i64 0]) ?_ rfl ?_
        · have e0 := three_set HK0.out (.int .u64 g) (.int .i64 a) (.int .i64 z) 0
          have e1 := three_set HK0.out (.int .u64 g) (.int .i64 a) (.int .i64 z) 1
          have e2 := three_set HK0.out (.int .u64 g) (.int .i64 a) (.int .i64 z) 2
          simp at e0 e1 e2
          simp [results, Tryd.f16, go_sem, e0, e1, e2]
        · refine ⟨by rw [HO.out]; rfl, ?_⟩
          exact ((HB.out.setCell (Nat.le_refl _) _).setCell (Nat.le_refl _) _).setCell (Nat.le_refl _) _
end Go.Proofs.YtkiccnedmejnaaaDoor

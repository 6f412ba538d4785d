/-
  The walk of standing. Conditions: the two listed variables stand; the file's bytes are bytes.
-/
import Derived.Test.YtkiccnedmejnaaaDoorStand
namespace Go.Proofs.YtkiccnedmejnaaaDoor
open Go.RowKit
set_option linter.unusedVariables false
set_option maxRecDepth 100000

def zero6 : Array Value := #[.int .u64 0, .int .i64 0, .int .i64 0, .int .u64 0, .int .i64 0, .int .i64 0]
def six1 (a : Option Rt) : Array Value := #[.int .u64 (ng a), .int .i64 (na a), .int .i64 (nz a), .int .u64 0, .int .i64 0, .int .i64 0]
def sixK (a b : Option Rt) (k : Nat) : Array Value := if k = 0 then zero6 else if k = 1 then six1 a else six a b
theorem blk_cell {w : World} {n : Nat} {cs : Array Value} {t : TypeId} (h : w.heap[n]? = some (.cells cs t (0, 0))) (i : Nat) : w.cell? ⟨n, i, none⟩ = cs[i]? := by simp [World.cell?, h]
theorem blk_free {w : World} {n : Nat} {cs : Array Value} {t : TypeId} (h : w.heap[n]? = some (.cells cs t (0, 0))) (i : Nat) : w.frozen? ⟨n, i, none⟩ = false := by simp [World.frozen?, h]

theorem sixK_size (a b : Option Rt) (k : Nat) : (sixK a b k).size = 6 := by unfold sixK; split; rfl; split <;> rfl
theorem sixK_next (bs : List Int) (k : Nat) (h : k < 2) : sixK (slotR bs 0) (slotR bs 1) (k + 1) = (((sixK (slotR bs 0) (slotR bs 1) k).set! (k * 3) (.int .u64 (ng (slotR bs k)))).set! (k * 3 + 1) (.int .i64 (na (slotR bs k)))).set! (k * 3 + 2) (.int .i64 (nz (slotR bs k))) := by
  rcases (show k = 0 ∨ k = 1 by omega) with rfl | rfl
  · rfl
  · rfl
theorem heap_set3 (w : World) (p i j l : Nat) (u v x : Value) (cs : Array Value) (t : TypeId) (h : w.heap[p]? = some (.cells cs t (0, 0))) :
    (((w.setCell ⟨p, i, none⟩ u).setCell ⟨p, j, none⟩ v).setCell ⟨p, l, none⟩ x).heap[p]? = some (.cells (((cs.set! i u).set! j v).set! l x) t (0, 0)) :=
  heap_setCell_same _ p l _ _ x (heap_setCell_twice w p i j u v cs t h)

theorem six_set {w : World} {n : Nat} {x0 x1 x2 x3 x4 x5 : Value} {t : TypeId} (h : w.heap[n]? = some (.cells #[x0, x1, x2, x3, x4, x5] t (0, 0))) (a b c d e f : Value) :
    ∀ i, ((((((w.setCell ⟨n, 0, none⟩ a).setCell ⟨n, 1, none⟩ b).setCell ⟨n, 2, none⟩ c).setCell ⟨n, 3, none⟩ d).setCell ⟨n, 4, none⟩ e).setCell ⟨n, 5, none⟩ f).cell? ⟨n, i, none⟩ = #[a, b, c, d, e, f][i]? := fun i => by
  have h3 := heap_set3 w n 0 1 2 a b c _ _ h
  have h6 := heap_set3 _ n 3 4 5 d e f _ _ h3
  simp only [World.cell?, h6]
  simp
theorem six_cells {w : World} {n : Nat} {x0 x1 x2 x3 x4 x5 : Value} {t : TypeId} (h : w.heap[n]? = some (.cells #[x0, x1, x2, x3, x4, x5] t (0, 0))) :
    (w.cell? ⟨n, 0, none⟩ = some x0 ∧ w.cell? ⟨n, 1, none⟩ = some x1 ∧ w.cell? ⟨n, 2, none⟩ = some x2 ∧ w.cell? ⟨n, 3, none⟩ = some x3 ∧ w.cell? ⟨n, 4, none⟩ = some x4 ∧ w.cell? ⟨n, 5, none⟩ = some x5) ∧
    (w.frozen? ⟨n, 0, none⟩ = false ∧ w.frozen? ⟨n, 1, none⟩ = false ∧ w.frozen? ⟨n, 2, none⟩ = false ∧ w.frozen? ⟨n, 3, none⟩ = false ∧ w.frozen? ⟨n, 4, none⟩ = false ∧ w.frozen? ⟨n, 5, none⟩ = false) := by
  simp [World.cell?, World.frozen?, h]

set_option maxHeartbeats 4000000 in
theorem standing_on {w : World} {B p : Nat} {F : Mdl} {vb vr : Value} {rv : List RawV} (h : PF w B p F vb vr rv) (ho : F.off = false) (hS : Sl w) (hby : Byt F.bs) :
    Calls Tryd.prog 39 #[.pointer (some ⟨p, 0, none⟩)] w fun e w' => e = .returned (.tuple #[.agg (six (slotR F.bs 0) (slotR F.bs 1)), .int .i64 0]) ∧ Below w.heap.size w w' := by
  have HP : Hid (PF w B p F vb vr rv) := h
  have HS : Hid (Sl w) := hS
  have HBY : Hid (Byt F.bs) := hby
  have HOF : Hid (F.off = false) := ho
  obtain ⟨W, HW⟩ : ∃ W, Hid (W = (w.alloc (.cells zero6 82)).alloc (.cells zero6 82)) := ⟨_, rfl⟩
  have HB0 : Hid (Below w.heap.size w W) := by rw [Hid, HW.out]; exact ((Below.refl _ w).alloc (Nat.le_refl _) _).alloc (by simp) _
  have HC1 : Hid (W.heap[w.heap.size + 1]? = some (.cells zero6 82 (0, 0))) := by
    rw [Hid, HW.out]
    have := heap_alloc_new (w.alloc (.cells zero6 82)) (.cells zero6 82)
    simpa using this
  have HC0 : Hid (W.heap[w.heap.size]? = some (.cells zero6 82 (0, 0))) := by
    rw [Hid, HW.out, Below.heap_alloc _ _ _ (by simp)]
    exact heap_alloc_new w _
  clear h hS hby ho
  go_enter Tryd.func39, Tryd.ntmps39
  go_upto_region 2 with fail
  rw [show ((w.alloc (.cells #[.int .u64 0, .int .i64 0, .int .i64 0, .int .u64 0, .int .i64 0, .int .i64 0] 82)).alloc (.cells #[.int .u64 0, .int .i64 0, .int .i64 0, .int .u64 0, .int .i64 0, .int .i64 0] 82)) = W from HW.out.symm]
  go_wp2_with fail
  go_loopw [8] (fun i wr => ∃ k : Nat, k ≤ 2 ∧ i = .int .i64 (k : Int) ∧ Hid (wr.heap[w.heap.size + 1]? = some (.cells (sixK (slotR F.bs 0) (slotR F.bs 1) k) 82 (0, 0))) ∧ Hid (wr.heap[w.heap.size]? = some (.cells zero6 82 (0, 0))) ∧ Hid (Below w.heap.size w wr)) (fun i _ => 2 - (intOf i).toNat)
  case atStart => exact ⟨0, by omega, rfl, HC1.out, HC0.out, HB0.out⟩
  case round =>
    obtain ⟨k, hk, rfl, HK1, HK0, HB⟩ := hrel
    by_cases hlt : k < 2
    · obtain ⟨er, her, hrd⟩ := read_slot (HP.out.below HB.out) HOF.out k (by omega)
      have HRD : Hid _ := hrd
      have HXB : Hid (Byt (slotX F.bs k)) := slotX_byt HBY.out k
      have HXL : Hid ((slotX F.bs k).length ≤ 32) := slotX_len _ _
      have HRK : Hid (ownR k (slotX F.bs k) = slotR F.bs k) := rfl
      have HSR : Hid (Sl wr) := HS.out.below HB.out
      obtain ⟨m, HM⟩ : ∃ m, Hid ((slotX F.bs k).length = m) := ⟨_, rfl⟩
      rw [HM.out] at HRD HXL
      clear hrd
      go_wp2_with fail
      refine Calls.mono HRD.out ?_
      rintro e w2 ⟨ao, cap, rfl, ho2, hb2⟩
      have HV2 : Hid (Own w2 wr.heap.size (.slice ao m cap) (slotX F.bs k)) := ho2
      have HB2 : Hid (Below wr.heap.size wr w2) := hb2
      clear ho2 hb2
      have HZ : Hid (w.heap.size + 1 < wr.heap.size) := (Array.getElem?_eq_some_iff.1 HK1.out).1
      rcases her with rfl | rfl
      all_goals
        go_wp2_with fail
        refine (ownRoot_any _ (slotX F.bs k) k _ HV2.out.bs (by rw [HM.out]; have := HXL.out; omega) HXB.out (HSR.out.below HB2.out)).mono ?_
        rintro e w3 ⟨rfl, hb3⟩
        have HB3 : Hid (Below wr.heap.size wr w3) := HB2.out.trans (hb3.mono HB2.out.size)
        have HBW3 : Hid (Below w.heap.size w w3) := HB.out.trans (HB3.out.mono HB.out.size)
        have HZ3 : Hid (w3.heap[w.heap.size + 1]? = some (.cells (sixK (slotR F.bs 0) (slotR F.bs 1) k) 82 (0, 0))) := (HB3.out.block _ HZ.out).trans HK1.out
        have HY3 : Hid (w3.heap[w.heap.size]? = some (.cells zero6 82 (0, 0))) := (HB3.out.block _ (by have := HZ.out; omega)).trans HK0.out
        rw [HRK.out]
        have HNX : Hid _ := sixK_next F.bs k hlt
        unfold nrV
        have c0 : ∃ v, w3.cell? ⟨w.heap.size + 1, k * 3, none⟩ = some v := ⟨_, (blk_cell HZ3.out _).trans (Array.getElem?_eq_getElem (by rw [sixK_size]; omega))⟩
        have c1 : ∃ v, w3.cell? ⟨w.heap.size + 1, k * 3 + 1, none⟩ = some v := ⟨_, (blk_cell HZ3.out _).trans (Array.getElem?_eq_getElem (by rw [sixK_size]; omega))⟩
        have c2 : ∃ v, w3.cell? ⟨w.heap.size + 1, k * 3 + 2, none⟩ = some v := ⟨_, (blk_cell HZ3.out _).trans (Array.getElem?_eq_getElem (by rw [sixK_size]; omega))⟩
        obtain ⟨v0, c0⟩ := c0
        obtain ⟨v1, c1⟩ := c1
        obtain ⟨v2, c2⟩ := c2
        have f0 := blk_free HZ3.out (k * 3)
        have f1 := blk_free HZ3.out (k * 3 + 1)
        have f2 := blk_free HZ3.out (k * 3 + 2)
        generalize ng (slotR F.bs k) = G at *
        generalize na (slotR F.bs k) = A at *
        generalize nz (slotR F.bs k) = Z at *
        clear hb3
        go_wp2_with fail
        go_roundw
        case rel =>
          refine ⟨k + 1, by omega, by simp, ?_, ?_, ?_⟩
          · unfold Hid
            rw [HNX.out]
            exact heap_set3 w3 (w.heap.size + 1) (k * 3) (k * 3 + 1) (k * 3 + 2) _ _ _ _ _ HZ3.out
          · unfold Hid
            rw [Below.heap_setCell _ _ _ _ (by simp), Below.heap_setCell _ _ _ _ (by simp), Below.heap_setCell _ _ _ _ (by simp)]
            exact HY3.out
          · exact ((HBW3.out.setCell (by simp) _).setCell (by simp) _).setCell (by simp) _
        case measure => simp [intOf]; omega
    · obtain rfl : k = 2 := by omega
      have HK2 : Hid (wr.heap[w.heap.size + 1]? = some (.cells (six (slotR F.bs 0) (slotR F.bs 1)) 82 (0, 0))) := HK1.out
      unfold six at HK2
      unfold zero6 at HK0
      obtain ⟨G, HG⟩ : ∃ x, Hid (ng (slotR F.bs 0) = x) := ⟨_, rfl⟩
      obtain ⟨A, HA⟩ : ∃ x, Hid (na (slotR F.bs 0) = x) := ⟨_, rfl⟩
      obtain ⟨Z, HZ⟩ : ∃ x, Hid (nz (slotR F.bs 0) = x) := ⟨_, rfl⟩
      obtain ⟨G1, HG1⟩ : ∃ x, Hid (ng (slotR F.bs 1) = x) := ⟨_, rfl⟩
      obtain ⟨A1, HA1⟩ : ∃ x, Hid (na (slotR F.bs 1) = x) := ⟨_, rfl⟩
      obtain ⟨Z1, HZ1⟩ : ∃ x, Hid (nz (slotR F.bs 1) = x) := ⟨_, rfl⟩
      rw [HG.out, HA.out, HZ.out, HG1.out, HA1.out, HZ1.out] at HK2
      obtain ⟨⟨c0, c1, c2, c3, c4, c5⟩, _⟩ := six_cells HK2.out
      obtain ⟨⟨d0, d1, d2, d3, d4, d5⟩, f0, f1, f2, f3, f4, f5⟩ := six_cells HK0.out
      go_wp2_with fail
      refine bodyPost_ret (v := .tuple #[.agg #[.int .u64 G, .int .i64 A, .int .i64 Z, .int .u64 G1, .int .i64 A1, .int .i64 Z1], .int .i64 0]) ?_ rfl ?_
      · have e0 := six_set HK0.out (.int .u64 G) (.int .i64 A) (.int .i64 Z) (.int .u64 G1) (.int .i64 A1) (.int .i64 Z1) 0
        have e1 := six_set HK0.out (.int .u64 G) (.int .i64 A) (.int .i64 Z) (.int .u64 G1) (.int .i64 A1) (.int .i64 Z1) 1
        have e2 := six_set HK0.out (.int .u64 G) (.int .i64 A) (.int .i64 Z) (.int .u64 G1) (.int .i64 A1) (.int .i64 Z1) 2
        have e3 := six_set HK0.out (.int .u64 G) (.int .i64 A) (.int .i64 Z) (.int .u64 G1) (.int .i64 A1) (.int .i64 Z1) 3
        have e4 := six_set HK0.out (.int .u64 G) (.int .i64 A) (.int .i64 Z) (.int .u64 G1) (.int .i64 A1) (.int .i64 Z1) 4
        have e5 := six_set HK0.out (.int .u64 G) (.int .i64 A) (.int .i64 Z) (.int .u64 G1) (.int .i64 A1) (.int .i64 Z1) 5
        simp at e0 e1 e2 e3 e4 e5
        simp [results, Tryd.f39, go_sem, e0, e1, e2, e3, e4, e5]
      · refine ⟨by unfold six; rw [HG.out, HA.out, HZ.out, HG1.out, HA1.out, HZ1.out], ?_⟩
        exact (((((HB.out.setCell (by simp) _).setCell (by simp) _).setCell (by simp) _).setCell (by simp) _).setCell (by simp) _).setCell (by simp) _

/-- A file that does not read: standing tells its error. -/
theorem standing_bad (v : Value) (er : Int) (w : World) (h0 : er ≠ 0) (h4 : er ≠ 4)
    (hR : ∀ w1, Below w.heap.size w w1 → Calls Tryd.prog 48 #[v, .int .i64 0, .int .i64 32] w1 fun e w' => ∃ ao n cap, e = .returned (.tuple #[.slice ao n cap, .int .i64 er]) ∧ Below w1.heap.size w1 w') :
    Calls Tryd.prog 39 #[v] w fun e w' => e = .returned (.tuple #[.agg zero6, .int .i64 er]) ∧ Below w.heap.size w w' := by
  have HR : Hid _ := hR
  obtain ⟨W, HW⟩ : ∃ W, Hid (W = (w.alloc (.cells zero6 82)).alloc (.cells zero6 82)) := ⟨_, rfl⟩
  have HB0 : Hid (Below w.heap.size w W) := by rw [Hid, HW.out]; exact ((Below.refl _ w).alloc (Nat.le_refl _) _).alloc (by simp) _
  have HC1 : Hid (W.heap[w.heap.size + 1]? = some (.cells zero6 82 (0, 0))) := by
    rw [Hid, HW.out]
    have := heap_alloc_new (w.alloc (.cells zero6 82)) (.cells zero6 82)
    simpa using this
  have HC0 : Hid (W.heap[w.heap.size]? = some (.cells zero6 82 (0, 0))) := by
    rw [Hid, HW.out, Below.heap_alloc _ _ _ (by simp)]
    exact heap_alloc_new w _
  have e0 : (er != 0) = true := by simpa using h0
  have e4 : (er != 4) = true := by simpa using h4
  clear hR
  go_enter Tryd.func39, Tryd.ntmps39
  go_upto_region 2 with fail
  rw [show ((w.alloc (.cells #[.int .u64 0, .int .i64 0, .int .i64 0, .int .u64 0, .int .i64 0, .int .i64 0] 82)).alloc (.cells #[.int .u64 0, .int .i64 0, .int .i64 0, .int .u64 0, .int .i64 0, .int .i64 0] 82)) = W from HW.out.symm]
  go_wp2_with fail
  refine wp_loop_rounds 1 ?_
  rw [rounds_succ]
  go_wp2_with fail
  refine (HR.out _ HB0.out).mono ?_
  rintro e w2 ⟨ao, n, cap, rfl, hb2⟩
  have HK1 : Hid (w2.heap[w.heap.size + 1]? = some (.cells zero6 82 (0, 0))) := (hb2.block _ (Array.getElem?_eq_some_iff.1 HC1.out).1).trans HC1.out
  have HK0 : Hid (w2.heap[w.heap.size]? = some (.cells zero6 82 (0, 0))) := (hb2.block _ (Array.getElem?_eq_some_iff.1 HC0.out).1).trans HC0.out
  have HB2 : Hid (Below w.heap.size w w2) := HB0.out.trans (hb2.mono HB0.out.size)
  clear hb2
  unfold zero6 at HK0 HK1
  obtain ⟨⟨c0, c1, c2, c3, c4, c5⟩, _⟩ := six_cells HK1.out
  obtain ⟨⟨d0, d1, d2, d3, d4, d5⟩, f0, f1, f2, f3, f4, f5⟩ := six_cells HK0.out
  go_wp2_with fail
  refine bodyPost_ret (v := .tuple #[.agg #[.int .u64 0, .int .i64 0, .int .i64 0, .int .u64 0, .int .i64 0, .int .i64 0], .int .i64 er]) ?_ rfl ?_
  · have e0 := six_set HK0.out (.int .u64 0) (.int .i64 0) (.int .i64 0) (.int .u64 0) (.int .i64 0) (.int .i64 0) 0
    have e1 := six_set HK0.out (.int .u64 0) (.int .i64 0) (.int .i64 0) (.int .u64 0) (.int .i64 0) (.int .i64 0) 1
    have e2 := six_set HK0.out (.int .u64 0) (.int .i64 0) (.int .i64 0) (.int .u64 0) (.int .i64 0) (.int .i64 0) 2
    have e3 := six_set HK0.out (.int .u64 0) (.int .i64 0) (.int .i64 0) (.int .u64 0) (.int .i64 0) (.int .i64 0) 3
    have e4 := six_set HK0.out (.int .u64 0) (.int .i64 0) (.int .i64 0) (.int .u64 0) (.int .i64 0) (.int .i64 0) 4
    have e5 := six_set HK0.out (.int .u64 0) (.int .i64 0) (.int .i64 0) (.int .u64 0) (.int .i64 0) (.int .i64 0) 5
    simp at e0 e1 e2 e3 e4 e5
    simp [results, Tryd.f39, go_sem, e0, e1, e2, e3, e4, e5]
  · refine ⟨rfl, ?_⟩
    exact (((((HB2.out.setCell (by simp) _).setCell (by simp) _).setCell (by simp) _).setCell (by simp) _).setCell (by simp) _).setCell (by simp) _
end Go.Proofs.YtkiccnedmejnaaaDoor

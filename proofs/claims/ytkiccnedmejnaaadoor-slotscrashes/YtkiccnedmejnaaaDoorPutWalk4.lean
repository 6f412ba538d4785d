/-
  The walk of standing. Conditions: the two listed variables stand; the file's bytes are bytes.
  The walk of Best. Conditions: the two listed variables stand; the file's bytes are bytes.
  The walk of Put. Conditions: the table of check stands; the numbers fit their kinds.
-/
import Derived.Test.YtkiccnedmejnaaaDoorStand
namespace Go.Proofs.YtkiccnedmejnaaaDoor
open Go.RowKit
set_option linter.unusedVariables false
set_option maxRecDepth 100000

def zero6 : Array Value := #[.int .u64 0, .int .i64 0, .int .i64 0, .int .u64 0, .int .i64 0, .int .i64 0]
def six1 (a : Option Rt) : Array Value := #[.int .u64 (ng a), .int .i64 (na a), .int .i64 (nz a), .int .u64 0, .int .i64 0, .int .i64 0]
def sixK (a b : Option Rt) (k : Nat) : Array Value := if k = 0 then zero6 else if k = 1 then six1 a else six a b
theorem blk_cell {w : World} {n : Nat} {cs : Array Value} {t : TypeId} (h : w.heap[n]? = some (.cells cs t (0, 0))) (i : Nat) : w.cell? ⟨n, i, none⟩ = cs[i]? := by simp [World.cell?, h]
theorem blk_free {w : World} {n : Nat} {cs : Array Value} {t : TypeId} (h : w.heap[n]? = some (.cells cs t (0, 0))) (i : Nat) : w.frozen? ⟨n, i, none⟩ = false := by simp [World.frozen?, h]

theorem sixK_size (a b : Option Rt) (k : Nat) : (sixK a b k).size = 6 := by unfold sixK; split; rfl; split <;> rfl
theorem sixK_next (bs : List Int) (k : Nat) (h : k < 2) : sixK (slotR bs 0) (slotR bs 1) (k + 1) = (((sixK (slotR bs 0) (slotR bs 1) k).set! (k * 3) (.int .u64 (ng (slotR bs k)))).set! (k * 3 + 1) (.int .i64 (na (slotR bs k)))).set! (k * 3 + 2) (.int .i64 (nz (slotR bs k))) := by
  rcases (show k = 0 ∨ k = 1 by omega) with rfl | rfl
  · rfl
  · rfl
theorem heap_set3 (w : World) (p i j l : Nat) (u v x : Value) (cs : Array Value) (t : TypeId) (h : w.heap[p]? = some (.cells cs t (0, 0))) :
    (((w.setCell ⟨p, i, none⟩ u).setCell ⟨p, j, none⟩ v).setCell ⟨p, l, none⟩ x).heap[p]? = some (.cells (((cs.set! i u).set! j v).set! l x) t (0, 0)) :=
  heap_setCell_same _ p l _ _ x (heap_setCell_twice w p i j u v cs t h)

theorem six_set {w : World} {n : Nat} {x0 x1 x2 x3 x4 x5 : Value} {t : TypeId} (h : w.heap[n]? = some (.cells #[x0, x1, x2, x3, x4, x5] t (0, 0))) (a b c d e f : Value) :
    ∀ i, ((((((w.setCell ⟨n, 0, none⟩ a).setCell ⟨n, 1, none⟩ b).setCell ⟨n, 2, none⟩ c).setCell ⟨n, 3, none⟩ d).setCell ⟨n, 4, none⟩ e).setCell ⟨n, 5, none⟩ f).cell? ⟨n, i, none⟩ = #[a, b, c, d, e, f][i]? := fun i => by
  have h3 := heap_set3 w n 0 1 2 a b c _ _ h
  have h6 := heap_set3 _ n 3 4 5 d e f _ _ h3
  simp only [World.cell?, h6]
  simp
theorem six_cells {w : World} {n : Nat} {x0 x1 x2 x3 x4 x5 : Value} {t : TypeId} (h : w.heap[n]? = some (.cells #[x0, x1, x2, x3, x4, x5] t (0, 0))) :
    (w.cell? ⟨n, 0, none⟩ = some x0 ∧ w.cell? ⟨n, 1, none⟩ = some x1 ∧ w.cell? ⟨n, 2, none⟩ = some x2 ∧ w.cell? ⟨n, 3, none⟩ = some x3 ∧ w.cell? ⟨n, 4, none⟩ = some x4 ∧ w.cell? ⟨n, 5, none⟩ = some x5) ∧
    (w.frozen? ⟨n, 0, none⟩ = false ∧ w.frozen? ⟨n, 1, none⟩ = false ∧ w.frozen? ⟨n, 2, none⟩ = false ∧ w.frozen? ⟨n, 3, none⟩ = false ∧ w.frozen? ⟨n, 4, none⟩ = false ∧ w.frozen? ⟨n, 5, none⟩ = false) := by
  simp [World.cell?, World.frozen?, h]

set_option maxHeartbeats 4000000 in
theorem standing_on {w : World} {B p : Nat} {F : Mdl} {vb vr : Value} {rv : List RawV} (h : PF w B p F vb vr rv) (ho : F.off = false) (hS : Sl w) (hby : Byt F.bs) :
    Calls Tryd.prog 39 #[.pointer (some ⟨p, 0, none⟩)] w fun e w' => e = .returned (.tuple #[.agg (six (slotR F.bs 0) (slotR F.bs 1)), .int .i64 0]) ∧ Below w.heap.size w w' := by
  have HP : Hid (PF w B p F vb vr rv) := h
  have HS : Hid (Sl w) := hS
  have HBY : Hid (Byt F.bs) := hby
  have HOF : Hid (F.off = false) := ho
  obtain ⟨W, HW⟩ : ∃ W, Hid (W = (w.alloc (.cells zero6 82)).alloc (.cells zero6 82)) := ⟨_, rfl⟩
  have HB0 : Hid (Below w.heap.size w W) := by rw [Hid, HW.out]; exact ((Below.refl _ w).alloc (Nat.le_refl _) _).alloc (by simp) _
  have HC1 : Hid (W.heap[w.heap.size + 1]? = some (.cells zero6 82 (0, 0))) := by
    rw [Hid, HW.out]
    have := heap_alloc_new (w.alloc (.cells zero6 82)) (.cells zero6 82)
    simpa using this
  have HC0 : Hid (W.heap[w.heap.size]? = some (.cells zero6 82 (0, 0))) := by
    rw [Hid, HW.out, Below.heap_alloc _ _ _ (by simp)]
    exact heap_alloc_new w _
  clear h hS hby ho
  go_enter Tryd.func39, Tryd.ntmps39
  go_upto_region 2 with fail
  rw [show ((w.alloc (.cells #[.int .u64 0, .int .i64 0, .int .i64 0, .int .u64 0, .int .i64 0, .int .i64 0] 82)).alloc (.cells #[.int .u64 0, .int .i64 0, .int .i64 0, .int .u64 0, .int .i64 0, .int .i64 0] 82)) = W from HW.out.symm]
  go_wp2_with fail
  go_loopw [8] (fun i wr => ∃ k : Nat, k ≤ 2 ∧ i = .int .i64 (k : Int) ∧ Hid (wr.heap[w.heap.size + 1]? = some (.cells (sixK (slotR F.bs 0) (slotR F.bs 1) k) 82 (0, 0))) ∧ Hid (wr.heap[w.heap.size]? = some (.cells zero6 82 (0, 0))) ∧ Hid (Below w.heap.size w wr)) (fun i _ => 2 - (intOf i).toNat)
  case atStart => exact ⟨0, by omega, rfl, HC1.out, HC0.out, HB0.out⟩
  case round =>
    obtain ⟨k, hk, rfl, HK1, HK0, HB⟩ := hrel
    by_cases hlt : k < 2
    · obtain ⟨er, her, hrd⟩ := read_slot (HP.out.below HB.out) HOF.out k (by omega)
      have HRD : Hid _ := hrd
      have HXB : Hid (Byt (slotX F.bs k)) := slotX_byt HBY.out k
      have HXL : Hid ((slotX F.bs k).length ≤ 32) := slotX_len _ _
      have HRK : Hid (ownR k (slotX F.bs k) = slotR F.bs k) := rfl
      have HSR : Hid (Sl wr) := HS.out.below HB.out
      obtain ⟨m, HM⟩ : ∃ m, Hid ((slotX F.bs k).length = m) := ⟨_, rfl⟩
      rw [HM.out] at HRD HXL
      clear hrd
      go_wp2_with fail
      refine Calls.mono HRD.out ?_
      rintro e w2 ⟨ao, cap, rfl, ho2, hb2⟩
      have HV2 : Hid (Own w2 wr.heap.size (.slice ao m cap) (slotX F.bs k)) := ho2
      have HB2 : Hid (Below wr.heap.size wr w2) := hb2
      clear ho2 hb2
      have HZ : Hid (w.heap.size + 1 < wr.heap.size) := (Array.getElem?_eq_some_iff.1 HK1.out).1
      rcases her with rfl | rfl
      all_goals
        go_wp2_with fail
        refine (ownRoot_any _ (slotX F.bs k) k _ HV2.out.bs (by rw [HM.out]; have := HXL.out; omega) HXB.out (HSR.out.below HB2.out)).mono ?_
        rintro e w3 ⟨rfl, hb3⟩
        have HB3 : Hid (Below wr.heap.size wr w3) := HB2.out.trans (hb3.mono HB2.out.size)
        have HBW3 : Hid (Below w.heap.size w w3) := HB.out.trans (HB3.out.mono HB.out.size)
        have HZ3 : Hid (w3.heap[w.heap.size + 1]? = some (.cells (sixK (slotR F.bs 0) (slotR F.bs 1) k) 82 (0, 0))) := (HB3.out.block _ HZ.out).trans HK1.out
        have HY3 : Hid (w3.heap[w.heap.size]? = some (.cells zero6 82 (0, 0))) := (HB3.out.block _ (by have := HZ.out; omega)).trans HK0.out
        rw [HRK.out]
        have HNX : Hid _ := sixK_next F.bs k hlt
        unfold nrV
        have c0 : ∃ v, w3.cell? ⟨w.heap.size + 1, k * 3, none⟩ = some v := ⟨_, (blk_cell HZ3.out _).trans (Array.getElem?_eq_getElem (by rw [sixK_size]; omega))⟩
        have c1 : ∃ v, w3.cell? ⟨w.heap.size + 1, k * 3 + 1, none⟩ = some v := ⟨_, (blk_cell HZ3.out _).trans (Array.getElem?_eq_getElem (by rw [sixK_size]; omega))⟩
        have c2 : ∃ v, w3.cell? ⟨w.heap.size + 1, k * 3 + 2, none⟩ = some v := ⟨_, (blk_cell HZ3.out _).trans (Array.getElem?_eq_getElem (by rw [sixK_size]; omega))⟩
        obtain ⟨v0, c0⟩ := c0
        obtain ⟨v1, c1⟩ := c1
        obtain ⟨v2, c2⟩ := c2
        have f0 := blk_free HZ3.out (k * 3)
        have f1 := blk_free HZ3.out (k * 3 + 1)
        have f2 := blk_free HZ3.out (k * 3 + 2)
        generalize ng (slotR F.bs k) = G at *
        generalize na (slotR F.bs k) = A at *
        generalize nz (slotR F.bs k) = Z at *
        clear hb3
        go_wp2_with fail
        go_roundw
        case rel =>
          refine ⟨k + 1, by omega, by simp, ?_, ?_, ?_⟩
          · unfold Hid
            rw [HNX.out]
            exact heap_set3 w3 (w.heap.size + 1) (k * 3) (k * 3 + 1) (k * 3 + 2) _ _ _ _ _ HZ3.out
          · unfold Hid
            rw [Below.heap_setCell _ _ _ _ (by simp), Below.heap_setCell _ _ _ _ (by simp), Below.heap_setCell _ _ _ _ (by simp)]
            exact HY3.out
          · exact ((HBW3.out.setCell (by simp) _).setCell (by simp) _).setCell (by simp) _
        case measure => simp [intOf]; omega
    · obtain rfl : k = 2 := by omega
      have HK2 : Hid (wr.heap[w.heap.size + 1]? = some (.cells (six (slotR F.bs 0) (slotR F.bs 1)) 82 (0, 0))) := HK1.out
      unfold six at HK2
      unfold zero6 at HK0
      obtain ⟨G, HG⟩ : ∃ x, Hid (ng (slotR F.bs 0) = x) := ⟨_, rfl⟩
      obtain ⟨A, HA⟩ : ∃ x, Hid (na (slotR F.bs 0) = x) := ⟨_, rfl⟩
      obtain ⟨Z, HZ⟩ : ∃ x, Hid (nz (slotR F.bs 0) = x) := ⟨_, rfl⟩
      obtain ⟨G1, HG1⟩ : ∃ x, Hid (ng (slotR F.bs 1) = x) := ⟨_, rfl⟩
      obtain ⟨A1, HA1⟩ : ∃ x, Hid (na (slotR F.bs 1) = x) := ⟨_, rfl⟩
      obtain ⟨Z1, HZ1⟩ : ∃ x, Hid (nz (slotR F.bs 1) = x) := ⟨_, rfl⟩
      rw [HG.out, HA.out, HZ.out, HG1.out, HA1.out, HZ1.out] at HK2
      obtain ⟨⟨c0, c1, c2, c3, c4, c5⟩, _⟩ := six_cells HK2.out
      obtain ⟨⟨d0, d1, d2, d3, d4, d5⟩, f0, f1, f2, f3, f4, f5⟩ := six_cells HK0.out
      go_wp2_with fail
      refine bodyPost_ret (v := .tuple #[.agg #[.int .u64 G, .int .i64 A, .int .i64 Z, .int .u64 G1, .int .i64 A1, .int .i64 Z1], .int .i64 0]) ?_ rfl ?_
      · have e0 := six_set HK0.out (.int .u64 G) (.int .i64 A) (.int .i64 Z) (.int .u64 G1) (.int .i64 A1) (.int .i64 Z1) 0
        have e1 := six_set HK0.out (.int .u64 G) (.int .i64 A) (.int .i64 Z) (.int .u64 G1) (.int .i64 A1) (.int .i64 Z1) 1
        have e2 := six_set HK0.out (.int .u64 G) (.int .i64 A) (.int .i64 Z) (.int .u64 G1) (.int .i64 A1) (.int .i64 Z1) 2
        have e3 := six_set HK0.out (.int .u64 G) (.int .i64 A) (.int .i64 Z) (.int .u64 G1) (.int .i64 A1) (.int .i64 Z1) 3
        have e4 := six_set HK0.out (.int .u64 G) (.int .i64 A) (.int .i64 Z) (.int .u64 G1) (.int .i64 A1) (.int .i64 Z1) 4
        have e5 := six_set HK0.out (.int .u64 G) (.int .i64 A) (.int .i64 Z) (.int .u64 G1) (.int .i64 A1) (.int .i64 Z1) 5
        simp at e0 e1 e2 e3 e4 e5
        simp [results, Tryd.f39, go_sem, e0, e1, e2, e3, e4, e5]
      · refine ⟨by unfold six; rw [HG.out, HA.out, HZ.out, HG1.out, HA1.out, HZ1.out], ?_⟩
        exact (((((HB.out.setCell (by simp) _).setCell (by simp) _).setCell (by simp) _).setCell (by simp) _).setCell (by simp) _).setCell (by simp) _

/-- A file that does not read: standing tells its error. -/
theorem standing_bad (v : Value) (er : Int) (w : World) (h0 : er ≠ 0) (h4 : er ≠ 4)
    (hR : ∀ w1, Below w.heap.size w w1 → Calls Tryd.prog 48 #[v, .int .i64 0, .int .i64 32] w1 fun e w' => ∃ ao n cap, e = .returned (.tuple #[.slice ao n cap, .int .i64 er]) ∧ Below w1.heap.size w1 w') :
    Calls Tryd.prog 39 #[v] w fun e w' => e = .returned (.tuple #[.agg zero6, .int .i64 er]) ∧ Below w.heap.size w w' := by
  have HR : Hid _ := hR
  obtain ⟨W, HW⟩ : ∃ W, Hid (W = (w.alloc (.cells zero6 82)).alloc (.cells zero6 82)) := ⟨_, rfl⟩
  have HB0 : Hid (Below w.heap.size w W) := by rw [Hid, HW.out]; exact ((Below.refl _ w).alloc (Nat.le_refl _) _).alloc (by simp) _
  have HC1 : Hid (W.heap[w.heap.size + 1]? = some (.cells zero6 82 (0, 0))) := by
    rw [Hid, HW.out]
    have := heap_alloc_new (w.alloc (.cells zero6 82)) (.cells zero6 82)
    simpa using this
  have HC0 : Hid (W.heap[w.heap.size]? = some (.cells zero6 82 (0, 0))) := by
    rw [Hid, HW.out, Below.heap_alloc _ _ _ (by simp)]
    exact heap_alloc_new w _
  have e0 : (er != 0) = true := by simpa using h0
  have e4 : (er != 4) = true := by simpa using h4
  clear hR
  go_enter Tryd.func39, Tryd.ntmps39
  go_upto_region 2 with fail
  rw [show ((w.alloc (.cells #[.int .u64 0, .int .i64 0, .int .i64 0, .int .u64 0, .int .i64 0, .int .i64 0] 82)).alloc (.cells #[.int .u64 0, .int .i64 0, .int .i64 0, .int .u64 0, .int .i64 0, .int .i64 0] 82)) = W from HW.out.symm]
  go_wp2_with fail
  refine wp_loop_rounds 1 ?_
  rw [rounds_succ]
  go_wp2_with fail
  refine (HR.out _ HB0.out).mono ?_
  rintro e w2 ⟨ao, n, cap, rfl, hb2⟩
  have HK1 : Hid (w2.heap[w.heap.size + 1]? = some (.cells zero6 82 (0, 0))) := (hb2.block _ (Array.getElem?_eq_some_iff.1 HC1.out).1).trans HC1.out
  have HK0 : Hid (w2.heap[w.heap.size]? = some (.cells zero6 82 (0, 0))) := (hb2.block _ (Array.getElem?_eq_some_iff.1 HC0.out).1).trans HC0.out
  have HB2 : Hid (Below w.heap.size w w2) := HB0.out.trans (hb2.mono HB0.out.size)
  clear hb2
  unfold zero6 at HK0 HK1
  obtain ⟨⟨c0, c1, c2, c3, c4, c5⟩, _⟩ := six_cells HK1.out
  obtain ⟨⟨d0, d1, d2, d3, d4, d5⟩, f0, f1, f2, f3, f4, f5⟩ := six_cells HK0.out
  go_wp2_with fail
  refine bodyPost_ret (v := .tuple #[.agg #[.int .u64 0, .int .i64 0, .int .i64 0, .int .u64 0, .int .i64 0, .int .i64 0], .int .i64 er]) ?_ rfl ?_
  · have e0 := six_set HK0.out (.int .u64 0) (.int .i64 0) (.int .i64 0) (.int .u64 0) (.int .i64 0) (.int .i64 0) 0
    have e1 := six_set HK0.out (.int .u64 0) (.int .i64 0) (.int .i64 0) (.int .u64 0) (.int .i64 0) (.int .i64 0) 1
    have e2 := six_set HK0.out (.int .u64 0) (.int .i64 0) (.int .i64 0) (.int .u64 0) (.int .i64 0) (.int .i64 0) 2
    have e3 := six_set HK0.out (.int .u64 0) (.int .i64 0) (.int .i64 0) (.int .u64 0) (.int .i64 0) (.int .i64 0) 3
    have e4 := six_set HK0.out (.int .u64 0) (.int .i64 0) (.int .i64 0) (.int .u64 0) (.int .i64 0) (.int .i64 0) 4
    have e5 := six_set HK0.out (.int .u64 0) (.int .i64 0) (.int .i64 0) (.int .u64 0) (.int .i64 0) (.int .i64 0) 5
    simp at e0 e1 e2 e3 e4 e5
    simp [results, Tryd.f39, go_sem, e0, e1, e2, e3, e4, e5]
  · refine ⟨rfl, ?_⟩
    exact (((((HB2.out.setCell (by simp) _).setCell (by simp) _).setCell (by simp) _).setCell (by simp) _).setCell (by simp) _).setCell (by simp) _
end Go.Proofs.YtkiccnedmejnaaaDoor

namespace Go.Proofs.YtkiccnedmejnaaaDoor
open Go.RowKit
set_option linter.unusedVariables false
set_option maxRecDepth 100000

def okO (o : Option Rt) : Prop := ∀ r, o = some r → 0 ≤ r.2.1
def bestO : Option Rt → Option Rt → Option Rt
  | none, b => b
  | some a, none => some a
  | some a, some b => if a.1 < b.1 then some b else some a
theorem bestO_ok {a b : Option Rt} (ha : okO a) (hb : okO b) : okO (bestO a b) := by
  cases a with
  | none => exact hb
  | some a =>
    cases b with
    | none => exact ha
    | some b =>
      intro r hr
      simp only [bestO] at hr
      split at hr
      · exact hb r hr
      · exact ha r hr
theorem better_any (o o' : Option Rt) (w : World) (hN : NoR w) (h : okO o) (h' : okO o') :
    Calls Tryd.prog 40 #[nrV o, nrV o'] w fun e w' => e = .returned (nrV (bestO o o')) ∧ Below w.heap.size w w' := by
  cases o with
  | none => exact better_none (ng o') (na o') (nz o') w hN
  | some a =>
    cases o' with
    | none => exact better_first a.1 a.2.1 a.2.2 w hN (h a rfl)
    | some b =>
      by_cases hg : a.1 < b.1
      · have := better_second a.1 a.2.1 a.2.2 b.1 b.2.1 b.2.2 w hN (h a rfl) (h' b rfl) hg
        simpa [nrV, ng, na, nz, bestO, hg] using this
      · have := better_stays a.1 a.2.1 a.2.2 b.1 b.2.1 b.2.2 w hN (h a rfl) (h' b rfl) hg
        simpa [nrV, ng, na, nz, bestO, hg] using this
def nr3 (o : Option Rt) : Array Value := #[.int .u64 (ng o), .int .i64 (na o), .int .i64 (nz o)]
def bk (o0 o1 : Option Rt) (k : Nat) : Option Rt := if k = 0 then none else if k = 1 then o0 else bestO o0 o1
def elk (o0 o1 : Option Rt) (k : Nat) : Option Rt := if k = 0 then o0 else o1
theorem bk_next (o0 o1 : Option Rt) (k : Nat) (h : k < 2) : bestO (bk o0 o1 k) (elk o0 o1 k) = bk o0 o1 (k + 1) := by
  rcases (show k = 0 ∨ k = 1 by omega) with rfl | rfl <;> rfl
theorem bk_ok {o0 o1 : Option Rt} (h0 : okO o0) (h1 : okO o1) (k : Nat) : okO (bk o0 o1 k) := by
  unfold bk
  split
  · intro r h; cases h
  · split
    · exact h0
    · exact bestO_ok h0 h1
theorem elk_ok {o0 o1 : Option Rt} (h0 : okO o0) (h1 : okO o1) (k : Nat) : okO (elk o0 o1 k) := by
  unfold elk; split; exact h0; exact h1
/-- What Best tells of the root that stands. -/
def rtZ : Option Rt → Value
  | none => .agg #[.int .u64 0, .int .i64 0, .int .i64 0]
  | some r => .agg #[.int .u64 r.1, .int .i64 r.2.1, .int .i64 r.2.2]

theorem index_fst (a b c d e f : Value) (w : World) : Sem.run Tryd.prog (Instr.index 82 (.agg #[a, b, c, d, e, f]) (.int .i64 0)) w = .ok (.agg #[a, b, c]) w := by
  simp [Instr.index, run_underlying Tryd.underlying82, asIntOf, go_sem]
theorem index_snd (a b c d e f : Value) (w : World) : Sem.run Tryd.prog (Instr.index 82 (.agg #[a, b, c, d, e, f]) (.int .i64 1)) w = .ok (.agg #[d, e, f]) w := by
  simp [Instr.index, run_underlying Tryd.underlying82, asIntOf, go_sem]

set_option maxHeartbeats 4000000 in
theorem best_go (v : Value) (o0 o1 : Option Rt) (w : World) (hN : NoR w) (h0 : okO o0) (h1 : okO o1)
    (hS : ∀ w1, Below w.heap.size w w1 → Calls Tryd.prog 39 #[v] w1 fun e w' => e = .returned (.tuple #[.agg (six o0 o1), .int .i64 0]) ∧ Below w1.heap.size w1 w') :
    Calls Tryd.prog 16 #[v] w fun e w' => e = .returned (.tuple #[rtZ (bestO o0 o1), .bool (bestO o0 o1).isSome, .int .i64 0]) ∧ Below w.heap.size w w' := by
  have HS : Hid _ := hS
  have HN : Hid (NoR w) := hN
  have H0 : Hid (okO o0) := h0
  have H1 : Hid (okO o1) := h1
  obtain ⟨W1, HW1⟩ : ∃ W1, Hid (W1 = w.alloc (.cells #[.int .u64 0, .int .i64 0, .int .i64 0] 24)) := ⟨_, rfl⟩
  have HB1 : Hid (Below w.heap.size w W1) := by rw [Hid, HW1.out]; exact (Below.refl _ w).alloc (Nat.le_refl _) _
  have HC1 : Hid (W1.heap[w.heap.size]? = some (.cells #[.int .u64 0, .int .i64 0, .int .i64 0] 24 (0, 0))) := by rw [Hid, HW1.out]; exact heap_alloc_new w _
  clear hS hN h0 h1
  go_enter Tryd.func16, Tryd.ntmps16
  go_wp2_with fail
  rw [← HW1.out]
  refine (HS.out _ HB1.out).mono ?_
  rintro e w2 ⟨rfl, hb2⟩
  unfold six
  obtain ⟨G0, HG0⟩ : ∃ x, Hid (ng o0 = x) := ⟨_, rfl⟩
  obtain ⟨A0, HA0⟩ : ∃ x, Hid (na o0 = x) := ⟨_, rfl⟩
  obtain ⟨Z0, HZ0⟩ : ∃ x, Hid (nz o0 = x) := ⟨_, rfl⟩
  obtain ⟨G1, HG1⟩ : ∃ x, Hid (ng o1 = x) := ⟨_, rfl⟩
  obtain ⟨A1, HA1⟩ : ∃ x, Hid (na o1 = x) := ⟨_, rfl⟩
  obtain ⟨Z1, HZ1⟩ : ∃ x, Hid (nz o1 = x) := ⟨_, rfl⟩
  rw [HG0.out, HA0.out, HZ0.out, HG1.out, HA1.out, HZ1.out]
  obtain ⟨W2, HW2⟩ : ∃ W2, Hid (W2 = w2.alloc (.cells #[.int .u64 G0, .int .i64 A0, .int .i64 Z0, .int .u64 G1, .int .i64 A1, .int .i64 Z1] 82)) := ⟨_, rfl⟩
  have HB2 : Hid (Below W1.heap.size W1 W2) := by rw [Hid, HW2.out]; exact hb2.alloc hb2.size _
  have HC2 : Hid (W2.heap[w2.heap.size]? = some (.cells #[.int .u64 G0, .int .i64 A0, .int .i64 Z0, .int .u64 G1, .int .i64 A1, .int .i64 Z1] 82 (0, 0))) := by rw [Hid, HW2.out]; exact heap_alloc_new _ _
  have HBW2 : Hid (Below w.heap.size w W2) := HB1.out.trans (HB2.out.mono HB1.out.size)
  clear hb2
  go_upto_region 4 with fail
  rw [← HW2.out]
  obtain ⟨W3, HW3⟩ : ∃ W3, Hid (W3 = W2.alloc (.cells #[.int .u64 0, .int .i64 (-1), .int .i64 0] 24)) := ⟨_, rfl⟩
  have HB3 : Hid (Below W2.heap.size W2 W3) := by rw [Hid, HW3.out]; exact (Below.refl _ _).alloc (Nat.le_refl _) _
  have HC3 : Hid (W3.heap[W2.heap.size]? = some (.cells #[.int .u64 0, .int .i64 (-1), .int .i64 0] 24 (0, 0))) := by rw [Hid, HW3.out]; exact heap_alloc_new _ _
  have HBW3 : Hid (Below w.heap.size w W3) := HBW2.out.trans (HB3.out.mono HBW2.out.size)
  obtain ⟨n0, n1, n2⟩ := HN.out.below HBW2.out HN.out.lt
  go_upto_region 5 with fail
  rw [← HW3.out]
  have HC23 : Hid _ := (HB3.out.block _ (Array.getElem?_eq_some_iff.1 HC2.out).1).trans HC2.out
  obtain ⟨⟨q0, q1, q2, q3, q4, q5⟩, _⟩ := six_cells HC23.out
  have HL2 : Hid (w.heap.size < W2.heap.size ∧ w.heap.size ≤ W2.heap.size) := by have h1 := (Array.getElem?_eq_some_iff.1 HC1.out).1; have h2 := HB2.out.size; exact ⟨by omega, by omega⟩
  have HZ1' : Hid (W3.heap[w.heap.size]? = some (.cells #[.int .u64 0, .int .i64 0, .int .i64 0] 24 (0, 0))) := (HB3.out.block _ HL2.out.1).trans ((HB2.out.block _ (Array.getElem?_eq_some_iff.1 HC1.out).1).trans HC1.out)
  clear n0 n1 n2
  go_wp2_with fail
  clear q0 q1 q2 q3 q4 q5
  go_loopw [21] (fun i wr => ∃ k : Nat, k ≤ 2 ∧ i = .int .i64 (k : Int) ∧ Hid (wr.heap[W2.heap.size]? = some (.cells (nr3 (bk o0 o1 k)) 24 (0, 0))) ∧ Hid (wr.heap[w.heap.size]? = some (.cells #[.int .u64 0, .int .i64 0, .int .i64 0] 24 (0, 0))) ∧ Hid (Below w.heap.size w wr)) (fun i _ => 2 - (intOf i).toNat)
  case atStart => exact ⟨0, by omega, rfl, HC3.out, HZ1'.out, HBW3.out⟩
  case round =>
    obtain ⟨k, hk, rfl, HK1, HK0, HB⟩ := hrel
    by_cases hlt : k < 2
    · obtain ⟨EG, EA, EZ, HEL⟩ : ∃ EG EA EZ, Hid (ng (elk o0 o1 k) = EG ∧ na (elk o0 o1 k) = EA ∧ nz (elk o0 o1 k) = EZ) := ⟨_, _, _, rfl, rfl, rfl⟩
      obtain ⟨OG, OA, OZ, HOL⟩ : ∃ EG EA EZ, Hid (ng (bk o0 o1 k) = EG ∧ na (bk o0 o1 k) = EA ∧ nz (bk o0 o1 k) = EZ) := ⟨_, _, _, rfl, rfl, rfl⟩
      obtain ⟨NG, NA, NZ, HNL⟩ : ∃ EG EA EZ, Hid (ng (bk o0 o1 (k + 1)) = EG ∧ na (bk o0 o1 (k + 1)) = EA ∧ nz (bk o0 o1 (k + 1)) = EZ) := ⟨_, _, _, rfl, rfl, rfl⟩
      unfold nr3 at HK1
      rw [HOL.out.1, HOL.out.2.1, HOL.out.2.2] at HK1
      obtain ⟨W4, HW4⟩ : ∃ W4, Hid (W4 = wr.alloc (.cells #[.int .u64 EG, .int .i64 EA, .int .i64 EZ] 24)) := ⟨_, rfl⟩
      have HB4 : Hid (Below wr.heap.size wr W4) := by rw [Hid, HW4.out]; exact (Below.refl _ _).alloc (Nat.le_refl _) _
      have HC4 : Hid (W4.heap[wr.heap.size]? = some (.cells #[.int .u64 EG, .int .i64 EA, .int .i64 EZ] 24 (0, 0))) := by rw [Hid, HW4.out]; exact heap_alloc_new _ _
      have HKL : Hid (W2.heap.size < wr.heap.size) := (Array.getElem?_eq_some_iff.1 HK1.out).1
      have HK4 : Hid _ := (HB4.out.block _ HKL.out).trans HK1.out
      obtain ⟨c0, c1, c2, _, _, _⟩ := three_cells HK4.out
      obtain ⟨d0, d1, d2, _, _, _⟩ := three_cells HC4.out
      have HNR : Hid (NoR wr) := HN.out.below HB.out HN.out.lt
      have HBT : Hid _ := better_any (bk o0 o1 k) (elk o0 o1 k) W4 (HNR.out.below HB4.out HNR.out.lt) (bk_ok H0.out H1.out k) (elk_ok H0.out H1.out k)
      rw [bk_next o0 o1 k hlt] at HBT
      unfold nrV at HBT
      rw [HOL.out.1, HOL.out.2.1, HOL.out.2.2, HEL.out.1, HEL.out.2.1, HEL.out.2.2, HNL.out.1, HNL.out.2.1, HNL.out.2.2] at HBT
      have HNX : Hid (nr3 (bk o0 o1 (k + 1)) = #[.int .u64 NG, .int .i64 NA, .int .i64 NZ]) := by unfold Hid nr3; rw [HNL.out.1, HNL.out.2.1, HNL.out.2.2]
      have HIX : Hid ((k = 0 ∧ EG = G0 ∧ EA = A0 ∧ EZ = Z0) ∨ (k = 1 ∧ EG = G1 ∧ EA = A1 ∧ EZ = Z1)) := by
        have h1 := HEL.out
        rcases (show k = 0 ∨ k = 1 by omega) with rfl | rfl
        · exact .inl ⟨rfl, h1.1.symm.trans HG0.out, h1.2.1.symm.trans HA0.out, h1.2.2.symm.trans HZ0.out⟩
        · exact .inr ⟨rfl, h1.1.symm.trans HG1.out, h1.2.1.symm.trans HA1.out, h1.2.2.symm.trans HZ1.out⟩
      have hix0 := index_fst (.int .u64 G0) (.int .i64 A0) (.int .i64 Z0) (.int .u64 G1) (.int .i64 A1) (.int .i64 Z1)
      have hix1 := index_snd (.int .u64 G0) (.int .i64 A0) (.int .i64 Z0) (.int .u64 G1) (.int .i64 A1) (.int .i64 Z1)
      rcases HIX.out with ⟨rfl, rfl, rfl, rfl⟩ | ⟨rfl, rfl, rfl, rfl⟩
      · go_upto_region 8 with fail
        rw [← HW4.out]
        go_wp2_with fail
        refine Calls.mono HBT.out ?_
        rintro e w5 ⟨rfl, hb5⟩
        have HK5 : Hid _ := (hb5.block _ (Array.getElem?_eq_some_iff.1 HK4.out).1).trans HK4.out
        have HB5 : Hid (Below wr.heap.size wr w5) := HB4.out.trans (hb5.mono HB4.out.size)
        have HBW5 : Hid (Below w.heap.size w w5) := HB.out.trans (HB5.out.mono HB.out.size)
        have HZ5 : Hid _ := (HB5.out.block _ (Array.getElem?_eq_some_iff.1 HK0.out).1).trans HK0.out
        clear hb5 c0 c1 c2 d0 d1 d2
        obtain ⟨c0, c1, c2, f0, f1, f2⟩ := three_cells HK5.out
        go_wp2_with fail
        go_roundw
        case rel =>
          refine ⟨1, by omega, by simp, ?_, ?_, ?_⟩
          · unfold Hid
            rw [show nr3 (bk o0 o1 1) = #[.int .u64 NG, .int .i64 NA, .int .i64 NZ] from HNX.out]
            exact heap_set3 w5 W2.heap.size 0 1 2 _ _ _ _ _ HK5.out
          · unfold Hid
            have hne := HL2.out.1
            rw [Below.heap_setCell _ _ _ _ (by simp; omega), Below.heap_setCell _ _ _ _ (by simp; omega), Below.heap_setCell _ _ _ _ (by simp; omega)]
            exact HZ5.out
          · exact ((HBW5.out.setCell HL2.out.2 _).setCell HL2.out.2 _).setCell HL2.out.2 _
        case measure => simp [intOf]
      · go_upto_region 8 with fail
        rw [← HW4.out]
        go_wp2_with fail
        refine Calls.mono HBT.out ?_
        rintro e w5 ⟨rfl, hb5⟩
        have HK5 : Hid _ := (hb5.block _ (Array.getElem?_eq_some_iff.1 HK4.out).1).trans HK4.out
        have HB5 : Hid (Below wr.heap.size wr w5) := HB4.out.trans (hb5.mono HB4.out.size)
        have HBW5 : Hid (Below w.heap.size w w5) := HB.out.trans (HB5.out.mono HB.out.size)
        have HZ5 : Hid _ := (HB5.out.block _ (Array.getElem?_eq_some_iff.1 HK0.out).1).trans HK0.out
        clear hb5 c0 c1 c2 d0 d1 d2
        obtain ⟨c0, c1, c2, f0, f1, f2⟩ := three_cells HK5.out
        go_wp2_with fail
        go_roundw
        case rel =>
          refine ⟨2, by omega, by simp, ?_, ?_, ?_⟩
          · unfold Hid
            rw [show nr3 (bk o0 o1 2) = #[.int .u64 NG, .int .i64 NA, .int .i64 NZ] from HNX.out]
            exact heap_set3 w5 W2.heap.size 0 1 2 _ _ _ _ _ HK5.out
          · unfold Hid
            have hne := HL2.out.1
            rw [Below.heap_setCell _ _ _ _ (by simp; omega), Below.heap_setCell _ _ _ _ (by simp; omega), Below.heap_setCell _ _ _ _ (by simp; omega)]
            exact HZ5.out
          · exact ((HBW5.out.setCell HL2.out.2 _).setCell HL2.out.2 _).setCell HL2.out.2 _
        case measure => simp [intOf]
    · obtain rfl : k = 2 := by omega
      have HK2 : Hid (wr.heap[W2.heap.size]? = some (.cells (nr3 (bestO o0 o1)) 24 (0, 0))) := HK1.out
      have HOK : Hid (okO (bestO o0 o1)) := bestO_ok H0.out H1.out
      clear HK1
      obtain ⟨n0, n1, n2⟩ := HN.out.below HB.out HN.out.lt
      obtain ⟨z0, z1, z2, f0, f1, f2⟩ := three_cells HK0.out
      obtain ⟨O, HO⟩ : ∃ O, Hid (bestO o0 o1 = O) := ⟨_, rfl⟩
      rw [HO.out] at HK2 HOK
      cases O with
      | none =>
        obtain ⟨c0, c1, c2, _, _, _⟩ := three_cells (show wr.heap[W2.heap.size]? = some (.cells #[.int .u64 0, .int .i64 (-1), .int .i64 0] 24 (0, 0)) from HK2.out)
        go_wp2_with fail
        refine bodyPost_ret (v := .tuple #[.agg #[.int .u64 0, .int .i64 0, .int .i64 0], .bool false, .int .i64 0]) ?_ rfl ?_
        · have e0 := three_set HK0.out (.int .u64 0) (.int .i64 0) (.int .i64 0) 0
          have e1 := three_set HK0.out (.int .u64 0) (.int .i64 0) (.int .i64 0) 1
          have e2 := three_set HK0.out (.int .u64 0) (.int .i64 0) (.int .i64 0) 2
          simp at e0 e1 e2
          simp [results, Tryd.f16, go_sem, e0, e1, e2]
        · refine ⟨by rw [HO.out]; rfl, ?_⟩
          exact ((HB.out.setCell (Nat.le_refl _) _).setCell (Nat.le_refl _) _).setCell (Nat.le_refl _) _
      | some r =>
        obtain ⟨g, a, z⟩ := r
        have ha : 0 ≤ a := HOK.out _ rfl
        have hn : (a == -1) = false := by simp; omega
        have hn2 : ¬ a = -1 := by omega
        obtain ⟨c0, c1, c2, _, _, _⟩ := three_cells (show wr.heap[W2.heap.size]? = some (.cells #[.int .u64 g, .int .i64 a, .int .i64 z] 24 (0, 0)) from HK2.out)
        go_wp2_with fail
        refine bodyPost_ret (v := .tuple #[.agg #[.int .u64 g, .int .i64 a, .int .i64 z], .bool true, .int .i64 0]) ?_ rfl ?_
        · have e0 := three_set HK0.out (.int .u64 g) (.int .i64 a) (.int .i64 z) 0
          have e1 := three_set HK0.out (.int .u64 g) (.int .i64 a) (.int .i64 z) 1
          have e2 := three_set HK0.out (.int .u64 g) (.int .i64 a) (.int .i64 z) 2
          simp at e0 e1 e2
          simp [results, Tryd.f16, go_sem, e0, e1, e2]
        · refine ⟨by rw [HO.out]; rfl, ?_⟩
          exact ((HB.out.setCell (Nat.le_refl _) _).setCell (Nat.le_refl _) _).setCell (Nat.le_refl _) _
end Go.Proofs.YtkiccnedmejnaaaDoor

namespace Go.Proofs.YtkiccnedmejnaaaDoor
open Go.RowKit
set_option linter.unusedVariables false
set_option maxRecDepth 100000

/-- Where Put writes, and what. -/
def putN (g : Int) : Nat := 32 * (g % 2).toNat
def putAt (F : Mdl) (g : Int) : Nat := min (putN g) F.bs.length
def putX (F : Mdl) (g a z : Int) : List Int := List.replicate (putN g - putAt F g) 0 ++ rootB g a z
theorem putN_le (g : Int) (h : 0 ≤ g) : putN g ≤ 32 := by unfold putN; omega
theorem putX_len (F : Mdl) (g a z : Int) (h : 0 ≤ g) : (putX F g a z).length = (putN g - putAt F g) + 32 := by unfold putX; rw [List.length_append, List.length_replicate, rootB_length]
theorem rd_none {F : Mdl} (er : Int) (h : rdErr F 0 0 = er) : er ≠ 1 := by
  unfold rdErr at h
  split at h
  · omega
  · split at h
    · omega
    · split at h <;> omega

theorem rput_no (v : Value) (g a z : Int) (w : World) (h : NoFile w v) :
    Calls Tryd.prog 21 #[v, .agg #[.int .u64 g, .int .i64 a, .int .i64 z]] w fun e w' => e = .returned (.int .i64 1) ∧ Below w.heap.size w w' := by
  obtain ⟨W, HW⟩ : ∃ W, Hid (W = w.alloc (.cells #[.int .u64 g, .int .i64 a, .int .i64 z] 24)) := ⟨_, rfl⟩
  have HB : Hid (Below w.heap.size w W) := by rw [Hid, HW.out]; exact (Below.refl _ w).alloc (Nat.le_refl _) _
  have HNF : Hid (NoFile W v) := by
    rcases h with h | ⟨p, h1, h2⟩
    · exact .inl h
    · exact .inr ⟨p, h1, (HB.out.cell (World.block_lt_of_cell? w _ h2)).trans h2⟩
  clear h
  go_enter Tryd.func21, Tryd.ntmps21
  go_wp2_with fail
  rw [← HW.out]
  refine (read_no v 0 0 W HNF.out).mono ?_
  rintro e w1 ⟨rfl, hw1⟩
  obtain rfl := hw1.symm
  go_wp2_with fail
  go_ret
  exact ⟨rfl, HB.out⟩

set_option maxHeartbeats 2000000 in
theorem rput_arg {w : World} {B p : Nat} {F : Mdl} {vb vr : Value} {rv : List RawV} (h : PF w B p F vb vr rv) (g a z : Int) (hin : inF a = false ∨ inF z = false) :
    Calls Tryd.prog 21 #[.pointer (some ⟨p, 0, none⟩), .agg #[.int .u64 g, .int .i64 a, .int .i64 z]] w fun e w' => e = .returned (.int .i64 2) ∧ Below w.heap.size w w' := by
  obtain ⟨W, HW⟩ : ∃ W, Hid (W = w.alloc (.cells #[.int .u64 g, .int .i64 a, .int .i64 z] 24)) := ⟨_, rfl⟩
  have HB : Hid (Below w.heap.size w W) := by rw [Hid, HW.out]; exact (Below.refl _ w).alloc (Nat.le_refl _) _
  have HC : Hid (W.heap[w.heap.size]? = some (.cells #[.int .u64 g, .int .i64 a, .int .i64 z] 24 (0, 0))) := by rw [Hid, HW.out]; exact heap_alloc_new w _
  have HR : Hid _ := read_any (h.below HB.out) 0 0 (by omega) (by omega)
  obtain ⟨er, her⟩ : ∃ er, rdErr F 0 0 = er := ⟨_, rfl⟩
  have h1 := rd_none er her
  have h1b : (er == 1) = false := by simpa using h1
  rw [her] at HR
  clear h her
  go_enter Tryd.func21, Tryd.ntmps21
  go_wp2_with fail
  rw [← HW.out]
  refine Calls.mono HR.out ?_
  rintro e w1 ⟨ao, cap, rfl, ho1, hb1⟩
  have HC1 : Hid _ := (hb1.block _ (Array.getElem?_eq_some_iff.1 HC.out).1).trans HC.out
  have HB1 : Hid (Below w.heap.size w w1) := HB.out.trans (hb1.mono HB.out.size)
  clear ho1 hb1 HR
  obtain ⟨c0, c1, c2, _, _, _⟩ := three_cells HC1.out
  go_wp2_with fail
  refine (rBytes_no g a z w1 hin).mono ?_
  rintro e w2 ⟨rfl, hb2⟩
  have HB2 : Hid (Below w.heap.size w w2) := HB1.out.trans (hb2.mono HB1.out.size)
  clear hb2 c0 c1 c2
  go_wp2_with fail
  go_ret
  exact ⟨rfl, HB2.out⟩

theorem alien_from {w w' : World} {B p g n cap o : Nat} {F : Mdl} {vb vr : Value} {rv : List RawV} (h : PF w B p F vb vr rv) (hg : w.heap.size ≤ g) (hl : g < w'.heap.size) : Alien w' p vb vr (.slice (some ⟨g, o, none⟩) n cap) := alien_new h hg hl

set_option maxHeartbeats 4000000 in
theorem rput_any {w : World} {B p : Nat} {F : Mdl} {vb vr : Value} {rv : List RawV} (h : PF w B p F vb vr rv) (hB : B ≤ w.heap.size) (g a z : Int) (hT : Tab w) (hg0 : 0 ≤ g) (hg1 : g < 18446744073709551616) (ha : inF a = true) (hz : inF z = true) (hrv : rv.length ≤ 1000000000) :
    Calls Tryd.prog 21 #[.pointer (some ⟨p, 0, none⟩), .agg #[.int .u64 g, .int .i64 a, .int .i64 z]] w fun e w' => ∃ vb' vr' rv', e = .returned (.int .i64 (wrM F (putAt F g : Nat) (putX F g a z)).1) ∧ PF w' B p (wrM F (putAt F g : Nat) (putX F g a z)).2 vb' vr' rv' ∧ Moved w w' p vb vr rv vb' vr' rv' := by
  obtain ⟨i0, hi, hz0, hz1, hz2⟩ := info_parts Tryd.info5
  have HP : Hid (PF w B p F vb vr rv) := h
  have HT : Hid (Tab w) := hT
  have hA := inF_cases a
  have hZ := inF_cases z
  obtain ⟨a0, a1⟩ : 0 ≤ a ∧ a ≤ 4194304 := by rcases hA with ⟨_, h0, h1⟩ | ⟨h1, _⟩; exact ⟨h0, h1⟩; rw [ha] at h1; cases h1
  obtain ⟨z0, z1⟩ : 0 ≤ z ∧ z ≤ 4194304 := by rcases hZ with ⟨_, h0, h1⟩ | ⟨h1, _⟩; exact ⟨h0, h1⟩; rw [hz] at h1; cases h1
  obtain ⟨W, HW⟩ : ∃ W, Hid (W = w.alloc (.cells #[.int .u64 g, .int .i64 a, .int .i64 z] 24)) := ⟨_, rfl⟩
  have HB0 : Hid (Below w.heap.size w W) := by rw [Hid, HW.out]; exact (Below.refl _ w).alloc (Nat.le_refl _) _
  have HC : Hid (W.heap[w.heap.size]? = some (.cells #[.int .u64 g, .int .i64 a, .int .i64 z] 24 (0, 0))) := by rw [Hid, HW.out]; exact heap_alloc_new w _
  have HR : Hid _ := read_any (h.below HB0.out) 0 0 (by omega) (by omega)
  obtain ⟨er, her⟩ : ∃ er, rdErr F 0 0 = er := ⟨_, rfl⟩
  have h1 := rd_none er her
  have h1b : (er == 1) = false := by simpa using h1
  rw [her] at HR
  obtain ⟨n, HN⟩ : ∃ n, Hid (putN g = n) := ⟨_, rfl⟩
  obtain ⟨fr, HF⟩ : ∃ fr, Hid (putAt F g = fr) := ⟨_, rfl⟩
  obtain ⟨L, HL⟩ : ∃ L, Hid (F.bs.length = L) := ⟨_, rfl⟩
  have hn : n ≤ 32 := by rw [← HN.out]; exact putN_le g hg0
  have hfr : fr = min n L := by rw [← HF.out, ← HN.out, ← HL.out]; rfl
  have HFR : Hid (fr = min n L) := hfr
  have hfn : fr ≤ n := by omega
  have HNG : Hid ((n : Int) = g % 2 * 32) := by rw [Hid, ← HN.out]; unfold putN; omega
  have HX : Hid (putX F g a z = List.replicate (n - fr) 0 ++ rootB g a z) := by unfold Hid putX; rw [HN.out, HF.out]
  have HRB : Hid ((rootB g a z).length = 32) := rootB_length g a z
  have hgm : 0 ≤ g % 2 ∧ g % 2 ≤ 1 := by omega
  rw [HF.out, HX.out]
  clear h hT her hA hZ hfr
  go_enter Tryd.func21, Tryd.ntmps21
  go_wp2_with fail
  rw [← HW.out]
  refine Calls.mono HR.out ?_
  rintro e w1 ⟨ao, cap, rfl, ho1, hb1⟩
  have HC1 : Hid _ := (hb1.block _ (Array.getElem?_eq_some_iff.1 HC.out).1).trans HC.out
  have HB1 : Hid (Below w.heap.size w w1) := HB0.out.trans (hb1.mono HB0.out.size)
  clear ho1 hb1 HR
  obtain ⟨c0, c1, c2, _, _, _⟩ := three_cells HC1.out
  go_wp2_with fail
  refine (rBytes_ok g a z w1 (HT.out.below HB1.out) hg0 hg1 ha hz a0 a1 z0 z1).mono ?_
  rintro e w2 ⟨b2, rfl, hr2, hge2, hb2⟩
  have HR2 : Hid (Row w2 b2 (rootB g a z)) := hr2
  have HB2 : Hid (Below w.heap.size w w2) := HB1.out.trans (hb2.mono HB1.out.size)
  have HC2 : Hid _ := (hb2.block _ (Array.getElem?_eq_some_iff.1 HC1.out).1).trans HC1.out
  clear hr2 hb2 c0 c1 c2 hge2
  obtain ⟨c0, c1, c2, _, _, _⟩ := three_cells HC2.out
  go_wp2_with fail
  refine (slotOf_any g a z w2 hg0 hg1).mono ?_
  rintro e w3 ⟨rfl, hb3⟩
  have HB3 : Hid (Below w.heap.size w w3) := HB2.out.trans (hb3.mono HB2.out.size)
  have HR3 : Hid (Row w3 b2 (rootB g a z)) := HR2.out.below hb3 HR2.out.lt
  clear hb3 c0 c1 c2
  rw [show (g % 2 : Int) = (n : Int) / 32 by have := HNG.out; omega]
  have hmul : ((n : Int) / 32) * 32 = n := by have := HNG.out; omega
  have HLE : Hid _ := len_any (HP.out.below HB3.out)
  rw [HL.out] at HLE
  go_wp2_with fail
  refine Calls.mono HLE.out ?_
  rintro e w4 ⟨rfl, hw4⟩
  obtain rfl := hw4.symm
  clear HLE
  have hcase : (fr = n ∧ (n : Int) ≤ L) ∨ (fr = L ∧ ¬ (n : Int) ≤ L) := by have := HFR.out; omega
  rcases hcase with ⟨hfe, hnl⟩ | ⟨hfe, hnl⟩
  · subst hfe
    obtain ⟨m, HM⟩ : ∃ m, Hid (fr - fr = m) := ⟨_, rfl⟩
    have hm : (fr : Int) - (fr : Int) = (m : Int) := by have := HM.out; omega
    have hm32 : m ≤ 32 := by have := HM.out; omega
    go_wp2_with (first | (at_make; refine wpList_make_bytes _ rfl _ _ 25 rfl i0 Tryd.underlying25 hi hz0 hz1 hz2 _ _ _ _ m rfl rfl (by first | exact hm | omega) (by first | exact hm | omega) (by omega) ?_; intro w5 hr5 hg5; have HO5 : Hid (Own w5 w3.heap.size (.slice (some ⟨w3.heap.size, 0, none⟩) m m) (List.replicate m 0)) := (by have := hr5.own (B := w3.heap.size) (Nat.le_refl _) (by rw [List.length_replicate]; unfold maxLen; omega); rw [List.length_replicate] at this; exact this); have HB5 : Hid (Below w3.heap.size w3 w5) := below_of_grown hg5; have HR5 : Hid (Bs w5 (.slice (some ⟨b2, 0, none⟩) 32 32) (rootB g a z)) := (row_bs HR3.out HRB.out).below (below_of_grown hg5); clear hr5 hg5) | (at_builtin; refine wpList_append_bytes _ rfl (.tmp 39) (.tmp 40) 25 rfl i0 Tryd.underlying25 hi hz0 hz1 hz2 w3.heap.size _ _ (List.replicate m 0) (rootB g a z) rfl rfl HO5.out HR5.out (by rw [List.length_replicate, HRB.out]; omega) w3 HB5.out HB5.out.size ?_; intro a6 c6 w6 ho6 hb6 hg6 _; rw [List.length_replicate, HRB.out] at ho6 hg6 ⊢; have HO6 : Hid (Own w6 w3.heap.size (.slice a6 (m + 32) c6) (List.replicate m 0 ++ rootB g a z)) := ho6; have HB6 : Hid (Below w3.heap.size w3 w6) := hb6; have HG6 : Hid (∃ g, a6 = some ⟨g, 0, none⟩ ∧ w3.heap.size ≤ g ∧ g < w6.heap.size) := hg6 (by omega); clear ho6 hb6 hg6))
    have HBW6 : Hid (Below w.heap.size w w6) := HB3.out.trans (HB6.out.mono HB3.out.size)
    obtain ⟨gb, HGB⟩ : ∃ gb, Hid (a6 = some ⟨gb, 0, none⟩ ∧ w3.heap.size ≤ gb ∧ gb < w6.heap.size) := HG6.out
    have HAL : Hid (Alien w6 p vb vr (.slice a6 (m + 32) c6)) := by
      rw [HGB.out.1]
      exact alien_new (HP.out.below HB3.out) HGB.out.2.1 HGB.out.2.2
    refine (write_any (HP.out.below HBW6.out) (Nat.le_trans hB HBW6.out.size) (fr : Int) (List.replicate m 0 ++ rootB g a z) _ HO6.out.bs (fun _ => HAL.out) hrv (by rw [List.length_append, List.length_replicate, HRB.out]; omega) (by omega)).mono ?_
    rintro e w7 ⟨vb', vr', rv', rfl, hp7, hm7⟩
    go_wp2_with fail
    go_ret
    exact ⟨vb', vr', rv', by rw [HM.out]; rfl, by rw [HM.out]; exact hp7, (Moved.of_below p vb vr rv HBW6.out).trans hm7⟩
  · subst hfe
    obtain ⟨m, HM⟩ : ∃ m, Hid (n - fr = m) := ⟨_, rfl⟩
    have hm : (n : Int) - (fr : Int) = (m : Int) := by have := HM.out; omega
    have hm32 : m ≤ 32 := by have := HM.out; omega
    go_wp2_with (first | (at_make; refine wpList_make_bytes _ rfl _ _ 25 rfl i0 Tryd.underlying25 hi hz0 hz1 hz2 _ _ _ _ m rfl rfl (by first | exact hm | omega) (by first | exact hm | omega) (by omega) ?_; intro w5 hr5 hg5; have HO5 : Hid (Own w5 w3.heap.size (.slice (some ⟨w3.heap.size, 0, none⟩) m m) (List.replicate m 0)) := (by have := hr5.own (B := w3.heap.size) (Nat.le_refl _) (by rw [List.length_replicate]; unfold maxLen; omega); rw [List.length_replicate] at this; exact this); have HB5 : Hid (Below w3.heap.size w3 w5) := below_of_grown hg5; have HR5 : Hid (Bs w5 (.slice (some ⟨b2, 0, none⟩) 32 32) (rootB g a z)) := (row_bs HR3.out HRB.out).below (below_of_grown hg5); clear hr5 hg5) | (at_builtin; refine wpList_append_bytes _ rfl (.tmp 39) (.tmp 40) 25 rfl i0 Tryd.underlying25 hi hz0 hz1 hz2 w3.heap.size _ _ (List.replicate m 0) (rootB g a z) rfl rfl HO5.out HR5.out (by rw [List.length_replicate, HRB.out]; omega) w3 HB5.out HB5.out.size ?_; intro a6 c6 w6 ho6 hb6 hg6 _; rw [List.length_replicate, HRB.out] at ho6 hg6 ⊢; have HO6 : Hid (Own w6 w3.heap.size (.slice a6 (m + 32) c6) (List.replicate m 0 ++ rootB g a z)) := ho6; have HB6 : Hid (Below w3.heap.size w3 w6) := hb6; have HG6 : Hid (∃ g, a6 = some ⟨g, 0, none⟩ ∧ w3.heap.size ≤ g ∧ g < w6.heap.size) := hg6 (by omega); clear ho6 hb6 hg6))
    have HBW6 : Hid (Below w.heap.size w w6) := HB3.out.trans (HB6.out.mono HB3.out.size)
    obtain ⟨gb, HGB⟩ : ∃ gb, Hid (a6 = some ⟨gb, 0, none⟩ ∧ w3.heap.size ≤ gb ∧ gb < w6.heap.size) := HG6.out
    have HAL : Hid (Alien w6 p vb vr (.slice a6 (m + 32) c6)) := by
      rw [HGB.out.1]
      exact alien_new (HP.out.below HB3.out) HGB.out.2.1 HGB.out.2.2
    refine (write_any (HP.out.below HBW6.out) (Nat.le_trans hB HBW6.out.size) (fr : Int) (List.replicate m 0 ++ rootB g a z) _ HO6.out.bs (fun _ => HAL.out) hrv (by rw [List.length_append, List.length_replicate, HRB.out]; omega) (by omega)).mono ?_
    rintro e w7 ⟨vb', vr', rv', rfl, hp7, hm7⟩
    go_wp2_with fail
    go_ret
    exact ⟨vb', vr', rv', by rw [HM.out]; rfl, by rw [HM.out]; exact hp7, (Moved.of_below p vb vr rv HBW6.out).trans hm7⟩
end Go.Proofs.YtkiccnedmejnaaaDoor

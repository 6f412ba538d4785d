/-
  The document's Best. Conditions: the bytes' length is small.
-/
import Derived.Test.YtkiccnedmejnaaaDoorLoadsWalk4
namespace Go.Proofs.YtkiccnedmejnaaaDoor
open Go.RowKit
set_option linter.unusedVariables false
set_option maxRecDepth 100000

theorem best_bad (v : Value) (er : Int) (w : World) (h0 : er ≠ 0)
    (hS : ∀ w1, Below w.heap.size w w1 → Calls Tryd.prog 39 #[v] w1 fun e w' => e = .returned (.tuple #[.agg zero6, .int .i64 er]) ∧ Below w1.heap.size w1 w') :
    Calls Tryd.prog 16 #[v] w fun e w' => e = .returned (.tuple #[.agg #[.int .u64 0, .int .i64 0, .int .i64 0], .bool false, .int .i64 er]) ∧ Below w.heap.size w w' := by
  have HS : Hid _ := hS
  obtain ⟨W1, HW1⟩ : ∃ W1, Hid (W1 = w.alloc (.cells #[.int .u64 0, .int .i64 0, .int .i64 0] 24)) := ⟨_, rfl⟩
  have HB1 : Hid (Below w.heap.size w W1) := by rw [Hid, HW1.out]; exact (Below.refl _ w).alloc (Nat.le_refl _) _
  have HC1 : Hid (W1.heap[w.heap.size]? = some (.cells #[.int .u64 0, .int .i64 0, .int .i64 0] 24 (0, 0))) := by rw [Hid, HW1.out]; exact heap_alloc_new w _
  have hne : (er != 0) = true := by simpa using h0
  clear hS
  go_enter Tryd.func16, Tryd.ntmps16
  go_wp2_with fail
  rw [← HW1.out]
  refine (HS.out _ HB1.out).mono ?_
  rintro e w2 ⟨rfl, hb2⟩
  unfold zero6
  obtain ⟨W2, HW2⟩ : ∃ W2, Hid (W2 = w2.alloc (.cells #[.int .u64 0, .int .i64 0, .int .i64 0, .int .u64 0, .int .i64 0, .int .i64 0] 82)) := ⟨_, rfl⟩
  have HB2 : Hid (Below W1.heap.size W1 W2) := by rw [Hid, HW2.out]; exact hb2.alloc hb2.size _
  have HBW2 : Hid (Below w.heap.size w W2) := HB1.out.trans (HB2.out.mono HB1.out.size)
  have HK0 : Hid _ := (HB2.out.block _ (Array.getElem?_eq_some_iff.1 HC1.out).1).trans HC1.out
  clear hb2
  go_upto_region 2 with fail
  rw [← HW2.out]
  obtain ⟨z0, z1, z2, f0, f1, f2⟩ := three_cells HK0.out
  go_wp2_with fail
  refine bodyPost_ret (v := .tuple #[.agg #[.int .u64 0, .int .i64 0, .int .i64 0], .bool false, .int .i64 er]) ?_ rfl ?_
  · have e0 := three_set HK0.out (.int .u64 0) (.int .i64 0) (.int .i64 0) 0
    have e1 := three_set HK0.out (.int .u64 0) (.int .i64 0) (.int .i64 0) 1
    have e2 := three_set HK0.out (.int .u64 0) (.int .i64 0) (.int .i64 0) 2
    simp at e0 e1 e2
    simp [results, Tryd.f16, go_sem, e0, e1, e2]
  · refine ⟨rfl, ?_⟩
    exact ((HBW2.out.setCell (Nat.le_refl _) _).setCell (Nat.le_refl _) _).setCell (Nat.le_refl _) _

def zg : Option Rt → Int
  | none => 0
  | some r => r.1
def za : Option Rt → Int
  | none => 0
  | some r => r.2.1
def zz : Option Rt → Int
  | none => 0
  | some r => r.2.2
theorem rtZ_eq (o : Option Rt) : rtZ o = .agg #[.int .u64 (zg o), .int .i64 (za o), .int .i64 (zz o)] := by cases o <;> rfl
def zr3 (o : Option Rt) : Array Value := #[.int .u64 (zg o), .int .i64 (za o), .int .i64 (zz o)]

theorem Bs.from {w : World} {ao : Option Addr} {n cap q : Nat} {l : List Int} (h : Bs w (.slice ao n cap) l) (hn : l.length = n) (hq : q < n) : Bs w (.slice (Option.map (fun x => (⟨x.block, x.off + q, none⟩ : Addr)) ao) (n - q) (cap - q)) (l.drop q) := by
  obtain ⟨b, off, cap2, e, hc2, hcell2⟩ := h.opened (by omega)
  injection e with e1 e2 e3
  subst e1 e3
  refine ⟨_, _, by rw [List.length_drop, hn], by rw [List.length_drop]; omega, (fun h => by cases h), fun ad ha i hi => ?_⟩
  rw [List.length_drop] at hi
  obtain rfl := Option.some.inj ha
  have := hcell2 (q + i) (by omega)
  rw [addr_add, show off + q + i = off + (q + i) by omega, this]
  simp [List.getD]
theorem slot_long {l : List Int} {k : Nat} (h : 32 * (k + 1) ≤ l.length) : (l.drop (32 * k)).take 32 = slotX l k ∧ (slotX l k).take 32 = slotX l k ∧ (slotX l k).length = 32 ∧ 32 ≤ (l.drop (32 * k)).length := by
  have e : (l.drop (32 * k)).take 32 = slotX l k := by unfold slotX; rw [if_pos h]
  have hl : (slotX l k).length = 32 := by rw [← e, List.length_take, List.length_drop]; omega
  exact ⟨e, List.take_of_length_le (by omega), hl, by rw [List.length_drop]; omega⟩
/-- What a slot's bytes that are there tell. -/
theorem slot_tells {l : List Int} {k : Nat} (h : 32 * (k + 1) ≤ l.length) : ∃ G A Z E : Int, lR (l.drop (32 * k)) = .agg #[.int .u64 G, .int .i64 A, .int .i64 Z] ∧ lE (l.drop (32 * k)) = E ∧ (E = 0 ∧ G % 2 = k → slotR l k = some (G, A, Z)) ∧ (¬ (E = 0 ∧ G % 2 = k) → slotR l k = none) := by
  obtain ⟨e1, e2, e3, e4⟩ := slot_long h
  obtain ⟨r1, r2⟩ := lR_long e4
  rw [e1] at r1 r2
  rw [r1, r2]
  unfold ldRoot ldErr
  cases hr : isRt (slotX l k)
  · refine ⟨0, 0, 0, 5, rfl, rfl, (fun h => by cases h.1), fun _ => ?_⟩
    unfold slotR ownR; rw [e2, if_neg (fun h => by rw [hr] at h; cases h.2.1)]
  · refine ⟨_, _, _, 0, rfl, rfl, (fun h => ?_), fun h => ?_⟩
    · unfold slotR ownR; rw [e2, if_pos ⟨by omega, hr, h.2⟩]
    · unfold slotR ownR; rw [e2, if_neg (fun h2 => h ⟨rfl, h2.2.2⟩)]

set_option maxHeartbeats 4000000 in
theorem refBest_any (v : Value) (l : List Int) (w : World) (hl : Bs w v l) (hb : l.length ≤ 1000) (hby : Byt l) :
    Calls Tryd.prog 17 #[v] w fun e w' => e = .returned (.tuple #[rtZ (bestR l), .bool (bestR l).isSome]) ∧ Below w.heap.size w w' := by
  have HL : Hid (Bs w v l) := hl
  have HBY : Hid (Byt l) := hby
  obtain ⟨n, HN⟩ : ∃ n, Hid (l.length = n) := ⟨_, rfl⟩
  obtain ⟨ao, cap, rfl, hc, _⟩ := hl
  rw [HN.out] at HL hc hb ⊢
  obtain ⟨o0, HO0⟩ : ∃ o, Hid (slotR l 0 = o) := ⟨_, rfl⟩
  obtain ⟨o1, HO1⟩ : ∃ o, Hid (slotR l 1 = o) := ⟨_, rfl⟩
  have HBR : Hid (bestR l = bestO o0 o1) := by unfold Hid bestR; rw [HO0.out, HO1.out]
  obtain ⟨W1, HW1⟩ : ∃ W1, Hid (W1 = (w.alloc (.cells #[.int .u64 0, .int .i64 0, .int .i64 0] 31)).alloc (.cells #[.int .u64 0, .int .i64 0, .int .i64 0] 31)) := ⟨_, rfl⟩
  have HB1 : Hid (Below w.heap.size w W1) := by rw [Hid, HW1.out]; exact ((Below.refl _ w).alloc (Nat.le_refl _) _).alloc (by simp) _
  have HC0 : Hid (W1.heap[w.heap.size]? = some (.cells #[.int .u64 0, .int .i64 0, .int .i64 0] 31 (0, 0))) := by
    rw [Hid, HW1.out, Below.heap_alloc _ _ _ (by simp)]; exact heap_alloc_new w _
  have HC1 : Hid (W1.heap[w.heap.size + 1]? = some (.cells #[.int .u64 0, .int .i64 0, .int .i64 0] 31 (0, 0))) := by
    rw [Hid, HW1.out]
    have := heap_alloc_new (w.alloc (.cells #[.int .u64 0, .int .i64 0, .int .i64 0] 31)) (.cells #[.int .u64 0, .int .i64 0, .int .i64 0] 31)
    simpa using this
  clear hby
  rw [HBR.out, rtZ_eq]
  go_enter Tryd.func17, Tryd.ntmps17
  go_upto_region 2 with fail
  rw [← HW1.out]
  go_wp2_with fail
  go_loopw [5, 6] (fun q i wr => ∃ k : Nat, k ≤ 2 ∧ i = .int .i64 (k : Int) ∧ q = .bool (bk o0 o1 k).isSome ∧ Hid (wr.heap[w.heap.size + 1]? = some (.cells (zr3 (bk o0 o1 k)) 31 (0, 0))) ∧ Hid (wr.heap[w.heap.size]? = some (.cells #[.int .u64 0, .int .i64 0, .int .i64 0] 31 (0, 0))) ∧ Hid (Below w.heap.size w wr)) (fun _ i _ => 2 - (intOf i).toNat)
  case atStart => exact ⟨0, by omega, rfl, rfl, HC1.out, HC0.out, HB1.out⟩
  case round =>
    obtain ⟨k, hk, rfl, rfl, HK1, HK0, HB⟩ := hrel
    by_cases hlt : k < 2
    · by_cases hsh : (n : Int) < 32 * ((k : Int) + 1)
      · have HNO : Hid (elk o0 o1 k = none) := by
          have hx : slotX l k = [] := by unfold slotX; rw [if_neg (by rw [HN.out]; omega)]
          have hs : slotR l k = none := by unfold slotR; rw [hx]; unfold ownR; rw [if_neg (fun h => by simp at h)]
          rcases (show k = 0 ∨ k = 1 by omega) with rfl | rfl
          · exact HO0.out.symm.trans hs
          · exact HO1.out.symm.trans hs
        have HNX : Hid (bk o0 o1 (k + 1) = bk o0 o1 k) := by
          rw [Hid, ← bk_next o0 o1 k hlt, HNO.out]
          generalize bk o0 o1 k = x
          cases x <;> rfl
        go_wp2_with fail
        go_roundw
        case rel => exact ⟨k + 1, by omega, by simp, by rw [HNX.out], by rw [HNX.out]; exact HK1.out, HK0.out, HB.out⟩
        case measure => simp [intOf]; omega
      · rcases (show k = 0 ∨ k = 1 by omega) with rfl | rfl
        · obtain ⟨G, A, Z, E, r1, r2, hyes, hnot⟩ := slot_tells (l := l) (k := 0) (by rw [HN.out]; omega)
          have HYES : Hid (E = 0 ∧ G % 2 = (0 : Int) → o0 = some (G, A, Z)) := fun h => HO0.out.symm.trans (hyes h)
          have HNOT : Hid (¬ (E = 0 ∧ G % 2 = (0 : Int)) → o0 = none) := fun h => HO0.out.symm.trans (hnot h)
          have HDB : Hid (Byt (l.drop (32 * 0))) := fun i => by have := HBY.out (32 * 0 + i); simpa [List.getD] using this
          have hG0 : 0 ≤ G := by
            have e : lG (l.drop (32 * 0)) = G := by unfold lR at r1; simp at r1; exact r1.1
            rw [← e]; unfold lG; split
            · exact (ldG_bounds (byt_left HDB.out 32)).1
            · omega
          have HLD : Hid _ := refLoad4_any _ (l.drop (32 * 0)) wr (show Bs wr (.slice ao n cap) (l.drop (32 * 0)) from HL.out.below HB.out) (by rw [List.length_drop, HN.out]; omega) HDB.out
          rw [r1, r2] at HLD
          have HNXS : Hid (bestO (bk o0 o1 0) o0 = bk o0 o1 (0 + 1)) := bk_next o0 o1 0 (by omega)
          have hGm : G.tmod 2 = G % 2 := Int.tmod_eq_emod_of_nonneg hG0
          clear hyes hnot r1 r2
          obtain ⟨BO, HBO⟩ : ∃ BO, Hid (bk o0 o1 0 = BO) := ⟨_, rfl⟩
          rw [HBO.out] at HK1 HNXS ⊢
          go_wp2_with fail
          refine Calls.mono HLD.out ?_
          rintro e w2 ⟨rfl, hb2⟩
          obtain ⟨W3, HW3⟩ : ∃ W3, Hid (W3 = w2.alloc (.cells #[.int .u64 G, .int .i64 A, .int .i64 Z] 31)) := ⟨_, rfl⟩
          have HC3 : Hid (W3.heap[w2.heap.size]? = some (.cells #[.int .u64 G, .int .i64 A, .int .i64 Z] 31 (0, 0))) := by rw [Hid, HW3.out]; exact heap_alloc_new _ _
          have HB3 : Hid (Below wr.heap.size wr W3) := by rw [Hid, HW3.out]; exact hb2.alloc hb2.size _
          have HBW3 : Hid (Below w.heap.size w W3) := HB.out.trans (HB3.out.mono HB.out.size)
          have HK13 : Hid _ := (HB3.out.block _ (Array.getElem?_eq_some_iff.1 HK1.out).1).trans HK1.out
          have HK03 : Hid _ := (HB3.out.block _ (Array.getElem?_eq_some_iff.1 HK0.out).1).trans HK0.out
          clear hb2 HLD
          go_upto_region 7 with fail
          rw [← HW3.out]
          obtain ⟨d0, d1, d2, _, _, _⟩ := three_cells HC3.out
          by_cases hE : E = 0
          · subst hE
            by_cases hG : G % 2 = (0 : Int)
            · have HEL : Hid (o0 = some (G, A, Z)) := HYES.out (by first | exact ⟨rfl, hG⟩ | exact ⟨trivial, hG⟩ | exact hG)
              cases BO with
              | none =>
                obtain ⟨c0, c1, c2, f0, f1, f2⟩ := three_cells (show W3.heap[w.heap.size + 1]? = some (.cells #[.int .u64 0, .int .i64 0, .int .i64 0] 31 (0, 0)) from HK13.out)
                have HST : Hid (bk o0 o1 (0 + 1) = some (G, A, Z)) := by rw [Hid, ← HNXS.out, HEL.out]; rfl
                go_wp2_with fail
                go_roundw
                case rel =>
                  refine ⟨1, by omega, by simp, ?_, ?_, ?_, ?_⟩
                  · rw [show bk o0 o1 1 = some (G, A, Z) from HST.out]; rfl
                  · rw [show bk o0 o1 1 = some (G, A, Z) from HST.out]
                    exact heap_set3 W3 (w.heap.size + 1) 0 1 2 _ _ _ _ _ HK13.out
                  · unfold Hid
                    rw [Below.heap_setCell _ _ _ _ (by simp), Below.heap_setCell _ _ _ _ (by simp), Below.heap_setCell _ _ _ _ (by simp)]
                    exact HK03.out
                  · exact ((HBW3.out.setCell (by simp) _).setCell (by simp) _).setCell (by simp) _
                case measure => simp [intOf]
              | some r =>
                obtain ⟨bg, ba, bz⟩ := r
                obtain ⟨c0, c1, c2, f0, f1, f2⟩ := three_cells (show W3.heap[w.heap.size + 1]? = some (.cells #[.int .u64 bg, .int .i64 ba, .int .i64 bz] 31 (0, 0)) from HK13.out)
                by_cases hgt : bg < G
                · have HST : Hid (bk o0 o1 (0 + 1) = some (G, A, Z)) := by rw [Hid, ← HNXS.out, HEL.out]; simp only [bestO]; rw [if_pos hgt]
                  go_wp2_with fail
                  go_roundw
                  case rel =>
                    refine ⟨1, by omega, by simp, ?_, ?_, ?_, ?_⟩
                    · rw [show bk o0 o1 1 = some (G, A, Z) from HST.out]; rfl
                    · rw [show bk o0 o1 1 = some (G, A, Z) from HST.out]
                      exact heap_set3 W3 (w.heap.size + 1) 0 1 2 _ _ _ _ _ HK13.out
                    · unfold Hid
                      rw [Below.heap_setCell _ _ _ _ (by simp), Below.heap_setCell _ _ _ _ (by simp), Below.heap_setCell _ _ _ _ (by simp)]
                      exact HK03.out
                    · exact ((HBW3.out.setCell (by simp) _).setCell (by simp) _).setCell (by simp) _
                  case measure => simp [intOf]
                · have HST : Hid (bk o0 o1 (0 + 1) = some (bg, ba, bz)) := by rw [Hid, ← HNXS.out, HEL.out]; simp only [bestO]; rw [if_neg hgt]
                  go_wp2_with fail
                  go_roundw
                  case rel =>
                    refine ⟨1, by omega, by simp, ?_, ?_, ?_, ?_⟩
                    · rw [show bk o0 o1 1 = some (bg, ba, bz) from HST.out]
                    · rw [show bk o0 o1 1 = some (bg, ba, bz) from HST.out]; exact HK13.out
                    · exact HK03.out
                    · exact HBW3.out
                  case measure => simp [intOf]
            · have HEL : Hid (o0 = none) := HNOT.out (by first | exact (fun h => hG h.2) | exact (fun h => hG h) | exact (fun _ h => hG h) | simp [hG])
              have HST : Hid (bk o0 o1 (0 + 1) = BO) := by rw [Hid, ← HNXS.out, HEL.out]; first | done | (cases BO <;> rfl)
              have hG2 : (G % 2 == (0 : Int)) = false := by simpa using hG
              go_wp2_with fail
              go_roundw
              case rel =>
                refine ⟨1, by omega, by simp, ?_, ?_, ?_, ?_⟩
                · rw [show bk o0 o1 1 = BO from HST.out]
                · rw [show bk o0 o1 1 = BO from HST.out]; exact HK13.out
                · exact HK03.out
                · exact HBW3.out
              case measure => simp [intOf]
          · have HEL : Hid (o0 = none) := HNOT.out (by first | exact (fun h => hE h.1) | simp [hE])
            have HST : Hid (bk o0 o1 (0 + 1) = BO) := by rw [Hid, ← HNXS.out, HEL.out]; first | done | (cases BO <;> rfl)
            have hE2 : (E == 0) = false := by simpa using hE
            go_wp2_with fail
            go_roundw
            case rel =>
              refine ⟨1, by omega, by simp, ?_, ?_, ?_, ?_⟩
              · rw [show bk o0 o1 1 = BO from HST.out]
              · rw [show bk o0 o1 1 = BO from HST.out]; exact HK13.out
              · exact HK03.out
              · exact HBW3.out
            case measure => simp [intOf]
        · obtain ⟨G, A, Z, E, r1, r2, hyes, hnot⟩ := slot_tells (l := l) (k := 1) (by rw [HN.out]; omega)
          have HYES : Hid (E = 0 ∧ G % 2 = (1 : Int) → o1 = some (G, A, Z)) := fun h => HO1.out.symm.trans (hyes h)
          have HNOT : Hid (¬ (E = 0 ∧ G % 2 = (1 : Int)) → o1 = none) := fun h => HO1.out.symm.trans (hnot h)
          have HDB : Hid (Byt (l.drop (32 * 1))) := fun i => by have := HBY.out (32 * 1 + i); simpa [List.getD] using this
          have hG0 : 0 ≤ G := by
            have e : lG (l.drop (32 * 1)) = G := by unfold lR at r1; simp at r1; exact r1.1
            rw [← e]; unfold lG; split
            · exact (ldG_bounds (byt_left HDB.out 32)).1
            · omega
          have HLD : Hid _ := refLoad4_any _ (l.drop (32 * 1)) wr ((HL.out.below HB.out).from (q := 32) HN.out (by omega)) (by rw [List.length_drop, HN.out]; omega) HDB.out
          rw [r1, r2] at HLD
          have HNXS : Hid (bestO (bk o0 o1 1) o1 = bk o0 o1 (1 + 1)) := bk_next o0 o1 1 (by omega)
          have hGm : G.tmod 2 = G % 2 := Int.tmod_eq_emod_of_nonneg hG0
          clear hyes hnot r1 r2
          obtain ⟨BO, HBO⟩ : ∃ BO, Hid (bk o0 o1 1 = BO) := ⟨_, rfl⟩
          rw [HBO.out] at HK1 HNXS ⊢
          go_wp2_with fail
          refine Calls.mono HLD.out ?_
          rintro e w2 ⟨rfl, hb2⟩
          obtain ⟨W3, HW3⟩ : ∃ W3, Hid (W3 = w2.alloc (.cells #[.int .u64 G, .int .i64 A, .int .i64 Z] 31)) := ⟨_, rfl⟩
          have HC3 : Hid (W3.heap[w2.heap.size]? = some (.cells #[.int .u64 G, .int .i64 A, .int .i64 Z] 31 (0, 0))) := by rw [Hid, HW3.out]; exact heap_alloc_new _ _
          have HB3 : Hid (Below wr.heap.size wr W3) := by rw [Hid, HW3.out]; exact hb2.alloc hb2.size _
          have HBW3 : Hid (Below w.heap.size w W3) := HB.out.trans (HB3.out.mono HB.out.size)
          have HK13 : Hid _ := (HB3.out.block _ (Array.getElem?_eq_some_iff.1 HK1.out).1).trans HK1.out
          have HK03 : Hid _ := (HB3.out.block _ (Array.getElem?_eq_some_iff.1 HK0.out).1).trans HK0.out
          clear hb2 HLD
          go_upto_region 7 with fail
          rw [← HW3.out]
          obtain ⟨d0, d1, d2, _, _, _⟩ := three_cells HC3.out
          by_cases hE : E = 0
          · subst hE
            by_cases hG : G % 2 = (1 : Int)
            · have HEL : Hid (o1 = some (G, A, Z)) := HYES.out (by first | exact ⟨rfl, hG⟩ | exact ⟨trivial, hG⟩ | exact hG)
              cases BO with
              | none =>
                obtain ⟨c0, c1, c2, f0, f1, f2⟩ := three_cells (show W3.heap[w.heap.size + 1]? = some (.cells #[.int .u64 0, .int .i64 0, .int .i64 0] 31 (0, 0)) from HK13.out)
                have HST : Hid (bk o0 o1 (1 + 1) = some (G, A, Z)) := by rw [Hid, ← HNXS.out, HEL.out]; rfl
                go_wp2_with fail
                go_roundw
                case rel =>
                  refine ⟨2, by omega, by simp, ?_, ?_, ?_, ?_⟩
                  · rw [show bk o0 o1 2 = some (G, A, Z) from HST.out]; rfl
                  · rw [show bk o0 o1 2 = some (G, A, Z) from HST.out]
                    exact heap_set3 W3 (w.heap.size + 1) 0 1 2 _ _ _ _ _ HK13.out
                  · unfold Hid
                    rw [Below.heap_setCell _ _ _ _ (by simp), Below.heap_setCell _ _ _ _ (by simp), Below.heap_setCell _ _ _ _ (by simp)]
                    exact HK03.out
                  · exact ((HBW3.out.setCell (by simp) _).setCell (by simp) _).setCell (by simp) _
                case measure => simp [intOf]
              | some r =>
                obtain ⟨bg, ba, bz⟩ := r
                obtain ⟨c0, c1, c2, f0, f1, f2⟩ := three_cells (show W3.heap[w.heap.size + 1]? = some (.cells #[.int .u64 bg, .int .i64 ba, .int .i64 bz] 31 (0, 0)) from HK13.out)
                by_cases hgt : bg < G
                · have HST : Hid (bk o0 o1 (1 + 1) = some (G, A, Z)) := by rw [Hid, ← HNXS.out, HEL.out]; simp only [bestO]; rw [if_pos hgt]
                  go_wp2_with fail
                  go_roundw
                  case rel =>
                    refine ⟨2, by omega, by simp, ?_, ?_, ?_, ?_⟩
                    · rw [show bk o0 o1 2 = some (G, A, Z) from HST.out]; rfl
                    · rw [show bk o0 o1 2 = some (G, A, Z) from HST.out]
                      exact heap_set3 W3 (w.heap.size + 1) 0 1 2 _ _ _ _ _ HK13.out
                    · unfold Hid
                      rw [Below.heap_setCell _ _ _ _ (by simp), Below.heap_setCell _ _ _ _ (by simp), Below.heap_setCell _ _ _ _ (by simp)]
                      exact HK03.out
                    · exact ((HBW3.out.setCell (by simp) _).setCell (by simp) _).setCell (by simp) _
                  case measure => simp [intOf]
                · have HST : Hid (bk o0 o1 (1 + 1) = some (bg, ba, bz)) := by rw [Hid, ← HNXS.out, HEL.out]; simp only [bestO]; rw [if_neg hgt]
                  go_wp2_with fail
                  go_roundw
                  case rel =>
                    refine ⟨2, by omega, by simp, ?_, ?_, ?_, ?_⟩
                    · rw [show bk o0 o1 2 = some (bg, ba, bz) from HST.out]
                    · rw [show bk o0 o1 2 = some (bg, ba, bz) from HST.out]; exact HK13.out
                    · exact HK03.out
                    · exact HBW3.out
                  case measure => simp [intOf]
            · have HEL : Hid (o1 = none) := HNOT.out (by first | exact (fun h => hG h.2) | exact (fun h => hG h) | exact (fun _ h => hG h) | simp [hG])
              have HST : Hid (bk o0 o1 (1 + 1) = BO) := by rw [Hid, ← HNXS.out, HEL.out]; first | done | (cases BO <;> rfl)
              have hG2 : (G % 2 == (1 : Int)) = false := by simpa using hG
              go_wp2_with fail
              go_roundw
              case rel =>
                refine ⟨2, by omega, by simp, ?_, ?_, ?_, ?_⟩
                · rw [show bk o0 o1 2 = BO from HST.out]
                · rw [show bk o0 o1 2 = BO from HST.out]; exact HK13.out
                · exact HK03.out
                · exact HBW3.out
              case measure => simp [intOf]
          · have HEL : Hid (o1 = none) := HNOT.out (by first | exact (fun h => hE h.1) | simp [hE])
            have HST : Hid (bk o0 o1 (1 + 1) = BO) := by rw [Hid, ← HNXS.out, HEL.out]; first | done | (cases BO <;> rfl)
            have hE2 : (E == 0) = false := by simpa using hE
            go_wp2_with fail
            go_roundw
            case rel =>
              refine ⟨2, by omega, by simp, ?_, ?_, ?_, ?_⟩
              · rw [show bk o0 o1 2 = BO from HST.out]
              · rw [show bk o0 o1 2 = BO from HST.out]; exact HK13.out
              · exact HK03.out
              · exact HBW3.out
            case measure => simp [intOf]
    · obtain rfl : k = 2 := by omega
      have HK2 : Hid (wr.heap[w.heap.size + 1]? = some (.cells (zr3 (bestO o0 o1)) 31 (0, 0))) := HK1.out
      obtain ⟨BO, HBO⟩ : ∃ BO, Hid (bestO o0 o1 = BO) := ⟨_, rfl⟩
      have HBK : Hid (bk o0 o1 2 = BO) := HBO.out
      rw [HBO.out] at HK2
      rw [HBK.out]
      clear HK1
      unfold zr3 at HK2
      obtain ⟨G, HG⟩ : ∃ x, Hid (zg BO = x) := ⟨_, rfl⟩
      obtain ⟨A, HA⟩ : ∃ x, Hid (za BO = x) := ⟨_, rfl⟩
      obtain ⟨Z, HZ⟩ : ∃ x, Hid (zz BO = x) := ⟨_, rfl⟩
      rw [HG.out, HA.out, HZ.out] at HK2
      obtain ⟨q, Hq⟩ : ∃ q, Hid (BO.isSome = q) := ⟨_, rfl⟩
      rw [Hq.out]
      obtain ⟨c0, c1, c2, _, _, _⟩ := three_cells HK2.out
      obtain ⟨z0, z1, z2, f0, f1, f2⟩ := three_cells HK0.out
      go_wp2_with fail
      refine bodyPost_ret (v := .tuple #[.agg #[.int .u64 G, .int .i64 A, .int .i64 Z], .bool q]) ?_ rfl ?_
      · have e0 := three_set HK0.out (.int .u64 G) (.int .i64 A) (.int .i64 Z) 0
        have e1 := three_set HK0.out (.int .u64 G) (.int .i64 A) (.int .i64 Z) 1
        have e2 := three_set HK0.out (.int .u64 G) (.int .i64 A) (.int .i64 Z) 2
        simp at e0 e1 e2
        simp [results, Tryd.f17, go_sem, e0, e1, e2]
      · refine ⟨by rw [HBO.out, HG.out, HA.out, HZ.out, Hq.out], ?_⟩
        exact ((HB.out.setCell (Nat.le_refl _) _).setCell (Nat.le_refl _) _).setCell (Nat.le_refl _) _
end Go.Proofs.YtkiccnedmejnaaaDoor

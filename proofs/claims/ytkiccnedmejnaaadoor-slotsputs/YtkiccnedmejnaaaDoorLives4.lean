/-
  The law's lives and plain. Conditions: the two listed variables stand.
-/
import Derived.Test.YtkiccnedmejnaaaDoorRootMath
namespace Go.Proofs.YtkiccnedmejnaaaDoor
open Go.RowKit
set_option linter.unusedVariables false
set_option maxRecDepth 100000

theorem best_on {w : World} {B p : Nat} {F : Mdl} {vb vr : Value} {rv : List RawV} (h : PF w B p F vb vr rv) (ho : F.off = false) (hS : Sl w) (hby : Byt F.bs) :
    Calls Tryd.prog 16 #[.pointer (some ⟨p, 0, none⟩)] w fun e w' => e = .returned (.tuple #[rtZ (bestR F.bs), .bool (bestR F.bs).isSome, .int .i64 0]) ∧ Below w.heap.size w w' :=
  best_go _ (slotR F.bs 0) (slotR F.bs 1) w hS.nor (fun r hr => (ownR_some (slotX_byt hby 0) hr).2.1.1) (fun r hr => (ownR_some (slotX_byt hby 1) hr).2.1.1) (fun w1 hb1 => standing_on (h.below hb1) ho (hS.below hb1) hby)

theorem plain4_any (g a z : Int) (w : World) :
    Calls Tryd.prog 11 #[.agg #[.int .u64 g, .int .i64 a, .int .i64 z]] w fun e w' => e = .returned (.agg #[.int .u64 g, .int .i64 a, .int .i64 z]) ∧ Below w.heap.size w w' := by
  obtain ⟨W, HW⟩ : ∃ W, Hid (W = (w.alloc (.cells #[.int .u64 g, .int .i64 a, .int .i64 z] 24)).alloc (.cells #[.int .u64 0, .int .i64 0, .int .i64 0] 31)) := ⟨_, rfl⟩
  have HB : Hid (Below w.heap.size w W) := by rw [Hid, HW.out]; exact ((Below.refl _ w).alloc (Nat.le_refl _) _).alloc (by simp) _
  have q0 : W.heap[w.heap.size]? = some (.cells #[.int .u64 g, .int .i64 a, .int .i64 z] 24 (0, 0)) := by
    rw [HW.out, Below.heap_alloc _ _ _ (by simp)]; exact heap_alloc_new w _
  have q1 : W.heap[w.heap.size + 1]? = some (.cells #[.int .u64 0, .int .i64 0, .int .i64 0] 31 (0, 0)) := by
    rw [HW.out]
    have := heap_alloc_new (w.alloc (.cells #[.int .u64 g, .int .i64 a, .int .i64 z] 24)) (.cells #[.int .u64 0, .int .i64 0, .int .i64 0] 31)
    simpa using this
  obtain ⟨a0, a1, a2, _, _, _⟩ := three_cells q0
  obtain ⟨d0, d1, d2, f0, f1, f2⟩ := three_cells q1
  have HQ : Hid _ := q1
  clear q0 q1
  go_enter Tryd.func11, Tryd.ntmps11
  go_upto_region 1 with fail
  rw [← HW.out]
  go_wp2
  refine bodyPost_ret (v := .agg #[.int .u64 g, .int .i64 a, .int .i64 z]) ?_ rfl ?_
  · have d0 := three_set HQ.out (.int .u64 g) (.int .i64 a) (.int .i64 z) 0
    have d1 := three_set HQ.out (.int .u64 g) (.int .i64 a) (.int .i64 z) 1
    have d2 := three_set HQ.out (.int .u64 g) (.int .i64 a) (.int .i64 z) 2
    simp at d0 d1 d2
    simp [results, Tryd.f11, go_sem, d0, d1, d2]
  · exact ⟨rfl, ((HB.out.setCell (by simp) _).setCell (by simp) _).setCell (by simp) _⟩

theorem byt_zeros (n : Nat) : Byt (List.replicate n 0) := fun i => by
  rw [List.getD, List.getElem?_replicate]
  split <;> simp
theorem putX_byt (F : Mdl) (g a z : Int) : Byt (putX F g a z) := byt_append (byt_zeros _) (rootB_byt g a z)

/-- What lives puts. -/
theorem lives4_put : ∃ F', wrM (newM [] 100) (putAt (newM [] 100) 1 : Nat) (putX (newM [] 100) 1 64 9) = (0, F') ∧ F'.bs = List.replicate 32 0 ++ rootB 1 64 9 ∧ F'.off = false := by
  have hx : putX (newM [] 100) 1 64 9 = List.replicate 32 0 ++ rootB 1 64 9 := rfl
  have ha : putAt (newM [] 100) 1 = 0 := rfl
  rw [hx, ha]
  have hl : (List.replicate 32 0 ++ rootB 1 64 9).length = 64 := by rw [List.length_append, List.length_replicate, rootB_length]
  obtain ⟨F', h1, h2, _, h4, _⟩ := wrM_plain (F := newM [] 100) (q := 0) (x := List.replicate 32 0 ++ rootB 1 64 9) rfl rfl (Nat.zero_le _) (by rw [hl]; show (64 : Int) ≤ 100 - 0; omega)
  refine ⟨F', h1, ?_, h4⟩
  rw [h2]
  simp [layN, newM]
theorem lives4_best : bestR (List.replicate 32 0 ++ rootB 1 64 9) = some (1, 64, 9) := by
  have h0 : slotR (List.replicate 32 0 ++ rootB 1 64 9) 0 = none := by
    unfold slotR slotX
    rw [if_pos (by rw [List.length_append, List.length_replicate, rootB_length]; omega)]
    refine ownR_other _ ?_
    simp
  have h1 : slotR (List.replicate 32 0 ++ rootB 1 64 9) 1 = some (1, 64, 9) := by
    unfold slotR slotX
    rw [if_pos (by rw [List.length_append, List.length_replicate, rootB_length]; omega), show (List.replicate 32 (0 : Int) ++ rootB 1 64 9).drop (32 * 1) = rootB 1 64 9 from List.drop_left' (by simp), root_take]
    exact ownR_root (by omega) (by omega) (by omega) (by omega) (by omega) (by omega) (by rfl)
  unfold bestR
  rw [h0, h1]
  rfl

set_option maxHeartbeats 2000000 in
theorem lives4_any (w : World) (hS : Sl w) : Calls Tryd.prog 12 #[] w fun e w' => e = .returned (.bool true) ∧ Below w.heap.size w w' := by
  have HS : Hid (Sl w) := hS
  clear hS
  go_enter Tryd.func12, Tryd.ntmps12
  go_wp2_with fail
  refine (new_some 100 w (by omega) (by omega)).mono ?_
  rintro e w1 ⟨p, vb, rfl, hp1, hb1⟩
  have HP1 : Hid (PF w1 w.heap.size p (newM [] 100) vb (.slice none 0 0) []) := hp1
  have HB1 : Hid (Below w.heap.size w w1) := hb1
  clear hp1 hb1
  obtain ⟨F', hw, hbs, hoff⟩ := lives4_put
  have HPU : Hid _ := rput_any HP1.out HB1.out.size 1 64 9 (HS.out.below HB1.out).tab (by omega) (by omega) rfl rfl (by simp)
  rw [hw] at HPU
  have HBS : Hid (F'.bs = List.replicate 32 0 ++ rootB 1 64 9) := hbs
  have HOF : Hid (F'.off = false) := hoff
  have HLN : Hid (F'.bs.length = 64) := by unfold Hid; rw [hbs, List.length_append, List.length_replicate, rootB_length]
  clear hw hbs hoff
  go_wp2_with fail
  refine Calls.mono HPU.out ?_
  rintro e w2 ⟨vb2, vr2, rv2, rfl, hp2, hm2⟩
  have HP2 : Hid (PF w2 w.heap.size p F' vb2 vr2 rv2) := hp2
  have HB2 : Hid (Below w.heap.size w w2) := HB1.out.trans (hm2.below HP1.out HB1.out.size)
  clear hp2 hm2 HPU
  have HLE : Hid _ := len_any HP2.out
  rw [HLN.out] at HLE
  go_wp2_with fail
  refine Calls.mono HLE.out ?_
  rintro e w3 ⟨rfl, hw3⟩
  obtain rfl := hw3.symm
  have HBE : Hid _ := best_on HP2.out HOF.out (HS.out.below HB2.out) (by rw [HBS.out]; exact byt_append (byt_zeros _) (rootB_byt _ _ _))
  rw [HBS.out, lives4_best, show rtZ (some ((1 : Int), (64 : Int), (9 : Int))) = .agg #[.int .u64 1, .int .i64 64, .int .i64 9] from rfl, show (some ((1 : Int), (64 : Int), (9 : Int))).isSome = true from rfl] at HBE
  clear HLE
  go_wp2_with fail
  refine Calls.mono HBE.out ?_
  rintro e w4 ⟨rfl, hb4⟩
  have HB4 : Hid (Below w.heap.size w w4) := HB2.out.trans (hb4.mono HB2.out.size)
  clear hb4 HBE
  go_wp2_with fail
  go_ret
  exact ⟨rfl, HB4.out.alloc HB4.out.size _⟩
end Go.Proofs.YtkiccnedmejnaaaDoor

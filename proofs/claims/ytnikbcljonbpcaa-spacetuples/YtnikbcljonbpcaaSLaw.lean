/-
  Count, Check, the laws' own small functions, and that the program lives. No conditions.
-/
import Derived.Test.YtnikbcljonbpcaaSPl
import Derived.Laws.Rows
namespace Go.Proofs.Ytnikbcljonbpcaa
open Go.RowKit Go.Shelf
set_option linter.unusedVariables false
set_option maxRecDepth 100000

def cnN (D : List Int) (s : Sel) : Int := if slE D s = 0 then slN D s else 0
theorem count_any (D : List Int) (s : Sel) (vd : Value) (V : SV) (w : World) (hD : Is w vd D) (hS : Ss w V s) : Calls Try.prog 14 #[vd, selV s.kind V] w fun e w' => e = .returned (.tuple #[.int .i64 (cnN D s), .int .i64 (slE D s)]) ∧ Below w.heap.size w w' := by
  obtain ⟨ao, n, cap, rfl, hn, hc, hb⟩ := hD.open
  obtain ⟨a0, n0, c0, a1, n1, c1, a2, n2, c2, a3, n3, c3, a4, n4, c4, e, hV⟩ := selV_open hS
  obtain ⟨W1, hW1, hb1, hz1, b0, b1, b2, b3, b4, b5⟩ := box_sel w s.kind (.slice a0 n0 c0) (.slice a1 n1 c1) (.slice a2 n2 c2) (.slice a3 n3 c3) (.slice a4 n4 c4)
  have HB1 : Hid (Below w.heap.size w W1) := hb1
  have HCS : Hid (Calls Try.prog 26 #[.slice ao n cap, .agg #[.int .i64 s.kind, .slice a0 n0 c0, .slice a1 n1 c1, .slice a2 n2 c2, .slice a3 n3 c3, .slice a4 n4 c4]] W1 (SlP W1 D s)) := by
    have := selected_any D s _ V W1 (hD.below hb1) (hS.below hb1)
    rwa [e] at this
  rw [e]
  clear hD hS hn hb1 e hV
  go_enter Try.func14, Try.ntmps14
  go_wp2_with (go_at_call 26; refine Calls.mono HCS.out ?_; intro e w2 hp; obtain ⟨kk, it, rfl, hb2, han⟩ := SlP.un hp; have HAN : Hid (An (slE D s) kk it (slN D s) (fun it => ItS w2 it D s)) := han; have HB2 : Hid (Below W1.heap.size W1 w2) := hb2; clear hp han hb2)
  go_ret2
  refine ⟨?_, HB1.out.trans (HB2.out.mono HB1.out.size)⟩
  have hk : kk = cnN D s := by
    unfold cnN
    by_cases hz : slE D s = 0
    · rw [if_pos hz]; exact (HAN.out.2 hz).1
    · rw [if_neg hz]; exact (HAN.out.1 hz).1
  rw [← hk]
  rfl
theorem check_any (D : List Int) (s : Sel) (vd : Value) (V : SV) (w : World) (hD : Is w vd D) (hS : Ss w V s) : Calls Try.prog 13 #[vd, selV s.kind V] w fun e w' => e = .returned (.int .i64 (slE D s)) ∧ Below w.heap.size w w' := by
  obtain ⟨ao, n, cap, rfl, hn, hc, hb⟩ := hD.open
  obtain ⟨a0, n0, c0, a1, n1, c1, a2, n2, c2, a3, n3, c3, a4, n4, c4, e, hV⟩ := selV_open hS
  obtain ⟨W1, hW1, hb1, hz1, b0, b1, b2, b3, b4, b5⟩ := box_sel w s.kind (.slice a0 n0 c0) (.slice a1 n1 c1) (.slice a2 n2 c2) (.slice a3 n3 c3) (.slice a4 n4 c4)
  have HB1 : Hid (Below w.heap.size w W1) := hb1
  obtain ⟨cn, HCN⟩ : ∃ cn, Hid (cnN D s = cn) := ⟨_, rfl⟩
  obtain ⟨er, HER⟩ : ∃ er, Hid (slE D s = er) := ⟨_, rfl⟩
  have HCS : Hid (Calls Try.prog 14 #[.slice ao n cap, .agg #[.int .i64 s.kind, .slice a0 n0 c0, .slice a1 n1 c1, .slice a2 n2 c2, .slice a3 n3 c3, .slice a4 n4 c4]] W1 fun e w' => e = .returned (.tuple #[.int .i64 cn, .int .i64 er]) ∧ Below W1.heap.size W1 w') := by
    have := count_any D s _ V W1 (hD.below hb1) (hS.below hb1)
    rwa [e, HCN.out, HER.out] at this
  rw [e, HER.out]
  clear hD hS hn hb1 e hV
  go_enter Try.func13, Try.ntmps13
  go_wp2_with (go_at_call 14; refine Calls.mono HCS.out ?_; rintro e w2 ⟨rfl, hb2⟩; have HB2 : Hid (Below W1.heap.size W1 w2) := hb2; clear hb2)
  go_ret
  exact ⟨rfl, HB1.out.trans (HB2.out.mono HB1.out.size)⟩
set_option maxHeartbeats 4000000 in
theorem ints_any (a b : List Int) (va vb : Value) (w : World) (hA : Is w va a) (hB : Is w vb b) : Calls Try.prog 23 #[va, vb] w fun e w' => e = .returned (.bool (decide (a = b))) ∧ Below w.heap.size w w' := by
  have HI : Hid (Is w va a) := hA
  have HJ : Hid (Is w vb b) := hB
  obtain ⟨ao, n, cap, rfl, hn, hc, hb⟩ := hA.open
  obtain ⟨bo, m, dap, rfl, hm, hdc, hb2⟩ := hB.open
  have HN : Hid _ := hn
  have HM : Hid _ := hm
  clear hA hB hn hm
  by_cases hnm : n = m
  · subst hnm
    go_enter Try.func23, Try.ntmps23
    go_wp2_with fail
    go_loopw [5] (fun x wr => ∃ i : Nat, i ≤ n ∧ x = .int .i64 (i : Int) ∧ Hid (a.take i = b.take i) ∧ Hid (Below w.heap.size w wr)) (fun x _ => n - (intOf x).toNat)
    case atStart => exact ⟨0, Nat.zero_le _, rfl, rfl, Below.refl _ _⟩
    case round =>
      obtain ⟨i, hin, rfl, HT, HB⟩ := hrel
      by_cases hlt : i < n
      · obtain ⟨g, o, x, rfl, hma, _, c0⟩ := (HI.out.below HB.out).at hlt
        obtain ⟨g2, o2, y, rfl, hmx, _, c1⟩ := (HJ.out.below HB.out).at hlt
        have hili : (i : Int) < (n : Int) := by omega
        have HX : Hid _ := hma
        have HY : Hid _ := hmx
        clear hma hmx
        by_cases q : x = y
        · subst q
          go_wp2_with fail
          go_region
          go_wp2_with fail
          go_roundw
          case rel => exact ⟨i + 1, by omega, by simp, by rw [Hid, List.take_add_one, List.take_add_one, HX.out, HY.out, HT.out], HB.out.drew⟩
          case measure => simp [intOf]; omega
        · have q1 : (x != y) = true := by simp [q]
          have q2 : (x == y) = false := by simp [q]
          have HNE : Hid (decide (a = b) = false) := decide_eq_false (fun e => q (by have h1 := HX.out; rw [e, HY.out] at h1; injection h1 with h1; exact h1.symm))
          go_wp2_with fail
          go_region
          go_wp2_with fail
          go_ret
          exact ⟨by rw [HNE.out]; rfl, HB.out.drew⟩
      · have HE : Hid (decide (a = b) = true) := decide_eq_true (by have h1 := HT.out; rwa [List.take_of_length_le (by rw [HN.out]; omega), List.take_of_length_le (by rw [HM.out]; omega)] at h1)
        go_wp2_with fail
        go_ret
        exact ⟨by rw [HE.out]; rfl, HB.out⟩
  · have q1 : ((n : Int) != (m : Int)) = true := by simp; omega
    have HNE : Hid (decide (a = b) = false) := decide_eq_false (fun e => hnm (by rw [← HN.out, ← HM.out, e]))
    go_enter Try.func23, Try.ntmps23
    go_wp2_with fail
    go_ret
    exact ⟨by rw [HNE.out]; rfl, Below.refl _ _⟩
def slabS (k : Int) : Sel := ⟨3, [], [0, 1], [1, k], [2, 2], [1, 1]⟩
theorem is_pair {w : World} {g : Nat} {x y : Int} (hg : w.heap[g]? = some (.cells #[.int .i64 x, .int .i64 y] 3 (0, 0))) (hx : I64 x) (hy : I64 y) : Is w (.slice (some ⟨g, 0, none⟩) 2 2) [x, y] := by
  refine ⟨by simp, fun z hz => ?_, some ⟨g, 0, none⟩, 2, rfl, Nat.le_refl _, fun i z hi => ⟨g, 0, rfl, ?_⟩⟩
  · simp at hz
    rcases hz with rfl | rfl <;> assumption
  · rw [Nat.zero_add, cell_of_row w g i _ _ _ hg]
    match i, hi with
    | 0, hi => simp at hi; subst hi; rfl
    | 1, hi => simp at hi; subst hi; rfl
    | i + 2, hi => simp at hi
theorem Try.hiS : (Try.prog.info? 33).map (·.size) = some 6 := by kernel_rfl
set_option maxHeartbeats 4000000 in
theorem slab_any (k : Int) (hk : I64 k) (w : World) : Calls Try.prog 25 #[.int .i64 k] w fun e w' => ∃ V, e = .returned (selV 3 V) ∧ Ss w' V (slabS k) ∧ Below w.heap.size w w' := by
  obtain ⟨w1, hw1, hb1, hs1, hg1⟩ := alloc_facts w (.cells #[.int .i64 0, .slice none 0 0, .slice none 0 0, .slice none 0 0, .slice none 0 0, .slice none 0 0] 33)
  obtain ⟨w2, hw2, hb2, hs2, hg2⟩ := alloc_facts w1 (.cells #[.int .i64 0, .int .i64 1] 3)
  obtain ⟨w3, hw3, hb3, hs3, hg3⟩ := alloc_facts w2 (.cells #[.int .i64 1, .int .i64 k] 3)
  obtain ⟨w4, hw4, hb4, hs4, hg4⟩ := alloc_facts w3 (.cells #[.int .i64 2, .int .i64 2] 3)
  obtain ⟨w5, hw5, hb5, hs5, hg5⟩ := alloc_facts w4 (.cells #[.int .i64 1, .int .i64 1] 3)
  have B12 := hb2
  have B25 : Below w2.heap.size w2 w5 := (hb3.trans (hb4.mono hb3.size)).trans (hb5.mono (Nat.le_trans hb3.size hb4.size))
  have B15 : Below w1.heap.size w1 w5 := hb2.trans (B25.mono hb2.size)
  have B05 : Below w.heap.size w w5 := hb1.trans (B15.mono hb1.size)
  have r0 : w5.heap[w.heap.size]? = _ := (B15.block _ (by omega)).trans hg1
  have r1 : w5.heap[w1.heap.size]? = _ := (B25.block _ (by omega)).trans hg2
  have r2 : w5.heap[w2.heap.size]? = _ := (hb5.block _ (by omega)).trans ((hb4.block _ (by omega)).trans hg3)
  have r3 : w5.heap[w3.heap.size]? = _ := (hb5.block _ (by omega)).trans hg4
  have HF : Hid (∀ w6, Kp (fun y => y = w.heap.size) w5 w6 → Ss w6 ⟨.slice none 0 0, .slice (some ⟨w1.heap.size, 0, none⟩) 2 2, .slice (some ⟨w2.heap.size, 0, none⟩) 2 2, .slice (some ⟨w3.heap.size, 0, none⟩) 2 2, .slice (some ⟨w4.heap.size, 0, none⟩) 2 2⟩ (slabS k)) := fun w6 hk6 => by
    have e1 : w6.heap[w1.heap.size]? = _ := (hk6.block _ (by omega) (fun e => by omega)).trans r1
    have e2 : w6.heap[w2.heap.size]? = _ := (hk6.block _ (by omega) (fun e => by omega)).trans r2
    have e3 : w6.heap[w3.heap.size]? = _ := (hk6.block _ (by omega) (fun e => by omega)).trans r3
    have e4 : w6.heap[w4.heap.size]? = _ := (hk6.block _ (by omega) (fun e => by omega)).trans hg5
    exact ⟨⟨by simp [slabS], by simp [slabS]⟩, ⟨by simp [slabS], none, 0, rfl, Nat.le_refl _, fun i l h => by simp [slabS] at h⟩, is_pair e1 ⟨by omega, by omega⟩ ⟨by omega, by omega⟩, is_pair e2 ⟨by omega, by omega⟩ hk, is_pair e3 ⟨by omega, by omega⟩ ⟨by omega, by omega⟩, is_pair e4 ⟨by omega, by omega⟩ ⟨by omega, by omega⟩⟩
  have HR0 : Hid _ := r0
  have HB05 : Hid _ := B05
  have HSZ : Hid (w.heap.size < w5.heap.size) := by rw [Hid]; omega
  clear hb1 hb2 hb3 hb4 hb5 hs1 hs2 hs3 hs4 hs5 hg1 hg2 hg3 hg4 hg5 B12 B25 B15 B05 r0 r1 r2 r3 hk
  have k0 : w5.cell? ⟨w.heap.size, 0, none⟩ = some (.int .i64 0) := cell_of_row _ _ 0 _ _ _ HR0.out
  have k1 : w5.cell? ⟨w.heap.size, 1, none⟩ = some (.slice none 0 0) := cell_of_row _ _ 1 _ _ _ HR0.out
  have k2 : w5.cell? ⟨w.heap.size, 2, none⟩ = some (.slice none 0 0) := cell_of_row _ _ 2 _ _ _ HR0.out
  have k3 : w5.cell? ⟨w.heap.size, 3, none⟩ = some (.slice none 0 0) := cell_of_row _ _ 3 _ _ _ HR0.out
  have k4 : w5.cell? ⟨w.heap.size, 4, none⟩ = some (.slice none 0 0) := cell_of_row _ _ 4 _ _ _ HR0.out
  have k5 : w5.cell? ⟨w.heap.size, 5, none⟩ = some (.slice none 0 0) := cell_of_row _ _ 5 _ _ _ HR0.out
  have kf : ∀ j, w5.frozen? ⟨w.heap.size, j, none⟩ = false := fun j => by simp [World.frozen?, HR0.out]
  have kf0 := kf 0
  have kf1 := kf 1
  have kf2 := kf 2
  have kf3 := kf 3
  have kf4 := kf 4
  have kf5 := kf 5
  clear kf
  go_enter Try.func25, Try.ntmps25
  go_wp2_with fail
  have e0 := heap_setCell_same w5 w.heap.size 0 _ _ (.int .i64 3) HR0.out
  have e1 := heap_setCell_same _ w.heap.size 1 _ _ (.slice none 0 0) e0
  have e2 := heap_setCell_same _ w.heap.size 2 _ _ (.slice (some ⟨w1.heap.size, 0, none⟩) 2 2) e1
  have e3 := heap_setCell_same _ w.heap.size 3 _ _ (.slice (some ⟨w2.heap.size, 0, none⟩) 2 2) e2
  have e4 := heap_setCell_same _ w.heap.size 4 _ _ (.slice (some ⟨w3.heap.size, 0, none⟩) 2 2) e3
  have e5 := heap_setCell_same _ w.heap.size 5 _ _ (.slice (some ⟨w4.heap.size, 0, none⟩) 2 2) e4
  have hkp : Kp (fun y => y = w.heap.size) w5 _ := ((((((Kp.refl (fun y => y = w.heap.size) w5).setCell (a := ⟨w.heap.size, 0, none⟩) (.int .i64 3) (fun _ => rfl)).setCell (a := ⟨w.heap.size, 1, none⟩) (.slice none 0 0) (fun _ => rfl)).setCell (a := ⟨w.heap.size, 2, none⟩) (.slice (some ⟨w1.heap.size, 0, none⟩) 2 2) (fun _ => rfl)).setCell (a := ⟨w.heap.size, 3, none⟩) (.slice (some ⟨w2.heap.size, 0, none⟩) 2 2) (fun _ => rfl)).setCell (a := ⟨w.heap.size, 4, none⟩) (.slice (some ⟨w3.heap.size, 0, none⟩) 2 2) (fun _ => rfl)).setCell (a := ⟨w.heap.size, 5, none⟩) (.slice (some ⟨w4.heap.size, 0, none⟩) 2 2) (fun _ => rfl)
  refine bodyPost_ret (results_cell_row (P := Try.prog) rfl _ _ w.heap.size _ _ _ _ rfl e5 Try.underlying33 rfl Try.hiS) rfl ?_
  exact ⟨_, rfl, HF.out _ hkp, HB05.out.trans (hkp.below HB05.out.size (fun x e => by omega))⟩
theorem is_quad {w : World} {g : Nat} {x y z t : Int} (hg : w.heap[g]? = some (.cells #[.int .i64 x, .int .i64 y, .int .i64 z, .int .i64 t] 3 (0, 0))) (hx : I64 x) (hy : I64 y) (hz : I64 z) (ht : I64 t) : Is w (.slice (some ⟨g, 0, none⟩) 4 4) [x, y, z, t] := by
  refine ⟨by simp, fun q hq => ?_, some ⟨g, 0, none⟩, 4, rfl, Nat.le_refl _, fun i q hi => ⟨g, 0, rfl, ?_⟩⟩
  · simp at hq
    rcases hq with rfl | rfl | rfl | rfl <;> assumption
  · rw [Nat.zero_add, cell_of_row w g i _ _ _ hg]
    match i, hi with
    | 0, hi => simp at hi; subst hi; rfl
    | 1, hi => simp at hi; subst hi; rfl
    | 2, hi => simp at hi; subst hi; rfl
    | 3, hi => simp at hi; subst hi; rfl
    | i + 4, hi => simp at hi
theorem live_facts : elN [2, 3] = 6 ∧ elE [2, 3] = 0 ∧ slE [2, 3] (slabS 1) = 0 ∧ (tups [2, 3] (slabS 1)).map (plc [2, 3]) = [1, 2, 4, 5] ∧ slE [2, 3] (slabS 2) = 17 := by decide +kernel
theorem i64_small (x : Int) (h0 : -100 ≤ x) (h1 : x ≤ 100) : I64 x := ⟨by omega, by omega⟩
set_option maxHeartbeats 8000000 in
theorem lives_any (w : World) : Calls Try.prog 11 #[] w fun e w' => e = .returned (.bool true) ∧ Below w.heap.size w w' := by
  obtain ⟨f1, f2, f3, f4, f5⟩ := live_facts
  have HE : Hid (∀ w1 : World, Calls Try.prog 9 #[.slice (some ⟨w1.heap.size, 0, none⟩) 2 2] (w1.alloc (.cells #[.int .i64 2, .int .i64 3] 3)) fun e w' => e = .returned (.tuple #[.int .i64 6, .int .i64 0]) ∧ Below w1.heap.size w1 w') := fun w1 => by
    have := elements_any [2, 3] _ _ (is_pair (heap_alloc_new w1 (.cells #[.int .i64 2, .int .i64 3] 3)) (i64_small 2 (by omega) (by omega)) (i64_small 3 (by omega) (by omega)))
    rw [f1, f2] at this
    exact this.mono fun e w' ⟨h1, h2⟩ => ⟨h1, ((Below.refl _ w1).alloc (Nat.le_refl _) _).trans (h2.mono (by simp))⟩
  have HS : Hid (∀ (w1 : World) (k : Int), -100 ≤ k → k ≤ 100 → Calls Try.prog 25 #[.int .i64 k] (w1.alloc (.cells #[.int .i64 2, .int .i64 3] 3)) fun e w' => ∃ V, e = .returned (selV 3 V) ∧ Ss w' V (slabS k) ∧ Is w' (.slice (some ⟨w1.heap.size, 0, none⟩) 2 2) [2, 3] ∧ Below w1.heap.size w1 w') := fun w1 k k0 k1 => by
    have hi := is_pair (heap_alloc_new w1 (.cells #[.int .i64 2, .int .i64 3] 3)) (i64_small 2 (by omega) (by omega)) (i64_small 3 (by omega) (by omega))
    exact (slab_any k (i64_small k k0 k1) _).mono fun e w' ⟨V, h1, h2, h3⟩ => ⟨V, h1, h2, hi.below h3, ((Below.refl _ w1).alloc (Nat.le_refl _) _).trans (h3.mono (by simp))⟩
  have HP : Hid (∀ (w1 : World) (p a b c d : Value) (g : Nat), Ss w1 ⟨p, a, b, c, d⟩ (slabS 1) → Is w1 (.slice (some ⟨g, 0, none⟩) 2 2) [2, 3] → Calls Try.prog 22 #[.slice (some ⟨g, 0, none⟩) 2 2, .agg #[.int .i64 3, p, a, b, c, d]] w1 fun e w' => ∃ ao n cap, e = .returned (.tuple #[.slice ao n cap, .int .i64 0]) ∧ Is w' (.slice ao n cap) [1, 2, 4, 5] ∧ Below w1.heap.size w1 w') := fun w1 p a b c d g h1 h2 => by
    have := places_any [2, 3] (slabS 1) _ ⟨p, a, b, c, d⟩ w1 h2 h1
    refine Calls.mono this ?_
    rintro e w' ⟨hb, v, rfl, hv⟩
    rw [f3, if_pos rfl, f4] at hv
    obtain ⟨ao, n, cap, rfl, _⟩ := hv.open
    exact ⟨ao, n, cap, by rw [f3], hv, hb⟩
  have HI : Hid (∀ (w1 : World) (ao : Option Addr) (n cap : Nat), Is w1 (.slice ao n cap) [1, 2, 4, 5] → Calls Try.prog 23 #[.slice ao n cap, .slice (some ⟨w1.heap.size, 0, none⟩) 4 4] (w1.alloc (.cells #[.int .i64 1, .int .i64 2, .int .i64 4, .int .i64 5] 3)) fun e w' => e = .returned (.bool true) ∧ Below w1.heap.size w1 w') := fun w1 ao n cap h1 => by
    have hb : Below w1.heap.size w1 (w1.alloc (.cells #[.int .i64 1, .int .i64 2, .int .i64 4, .int .i64 5] 3)) := (Below.refl _ w1).alloc (Nat.le_refl _) _
    have := ints_any [1, 2, 4, 5] [1, 2, 4, 5] _ _ _ (h1.below hb) (is_quad (heap_alloc_new w1 (.cells #[.int .i64 1, .int .i64 2, .int .i64 4, .int .i64 5] 3)) (i64_small 1 (by omega) (by omega)) (i64_small 2 (by omega) (by omega)) (i64_small 4 (by omega) (by omega)) (i64_small 5 (by omega) (by omega)))
    exact this.mono fun e w' ⟨h2, h3⟩ => ⟨by rw [h2]; rfl, hb.trans (h3.mono hb.size)⟩
  have HC : Hid (∀ (w1 : World) (p a b c d : Value) (g : Nat), Ss w1 ⟨p, a, b, c, d⟩ (slabS 2) → Is w1 (.slice (some ⟨g, 0, none⟩) 2 2) [2, 3] → Calls Try.prog 13 #[.slice (some ⟨g, 0, none⟩) 2 2, .agg #[.int .i64 3, p, a, b, c, d]] w1 fun e w' => e = .returned (.int .i64 17) ∧ Below w1.heap.size w1 w') := fun w1 p a b c d g h1 h2 => by
    have := check_any [2, 3] (slabS 2) _ ⟨p, a, b, c, d⟩ w1 h2 h1
    rw [f5] at this
    exact this
  clear f1 f2 f3 f4 f5
  go_enter Try.func11, Try.ntmps11
  go_wp2_with (first
    | (go_at_call 9; refine (HE.out _).mono ?_; rintro e w2 ⟨rfl, hb2⟩; have HB2 : Hid (Below w.heap.size w w2) := hb2; clear hb2)
    | (have hg := HB5; clear hg; go_at_call 25; refine (HS.out _ 2 (by omega) (by omega)).mono ?_; rintro e w6 ⟨⟨p, a, b, c, d⟩, rfl, hs6, hi6, hb6⟩; have HS6 : Hid _ := hs6; have HI6 : Hid _ := hi6; have HB6 : Hid (Below w.heap.size w w6) := HB5.out.trans (hb6.mono HB5.out.size); simp only [selV]; clear hs6 hi6 hb6)
    | (go_at_call 25; refine (HS.out _ 1 (by omega) (by omega)).mono ?_; rintro e w3 ⟨⟨p, a, b, c, d⟩, rfl, hs3, hi3, hb3⟩; have HS3 : Hid _ := hs3; have HI3 : Hid _ := hi3; have HB3 : Hid (Below w.heap.size w w3) := HB2.out.trans (hb3.mono HB2.out.size); simp only [selV]; clear hs3 hi3 hb3)
    | (go_at_call 22; refine (HP.out _ _ _ _ _ _ _ HS3.out HI3.out).mono ?_; rintro e w4 ⟨ao, n, cap, rfl, hi4, hb4⟩; have HI4 : Hid _ := hi4; have HB4 : Hid (Below w.heap.size w w4) := HB3.out.trans (hb4.mono HB3.out.size); clear hi4 hb4)
    | (go_at_call 23; refine (HI.out _ _ _ _ HI4.out).mono ?_; rintro e w5 ⟨rfl, hb5⟩; have HB5 : Hid (Below w.heap.size w w5) := HB4.out.trans (hb5.mono HB4.out.size); clear hb5)
    | (go_at_call 13; refine (HC.out _ _ _ _ _ _ _ HS6.out HI6.out).mono ?_; rintro e w7 ⟨rfl, hb7⟩; have HB7 : Hid (Below w.heap.size w w7) := HB6.out.trans (hb7.mono HB6.out.size); clear hb7))
  go_ret
  exact ⟨rfl, HB7.out⟩
end Go.Proofs.Ytnikbcljonbpcaa

/-
  Of any selection the places, and how many, are the document's: the laws' walks. No conditions.
-/
import Derived.Test.YtdeeeicomdjmjaaSRTa
import Derived.Test.YtdeeeicomdjmjaaSPts
namespace Go.Proofs.Ytdeeeicomdjmjaa
open Go.RowKit Go.Shelf
set_option linter.unusedVariables false
set_option maxRecDepth 100000

set_option maxHeartbeats 16000000 in
theorem spacePlaces_walk (v : Value) (D : List Int) (V : SV) (s : Sel) (w : World) (hD : Is w v D) (hS : Ss w V s) : Calls Try.prog 6 #[v, selV s.kind V] w fun e w' => e = .returned (.bool true) ∧ Below w.heap.size w w' := by
  have HI : Hid (Is w v D) := hD
  have HS : Hid (Ss w V s) := hS
  obtain ⟨ao, n, cap, rfl, hn, hc, hb⟩ := hD.open
  obtain ⟨a0, n0, c0, a1, n1, c1, a2, n2, c2, a3, n3, c3, a4, n4, c4, e, hV⟩ := selV_open hS
  obtain ⟨W1, hW1, hb1, hz1, b0, b1, b2, b3, b4, b5⟩ := box_sel w s.kind (.slice a0 n0 c0) (.slice a1 n1 c1) (.slice a2 n2 c2) (.slice a3 n3 c3) (.slice a4 n4 c4)
  have HB1 : Hid (Below w.heap.size w W1) := hb1
  obtain ⟨er, HER⟩ : ∃ er, Hid (slE D s = er) := ⟨_, rfl⟩
  obtain ⟨P, HPP⟩ : ∃ P, Hid ((if er = 0 then (tups D s).map (plc D) else []) = P) := ⟨_, rfl⟩
  obtain ⟨m, HM⟩ : ∃ m, Hid (P.length = m) := ⟨_, rfl⟩
  have HGR : Hid (Calls Try.prog 12 #[.agg #[.int .i64 s.kind, .slice a0 n0 c0, .slice a1 n1 c1, .slice a2 n2 c2, .slice a3 n3 c3, .slice a4 n4 c4]] W1 fun e w' => GrP e ∧ Below W1.heap.size W1 w') := by
    have := great_any s V W1 (hS.below hb1)
    rwa [e] at this
  have HPL : Hid (∀ w2, Below W1.heap.size W1 w2 → Calls Try.prog 22 #[.slice ao n cap, .agg #[.int .i64 s.kind, .slice a0 n0 c0, .slice a1 n1 c1, .slice a2 n2 c2, .slice a3 n3 c3, .slice a4 n4 c4]] w2 fun e w' => (∃ xo xc, e = .returned (.tuple #[.slice xo m xc, .int .i64 er]) ∧ Is w' (.slice xo m xc) P) ∧ Below w2.heap.size w2 w') := fun w2 hb2 => by
    have hw2 := hb1.trans (hb2.mono hb1.size)
    have := places_any D s _ V w2 (HI.out.below hw2) (HS.out.below hw2)
    rw [e] at this
    refine Calls.mono this ?_
    rintro e w' ⟨hb3, u, rfl, hu⟩
    rw [HER.out, HPP.out] at hu
    obtain ⟨tq, tn, tc, rfl, htn, _⟩ := hu.open
    have htn' : m = tn := by rw [← htn, ← HM.out]
    subst htn'
    exact ⟨⟨tq, tc, by rw [HER.out], hu⟩, hb3⟩
  have HRP : Hid (∀ w2, Below W1.heap.size W1 w2 → Calls Try.prog 16 #[.slice ao n cap, .agg #[.int .i64 s.kind, .slice a0 n0 c0, .slice a1 n1 c1, .slice a2 n2 c2, .slice a3 n3 c3, .slice a4 n4 c4]] w2 fun e w' => (∃ xo xc, e = .returned (.tuple #[.slice xo m xc, .int .i64 er]) ∧ Is w' (.slice xo m xc) P) ∧ Below w2.heap.size w2 w') := fun w2 hb2 => by
    have hw2 := hb1.trans (hb2.mono hb1.size)
    have := refPlaces_any D s _ V w2 (HI.out.below hw2) (HS.out.below hw2)
    rw [e] at this
    refine Calls.mono this ?_
    rintro e w' ⟨hb3, u, rfl, hu⟩
    rw [HER.out, HPP.out] at hu
    obtain ⟨tq, tn, tc, rfl, htn, _⟩ := hu.open
    have htn' : m = tn := by rw [← htn, ← HM.out]
    subst htn'
    exact ⟨⟨tq, tc, by rw [HER.out], hu⟩, hb3⟩
  have HIN : Hid (∀ w6 xo xc yo yc, Is w6 (.slice xo m xc) P → Is w6 (.slice yo m yc) P → Calls Try.prog 23 #[.slice xo m xc, .slice yo m yc] w6 fun e w' => e = .returned (.bool true) ∧ Below w6.heap.size w6 w') := fun w6 xo xc yo yc h1 h2 => by
    have := ints_any _ _ _ _ w6 h1 h2
    rwa [decide_eq_true rfl] at this
  rw [e]
  clear hD hS hn hb1 e hV
  go_enter Try.func6, Try.ntmps6
  go_wp2_with (first
    | (have hg := HB5; clear hg; go_at_call 11; refine (lives_any _).mono ?_; rintro e w9 ⟨rfl, hb9⟩; have HB9 : Hid (Below W1.heap.size W1 w9) := HB5.out.trans (hb9.mono HB5.out.size); clear hb9)
    | (have hg := HB4; clear hg; go_at_call 23; refine (HIN.out _ _ _ _ _ HX4.out HY4.out).mono ?_; rintro e w5 ⟨rfl, hb5⟩; have HB5 : Hid (Below W1.heap.size W1 w5) := HB4.out.trans (hb5.mono HB4.out.size); clear hb5)
    | (have hg := HB3; clear hg; go_at_call 16; refine (HRP.out _ HB3.out).mono ?_; rintro e w4 ⟨⟨yo, yc, rfl, hy⟩, hb4⟩; have HY4 : Hid (Is w4 (.slice yo m yc) P) := hy; have HX4 : Hid (Is w4 (.slice xo m xc) P) := HX3.out.below hb4; have HB4 : Hid (Below W1.heap.size W1 w4) := HB3.out.trans (hb4.mono HB3.out.size); clear hy hb4)
    | (have hg := HB2; clear hg; go_at_call 22; refine (HPL.out _ HB2.out).mono ?_; rintro e w3 ⟨⟨xo, xc, rfl, hx⟩, hb3⟩; have HX3 : Hid (Is w3 (.slice xo m xc) P) := hx; have HB3 : Hid (Below W1.heap.size W1 w3) := HB2.out.trans (hb3.mono HB2.out.size); have f0 := (HB3.out.cell (World.block_lt_of_cell? W1 _ b0)).trans b0; have f1 := (HB3.out.cell (World.block_lt_of_cell? W1 _ b1)).trans b1; have f2 := (HB3.out.cell (World.block_lt_of_cell? W1 _ b2)).trans b2; have f3 := (HB3.out.cell (World.block_lt_of_cell? W1 _ b3)).trans b3; have f4 := (HB3.out.cell (World.block_lt_of_cell? W1 _ b4)).trans b4; have f5 := (HB3.out.cell (World.block_lt_of_cell? W1 _ b5)).trans b5; clear hx hb3)
    | (have hg := HB2; clear hg; go_at_call 11; refine (lives_any _).mono ?_; rintro e w9 ⟨rfl, hb9⟩; have HB9 : Hid (Below W1.heap.size W1 w9) := HB2.out.trans (hb9.mono HB2.out.size); clear hb9)
    | (go_at_call 12; refine HGR.out.mono ?_; rintro e w2 ⟨⟨b, rfl⟩, hb2⟩; have HB2 : Hid (Below W1.heap.size W1 w2) := hb2; have g0 := (hb2.cell (World.block_lt_of_cell? W1 _ b0)).trans b0; have g1 := (hb2.cell (World.block_lt_of_cell? W1 _ b1)).trans b1; have g2 := (hb2.cell (World.block_lt_of_cell? W1 _ b2)).trans b2; have g3 := (hb2.cell (World.block_lt_of_cell? W1 _ b3)).trans b3; have g4 := (hb2.cell (World.block_lt_of_cell? W1 _ b4)).trans b4; have g5 := (hb2.cell (World.block_lt_of_cell? W1 _ b5)).trans b5; clear hb2))
  all_goals
    go_ret
    exact ⟨rfl, HB1.out.trans (HB9.out.mono HB1.out.size)⟩
set_option maxHeartbeats 16000000 in
theorem spaceChecks_walk (v : Value) (D : List Int) (V : SV) (s : Sel) (w : World) (hD : Is w v D) (hS : Ss w V s) : Calls Try.prog 4 #[v, selV s.kind V] w fun e w' => e = .returned (.bool true) ∧ Below w.heap.size w w' := by
  have HI : Hid (Is w v D) := hD
  have HS : Hid (Ss w V s) := hS
  obtain ⟨ao, n, cap, rfl, hn, hc, hb⟩ := hD.open
  obtain ⟨a0, n0, c0, a1, n1, c1, a2, n2, c2, a3, n3, c3, a4, n4, c4, e, hV⟩ := selV_open hS
  obtain ⟨W1, hW1, hb1, hz1, b0, b1, b2, b3, b4, b5⟩ := box_sel w s.kind (.slice a0 n0 c0) (.slice a1 n1 c1) (.slice a2 n2 c2) (.slice a3 n3 c3) (.slice a4 n4 c4)
  have HB1 : Hid (Below w.heap.size w W1) := hb1
  obtain ⟨er, HER⟩ : ∃ er, Hid (slE D s = er) := ⟨_, rfl⟩
  obtain ⟨P, HPP⟩ : ∃ P, Hid ((if er = 0 then (tups D s).map (plc D) else []) = P) := ⟨_, rfl⟩
  obtain ⟨m, HM⟩ : ∃ m, Hid (P.length = m) := ⟨_, rfl⟩
  have HCN : Hid (cnN D s = (m : Int)) := by
    rw [Hid, cnN, ← HM.out, ← HPP.out]
    by_cases h0 : slE D s = 0
    · have h1 : er = 0 := by rw [← HER.out]; exact h0
      rw [if_pos h0, if_pos h1, List.length_map]
      exact (tups_ok hS h0).1.symm
    · have h1 : er ≠ 0 := by rw [← HER.out]; exact h0
      rw [if_neg h0, if_neg h1]; rfl
  have HGR : Hid (Calls Try.prog 12 #[.agg #[.int .i64 s.kind, .slice a0 n0 c0, .slice a1 n1 c1, .slice a2 n2 c2, .slice a3 n3 c3, .slice a4 n4 c4]] W1 fun e w' => GrP e ∧ Below W1.heap.size W1 w') := by
    have := great_any s V W1 (hS.below hb1)
    rwa [e] at this
  have HCH : Hid (∀ w2, Below W1.heap.size W1 w2 → Calls Try.prog 13 #[.slice ao n cap, .agg #[.int .i64 s.kind, .slice a0 n0 c0, .slice a1 n1 c1, .slice a2 n2 c2, .slice a3 n3 c3, .slice a4 n4 c4]] w2 fun e w' => e = .returned (.int .i64 er) ∧ Below w2.heap.size w2 w') := fun w2 hb2 => by
    have hw2 := hb1.trans (hb2.mono hb1.size)
    have := check_any D s _ V w2 (HI.out.below hw2) (HS.out.below hw2)
    rwa [e, HER.out] at this
  have HCO : Hid (∀ w2, Below W1.heap.size W1 w2 → Calls Try.prog 14 #[.slice ao n cap, .agg #[.int .i64 s.kind, .slice a0 n0 c0, .slice a1 n1 c1, .slice a2 n2 c2, .slice a3 n3 c3, .slice a4 n4 c4]] w2 fun e w' => e = .returned (.tuple #[.int .i64 (m : Int), .int .i64 er]) ∧ Below w2.heap.size w2 w') := fun w2 hb2 => by
    have hw2 := hb1.trans (hb2.mono hb1.size)
    have := count_any D s _ V w2 (HI.out.below hw2) (HS.out.below hw2)
    rwa [e, HER.out, HCN.out] at this
  have HRC : Hid (∀ w2, Below W1.heap.size W1 w2 → Calls Try.prog 15 #[.slice ao n cap, .agg #[.int .i64 s.kind, .slice a0 n0 c0, .slice a1 n1 c1, .slice a2 n2 c2, .slice a3 n3 c3, .slice a4 n4 c4]] w2 fun e w' => e = .returned (.int .i64 er) ∧ Below w2.heap.size w2 w') := fun w2 hb2 => by
    have hw2 := hb1.trans (hb2.mono hb1.size)
    have := refCheck_any D s _ V w2 (HI.out.below hw2) (HS.out.below hw2)
    rwa [e, HER.out] at this
  have HRP : Hid (∀ w2, Below W1.heap.size W1 w2 → Calls Try.prog 16 #[.slice ao n cap, .agg #[.int .i64 s.kind, .slice a0 n0 c0, .slice a1 n1 c1, .slice a2 n2 c2, .slice a3 n3 c3, .slice a4 n4 c4]] w2 fun e w' => (∃ xo xc, e = .returned (.tuple #[.slice xo m xc, .int .i64 er])) ∧ Below w2.heap.size w2 w') := fun w2 hb2 => by
    have hw2 := hb1.trans (hb2.mono hb1.size)
    have := refPlaces_any D s _ V w2 (HI.out.below hw2) (HS.out.below hw2)
    rw [e] at this
    refine Calls.mono this ?_
    rintro e w' ⟨hb3, u, rfl, hu⟩
    rw [HER.out, HPP.out] at hu
    obtain ⟨tq, tn, tc, rfl, htn, _⟩ := hu.open
    have htn' : m = tn := by rw [← htn, ← HM.out]
    subst htn'
    exact ⟨⟨tq, tc, by rw [HER.out]⟩, hb3⟩
  have HCL : Hid (∀ w2, Below W1.heap.size W1 w2 → w2.cell? ⟨w.heap.size, 0, none⟩ = some (.int .i64 s.kind) ∧ w2.cell? ⟨w.heap.size, 1, none⟩ = some (.slice a0 n0 c0) ∧ w2.cell? ⟨w.heap.size, 2, none⟩ = some (.slice a1 n1 c1) ∧ w2.cell? ⟨w.heap.size, 3, none⟩ = some (.slice a2 n2 c2) ∧ w2.cell? ⟨w.heap.size, 4, none⟩ = some (.slice a3 n3 c3) ∧ w2.cell? ⟨w.heap.size, 5, none⟩ = some (.slice a4 n4 c4)) := fun w2 hb2 =>
    ⟨(hb2.cell (World.block_lt_of_cell? W1 _ b0)).trans b0, (hb2.cell (World.block_lt_of_cell? W1 _ b1)).trans b1, (hb2.cell (World.block_lt_of_cell? W1 _ b2)).trans b2, (hb2.cell (World.block_lt_of_cell? W1 _ b3)).trans b3, (hb2.cell (World.block_lt_of_cell? W1 _ b4)).trans b4, (hb2.cell (World.block_lt_of_cell? W1 _ b5)).trans b5⟩
  rw [e]
  clear hD hS hn hb1 e hV
  go_enter Try.func4, Try.ntmps4
  go_wp2_with (first
    | (have hg := HB6; clear hg; go_at_call 11; refine (lives_any _).mono ?_; rintro e w9 ⟨rfl, hb9⟩; have HB9 : Hid (Below W1.heap.size W1 w9) := HB6.out.trans (hb9.mono HB6.out.size); clear hb9)
    | (have hg := HB5; clear hg; go_at_call 16; refine (HRP.out _ HB5.out).mono ?_; rintro e w6 ⟨⟨yo, yc, rfl⟩, hb6⟩; have HB6 : Hid (Below W1.heap.size W1 w6) := HB5.out.trans (hb6.mono HB5.out.size); clear hb6)
    | (have hg := HB4; clear hg; go_at_call 15; refine (HRC.out _ HB4.out).mono ?_; rintro e w5 ⟨rfl, hb5⟩; have HB5 : Hid (Below W1.heap.size W1 w5) := HB4.out.trans (hb5.mono HB4.out.size); obtain ⟨f0, f1, f2, f3, f4, f5⟩ := HCL.out w5 HB5.out; clear hb5)
    | (have hg := HB3; clear hg; go_at_call 14; refine (HCO.out _ HB3.out).mono ?_; rintro e w4 ⟨rfl, hb4⟩; have HB4 : Hid (Below W1.heap.size W1 w4) := HB3.out.trans (hb4.mono HB3.out.size); obtain ⟨f0, f1, f2, f3, f4, f5⟩ := HCL.out w4 HB4.out; clear hb4)
    | (have hg := HB2; clear hg; go_at_call 13; refine (HCH.out _ HB2.out).mono ?_; rintro e w3 ⟨rfl, hb3⟩; have HB3 : Hid (Below W1.heap.size W1 w3) := HB2.out.trans (hb3.mono HB2.out.size); obtain ⟨f0, f1, f2, f3, f4, f5⟩ := HCL.out w3 HB3.out; clear hb3)
    | (have hg := HB2; clear hg; go_at_call 11; refine (lives_any _).mono ?_; rintro e w9 ⟨rfl, hb9⟩; have HB9 : Hid (Below W1.heap.size W1 w9) := HB2.out.trans (hb9.mono HB2.out.size); clear hb9)
    | (go_at_call 12; refine HGR.out.mono ?_; rintro e w2 ⟨⟨b, rfl⟩, hb2⟩; have HB2 : Hid (Below W1.heap.size W1 w2) := hb2; obtain ⟨g0, g1, g2, g3, g4, g5⟩ := HCL.out w2 hb2; clear hb2))
  all_goals
    go_ret
    exact ⟨rfl, HB1.out.trans (HB9.out.mono HB1.out.size)⟩
end Go.Proofs.Ytdeeeicomdjmjaa

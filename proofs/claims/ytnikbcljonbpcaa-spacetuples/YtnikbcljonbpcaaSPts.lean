/-
  A hyperslab selects what the points of its tuples select: the law's walk. No conditions.
-/
import Derived.Test.YtnikbcljonbpcaaSTl
import Derived.Test.YtnikbcljonbpcaaSLaw
namespace Go.Proofs.Ytnikbcljonbpcaa
open Go.RowKit Go.Shelf
set_option linter.unusedVariables false
set_option maxRecDepth 100000

/-- It answers one way or the other. -/
def GrP (e : Ending) : Prop := ∃ b : Bool, e = .returned (.bool b)
set_option maxHeartbeats 4000000 in
theorem great_any (s : Sel) (V : SV) (w : World) (hS : Ss w V s) : Calls Try.prog 12 #[selV s.kind V] w fun e w' => GrP e ∧ Below w.heap.size w w' := by
  have HP : Hid (Iss w V.p s.pts) := hS.p
  obtain ⟨a0, n0, c0, a1, n1, c1, a2, n2, c2, a3, n3, c3, a4, n4, c4, e, hV⟩ := selV_open hS
  rw [hV] at HP
  have HPO : Hid (Iss w (.slice a0 n0 c0) s.pts) := HP.out
  obtain ⟨_, _, _, e9, hl, hc, hb⟩ := HPO.out.open
  injection e9 with e1 e2 e3
  subst e1 e2 e3
  obtain ⟨W1, hW1, hb1, hz1, b0, b1, b2, b3, b4, b5⟩ := box_sel w s.kind (.slice a0 n0 c0) (.slice a1 n1 c1) (.slice a2 n2 c2) (.slice a3 n3 c3) (.slice a4 n4 c4)
  have HB1 : Hid (Below w.heap.size w W1) := hb1
  rw [e]
  clear hS HP hb1 e hV hl
  go_enter Try.func12, Try.ntmps12
  go_wp2_with fail
  go_loopw [4, 3] (fun x y wr => ∃ (i : Nat) (m : Int), i ≤ n0 ∧ x = .int .i64 (i : Int) ∧ y = .int .i64 m ∧ 0 ≤ m ∧ m ≤ 5864062044634 ∧ Hid (Below W1.heap.size W1 wr)) (fun x _ _ => n0 - (intOf x).toNat)
  case atStart => exact ⟨0, (n0 : Int), Nat.zero_le _, rfl, rfl, by omega, by omega, Below.refl _ _⟩
  case round =>
    obtain ⟨i, m, hin, rfl, rfl, hm0, hm1, HB⟩ := hrel
    have q1 := (HB.out.cell (World.block_lt_of_cell? W1 _ b1)).trans b1
    by_cases hlt : i < n0
    · obtain ⟨g, o, l, u, k, c, rfl, _, _, _, hk, hcell, _⟩ := ((HPO.out.below HB1.out).below HB.out).at hlt
      have hili : (i : Int) < (n0 : Int) := by omega
      have hw : IntKind.i64.wrap (m + (k : Int)) = m + (k : Int) := wrap_i64_in _ (by omega) (by omega)
      by_cases hbig : 30000 < m + (k : Int)
      · have e1 : decide (30000 < m + (k : Int)) = true := by simpa using hbig
        go_wp2_with fail
        go_ret
        exact ⟨⟨true, rfl⟩, HB1.out.trans (HB.out.mono HB1.out.size)⟩
      · have e1 : decide (30000 < m + (k : Int)) = false := by simpa using hbig
        have hge : 0 ≤ m + (k : Int) := by omega
        have hle : m + (k : Int) ≤ 5864062044634 := by omega
        go_wp2_with fail
        go_roundw
        case rel => exact ⟨i + 1, m + (k : Int), by omega, by simp, rfl, hge, hle, HB.out⟩
        case measure => simp [intOf]; omega
    · go_wp2_with fail
      go_ret
      exact ⟨⟨_, rfl⟩, HB1.out.trans (HB.out.mono HB1.out.size)⟩
def ptS (P : List (List Int)) : Sel := ⟨2, P, [], [], [], []⟩
theorem pts_sel {w : World} {V : SV} {D : List Int} {s : Sel} (hS : Ss w V s) (hE : slE D s = 0) : slE D (ptS (tups D s)) = 0 ∧ tups D (ptS (tups D s)) = tups D s := by
  obtain ⟨h1, h2, h3⟩ := tups_ok hS hE
  have he : elE D = 0 := by
    by_cases he : elE D = 0
    · exact he
    · rw [slE, if_pos he] at hE; exact hE
  refine ⟨?_, by rw [tups, if_pos (by simp [ptS])]; rfl⟩
  rw [slE, if_neg (by rw [he]; simp), if_neg (by simp [ptS]), if_pos (by simp [ptS])]
  simp only [ptS]
  have o1 : (tups D s).all (okB D.length) = true := by
    rw [List.all_eq_true]
    intro t ht
    have hi := h3 t ht
    refine okB_iff.2 ⟨hi.1, fun x hx => ?_⟩
    obtain ⟨i, hix⟩ := List.mem_iff_getElem?.1 hx
    have hil := (List.getElem?_eq_some_iff.1 hix).1
    exact (hi.2 i x _ hix (List.getElem?_eq_getElem (by rw [← hi.1]; exact hil))).1
  have o2 : (tups D s).any (outB D) = false := by
    rw [List.any_eq_false]
    intro t ht
    have hi := h3 t ht
    have : outB D t = false := by
      rw [outB, List.any_eq_false]
      rintro ⟨n, x⟩ hx
      obtain ⟨i, hix⟩ := List.mem_iff_getElem?.1 hx
      rw [List.getElem?_zip_eq_some] at hix
      have := hi.2 i x n hix.2 hix.1
      simp
      omega
    simp [this]
  rw [ptE, o1, o2, if_neg (by simp), if_neg (by simp), if_pos h2]
theorem ptSs {w : World} {v : Value} {P : List (List Int)} (h : Iss w v P) : Ss w ⟨v, .slice none 0 0, .slice none 0 0, .slice none 0 0, .slice none 0 0⟩ (ptS P) :=
  ⟨⟨by simp [ptS], by simp [ptS]⟩, h, is_nil w, is_nil w, is_nil w, is_nil w⟩
theorem frozen_new {W : World} {cs : Array Value} {T : TypeId} {g : Nat} (h : W.heap[g]? = some (.cells cs T (0, 0))) (j : Nat) : W.frozen? ⟨g, j, none⟩ = false := by simp [World.frozen?, h]
theorem box_pt (w : World) (u : Value) : ∃ W4 W6, w.alloc (.cells #[.int .i64 2, u, .slice none 0 0, .slice none 0 0, .slice none 0 0, .slice none 0 0] 33) = W4 ∧ (((W4.setCell ⟨w.heap.size, 2, none⟩ (.slice none 0 0)).setCell ⟨w.heap.size, 3, none⟩ (.slice none 0 0)).setCell ⟨w.heap.size, 4, none⟩ (.slice none 0 0)).setCell ⟨w.heap.size, 5, none⟩ (.slice none 0 0) = W6 ∧
    W4.frozen? ⟨w.heap.size, 2, none⟩ = false ∧ W4.frozen? ⟨w.heap.size, 3, none⟩ = false ∧ W4.frozen? ⟨w.heap.size, 4, none⟩ = false ∧ W4.frozen? ⟨w.heap.size, 5, none⟩ = false ∧
    W4.cell? ⟨w.heap.size, 2, none⟩ = some (.slice none 0 0) ∧ W4.cell? ⟨w.heap.size, 3, none⟩ = some (.slice none 0 0) ∧ W4.cell? ⟨w.heap.size, 4, none⟩ = some (.slice none 0 0) ∧ W4.cell? ⟨w.heap.size, 5, none⟩ = some (.slice none 0 0) ∧ Below w.heap.size w W6 ∧
    W6.cell? ⟨w.heap.size, 0, none⟩ = some (.int .i64 2) ∧ W6.cell? ⟨w.heap.size, 1, none⟩ = some u ∧ W6.cell? ⟨w.heap.size, 2, none⟩ = some (.slice none 0 0) ∧ W6.cell? ⟨w.heap.size, 3, none⟩ = some (.slice none 0 0) ∧ W6.cell? ⟨w.heap.size, 4, none⟩ = some (.slice none 0 0) ∧ W6.cell? ⟨w.heap.size, 5, none⟩ = some (.slice none 0 0) := by
  have h := heap_alloc_new w (.cells #[.int .i64 2, u, .slice none 0 0, .slice none 0 0, .slice none 0 0, .slice none 0 0] 33)
  have e2 := heap_setCell_same _ w.heap.size 2 _ _ (.slice none 0 0) h
  have e3 := heap_setCell_same _ w.heap.size 3 _ _ (.slice none 0 0) e2
  have e4 := heap_setCell_same _ w.heap.size 4 _ _ (.slice none 0 0) e3
  have e5 := heap_setCell_same _ w.heap.size 5 _ _ (.slice none 0 0) e4
  refine ⟨_, _, rfl, rfl, ?_, ?_, ?_, ?_, ?_, ?_, ?_, ?_, ?_, cell_of_row _ _ 0 _ _ _ e5, cell_of_row _ _ 1 _ _ _ e5, cell_of_row _ _ 2 _ _ _ e5, cell_of_row _ _ 3 _ _ _ e5, cell_of_row _ _ 4 _ _ _ e5, cell_of_row _ _ 5 _ _ _ e5⟩
  · exact frozen_new h 2
  · exact frozen_new h 3
  · exact frozen_new h 4
  · exact frozen_new h 5
  · exact cell_of_row _ _ 2 _ _ _ h
  · exact cell_of_row _ _ 3 _ _ _ h
  · exact cell_of_row _ _ 4 _ _ _ h
  · exact cell_of_row _ _ 5 _ _ _ h
  · exact ((((((Below.refl _ w).alloc (Nat.le_refl _) _).setCell (Nat.le_refl _) _).setCell (Nat.le_refl _) _).setCell (Nat.le_refl _) _).setCell (Nat.le_refl _) _)
set_option maxHeartbeats 16000000 in
theorem spacePoints_walk (v : Value) (D : List Int) (V : SV) (s : Sel) (w : World) (hD : Is w v D) (hS : Ss w V s) : Calls Try.prog 7 #[v, selV s.kind V] w fun e w' => e = .returned (.bool true) ∧ Below w.heap.size w w' := by
  have HI : Hid (Is w v D) := hD
  have HS : Hid (Ss w V s) := hS
  obtain ⟨ao, n, cap, rfl, hn, hc, hb⟩ := hD.open
  obtain ⟨a0, n0, c0, a1, n1, c1, a2, n2, c2, a3, n3, c3, a4, n4, c4, e, hV⟩ := selV_open hS
  obtain ⟨W1, hW1, hb1, hz1, b0, b1, b2, b3, b4, b5⟩ := box_sel w s.kind (.slice a0 n0 c0) (.slice a1 n1 c1) (.slice a2 n2 c2) (.slice a3 n3 c3) (.slice a4 n4 c4)
  have HB1 : Hid (Below w.heap.size w W1) := hb1
  obtain ⟨er, HER⟩ : ∃ er, Hid (slE D s = er) := ⟨_, rfl⟩
  obtain ⟨m, HM⟩ : ∃ m, Hid ((if er = 0 then tups D s else []).length = m) := ⟨_, rfl⟩
  have HGR : Hid (Calls Try.prog 12 #[.agg #[.int .i64 s.kind, .slice a0 n0 c0, .slice a1 n1 c1, .slice a2 n2 c2, .slice a3 n3 c3, .slice a4 n4 c4]] W1 fun e w' => GrP e ∧ Below W1.heap.size W1 w') := by
    have := great_any s V W1 (hS.below hb1)
    rwa [e] at this
  have HTU : Hid (∀ w2, Below W1.heap.size W1 w2 → Calls Try.prog 18 #[.slice ao n cap, .agg #[.int .i64 s.kind, .slice a0 n0 c0, .slice a1 n1 c1, .slice a2 n2 c2, .slice a3 n3 c3, .slice a4 n4 c4]] w2 fun e w' => (∃ tq tc, e = .returned (.tuple #[.slice tq m tc, .int .i64 er]) ∧ Iss w' (.slice tq m tc) (if er = 0 then tups D s else [])) ∧ Below w2.heap.size w2 w') := fun w2 hb2 => by
    have hw2 := hb1.trans (hb2.mono hb1.size)
    have := tuples_any D s _ V w2 (HI.out.below hw2) (HS.out.below hw2)
    rw [e] at this
    refine Calls.mono this ?_
    rintro e w' ⟨hb3, u, rfl, hu⟩
    rw [HER.out] at hu
    obtain ⟨tq, tn, tc, rfl, htn, _⟩ := hu.open
    have htn' : m = tn := by rw [← htn, ← HM.out]
    subst htn'
    exact ⟨⟨tq, tc, by rw [HER.out], hu⟩, hb3⟩
  have HPL : Hid (∀ w2, Below W1.heap.size W1 w2 → Calls Try.prog 22 #[.slice ao n cap, .agg #[.int .i64 s.kind, .slice a0 n0 c0, .slice a1 n1 c1, .slice a2 n2 c2, .slice a3 n3 c3, .slice a4 n4 c4]] w2 fun e w' => (∃ xo xc, e = .returned (.tuple #[.slice xo m xc, .int .i64 er]) ∧ Is w' (.slice xo m xc) (if er = 0 then (tups D s).map (plc D) else [])) ∧ Below w2.heap.size w2 w') := fun w2 hb2 => by
    have hw2 := hb1.trans (hb2.mono hb1.size)
    have := places_any D s _ V w2 (HI.out.below hw2) (HS.out.below hw2)
    rw [e] at this
    refine Calls.mono this ?_
    rintro e w' ⟨hb3, u, rfl, hu⟩
    rw [HER.out] at hu
    obtain ⟨tq, tn, tc, rfl, htn, _⟩ := hu.open
    have htn' : m = tn := by
      rw [← htn, ← HM.out]
      by_cases h0 : er = 0
      · rw [if_pos h0, if_pos h0, List.length_map]
      · rw [if_neg h0, if_neg h0]; rfl
    subst htn'
    exact ⟨⟨tq, tc, by rw [HER.out], hu⟩, hb3⟩
  rw [e]
  have HBS : Hid (Below w.heap.size w W1) := hb1
  clear hD hS hn hb1 e hV
  by_cases he : er = 0
  · subst he
    have HPP : Hid (∀ w5 tq tc, Below W1.heap.size W1 w5 → Iss w5 (.slice tq m tc) (tups D s) → Calls Try.prog 22 #[.slice ao n cap, .agg #[.int .i64 2, .slice tq m tc, .slice none 0 0, .slice none 0 0, .slice none 0 0, .slice none 0 0]] w5 fun e w' => (∃ xo xc, e = .returned (.tuple #[.slice xo m xc, .int .i64 0]) ∧ Is w' (.slice xo m xc) ((tups D s).map (plc D))) ∧ Below w5.heap.size w5 w') := fun w5 tq tc hb5 hi5 => by
      obtain ⟨f1, f2⟩ := pts_sel HS.out HER.out
      have := places_any D (ptS (tups D s)) _ _ w5 (HI.out.below (HB1.out.trans (hb5.mono HB1.out.size))) (ptSs hi5)
      refine Calls.mono this ?_
      rintro e w' ⟨hb3, u, rfl, hu⟩
      rw [f1, if_pos rfl, f2] at hu
      obtain ⟨xo, xn, xc, rfl, hxn, _⟩ := hu.open
      have hxn' : m = xn := by rw [← hxn, ← HM.out, if_pos rfl, List.length_map]
      subst hxn'
      exact ⟨⟨xo, xc, by rw [f1], hu⟩, hb3⟩
    have HIN : Hid (∀ w6 xo xc yo yc, Is w6 (.slice xo m xc) ((tups D s).map (plc D)) → Is w6 (.slice yo m yc) ((tups D s).map (plc D)) → Calls Try.prog 23 #[.slice xo m xc, .slice yo m yc] w6 fun e w' => e = .returned (.bool true) ∧ Below w6.heap.size w6 w') := fun w6 xo xc yo yc h1 h2 => by
      have := ints_any _ _ _ _ w6 h1 h2
      rwa [decide_eq_true rfl] at this
    go_enter Try.func7, Try.ntmps7
    go_wp2_with (first
      | (have hg := HB7; clear hg; go_at_call 11; refine (lives_any _).mono ?_; rintro e w9 ⟨rfl, hb9⟩; have HB9 : Hid (Below W1.heap.size W1 w9) := HB7.out.trans (hb9.mono HB7.out.size); clear hb9)
      | (have hg := HB5; clear hg; go_at_call 23; refine (HIN.out _ _ _ _ _ HX6.out HY6.out).mono ?_; rintro e w7 ⟨rfl, hb7⟩; have HB7 : Hid (Below W1.heap.size W1 w7) := HB6.out.trans (hb7.mono HB6.out.size); clear hb7)
      | (have hg := HB5; clear hg; go_at_call 22; refine (HPP.out _ _ _ HB5.out HT5.out).mono ?_; rintro e w6 ⟨⟨yo, yc, rfl, hy6⟩, hb6⟩; have HY6 : Hid _ := hy6; have HX6 : Hid _ := HX5.out.below hb6; have HB6 : Hid (Below W1.heap.size W1 w6) := HB5.out.trans (hb6.mono HB5.out.size); clear hy6 hb6)
      | (have hg := HB4; clear hg; go_at_call 22; refine (HPL.out _ HB4.out).mono ?_; rintro e w5 ⟨⟨xo, xc, rfl, hx5⟩, hb5⟩; have hx5' : Is w5 (.slice xo m xc) ((tups D s).map (plc D)) := (by simpa using hx5); have HX5 : Hid (Is w5 (.slice xo m xc) ((tups D s).map (plc D))) := hx5'; have HT5 : Hid _ := HT4.out.below hb5; have HB5 : Hid (Below W1.heap.size W1 w5) := HB4.out.trans (hb5.mono HB4.out.size); have r0 := (hb5.cell (World.block_lt_of_cell? W4 _ d0)).trans d0; have r1 := (hb5.cell (World.block_lt_of_cell? W4 _ d1)).trans d1; have r2 := (hb5.cell (World.block_lt_of_cell? W4 _ d2)).trans d2; have r3 := (hb5.cell (World.block_lt_of_cell? W4 _ d3)).trans d3; have r4 := (hb5.cell (World.block_lt_of_cell? W4 _ d4)).trans d4; have r5 := (hb5.cell (World.block_lt_of_cell? W4 _ d5)).trans d5; clear hx5 hx5' hb5)
      | (go_at_call 18; refine (HTU.out _ HB2.out).mono ?_; rintro e w3 ⟨⟨tq, tc, rfl, ht3⟩, hb3⟩; have ht3' : Iss w3 (.slice tq m tc) (tups D s) := (by simpa using ht3); have HB3 : Hid (Below W1.heap.size W1 w3) := HB2.out.trans (hb3.mono HB2.out.size); obtain ⟨W0, W4, hW0, hW4, y2, y3, y4, y5, z2, z3, z4, z5, hb4, d0, d1, d2, d3, d4, d5⟩ := box_pt w3 (.slice tq m tc); have HT4 : Hid (Iss W4 (.slice tq m tc) (tups D s)) := ht3'.below hb4; have HB4 : Hid (Below W1.heap.size W1 W4) := HB3.out.trans (hb4.mono HB3.out.size); have g0 := (HB4.out.cell (World.block_lt_of_cell? W1 _ b0)).trans b0; have g1 := (HB4.out.cell (World.block_lt_of_cell? W1 _ b1)).trans b1; have g2 := (HB4.out.cell (World.block_lt_of_cell? W1 _ b2)).trans b2; have g3 := (HB4.out.cell (World.block_lt_of_cell? W1 _ b3)).trans b3; have g4 := (HB4.out.cell (World.block_lt_of_cell? W1 _ b4)).trans b4; have g5 := (HB4.out.cell (World.block_lt_of_cell? W1 _ b5)).trans b5; clear ht3 ht3' hb3 hb4)
      | (have hg := HB2; clear hg; go_at_call 11; refine (lives_any _).mono ?_; rintro e w9 ⟨rfl, hb9⟩; have HB9 : Hid (Below W1.heap.size W1 w9) := HB2.out.trans (hb9.mono HB2.out.size); clear hb9)
      | (go_at_call 12; refine HGR.out.mono ?_; rintro e w2 ⟨⟨b, rfl⟩, hb2⟩; have HB2 : Hid (Below W1.heap.size W1 w2) := hb2; have g0 := (hb2.cell (World.block_lt_of_cell? W1 _ b0)).trans b0; have g1 := (hb2.cell (World.block_lt_of_cell? W1 _ b1)).trans b1; have g2 := (hb2.cell (World.block_lt_of_cell? W1 _ b2)).trans b2; have g3 := (hb2.cell (World.block_lt_of_cell? W1 _ b3)).trans b3; have g4 := (hb2.cell (World.block_lt_of_cell? W1 _ b4)).trans b4; have g5 := (hb2.cell (World.block_lt_of_cell? W1 _ b5)).trans b5; clear hb2; cases b))
    all_goals
      go_ret
      exact ⟨rfl, HB1.out.trans (HB9.out.mono HB1.out.size)⟩
  · have he1 : (er != 0) = true := by simp [he]
    go_enter Try.func7, Try.ntmps7
    go_wp2_with (first
      | (have hg := HB5; clear hg; go_at_call 11; refine (lives_any _).mono ?_; rintro e w9 ⟨rfl, hb9⟩; have HB9 : Hid (Below W1.heap.size W1 w9) := HB5.out.trans (hb9.mono HB5.out.size); clear hb9)
      | (have hg := HB4; clear hg; go_at_call 22; refine (HPL.out _ HB4.out).mono ?_; rintro e w5 ⟨⟨xo, xc, rfl, hx5⟩, hb5⟩; have HB5 : Hid (Below W1.heap.size W1 w5) := HB4.out.trans (hb5.mono HB4.out.size); clear hx5 hb5)
      | (go_at_call 18; refine (HTU.out _ HB2.out).mono ?_; rintro e w3 ⟨⟨tq, tc, rfl, ht3⟩, hb3⟩; have HB3 : Hid (Below W1.heap.size W1 w3) := HB2.out.trans (hb3.mono HB2.out.size); obtain ⟨W0, W4, hW0, hW4, y2, y3, y4, y5, z2, z3, z4, z5, hb4, d0, d1, d2, d3, d4, d5⟩ := box_pt w3 (.slice tq m tc); have HB4 : Hid (Below W1.heap.size W1 W4) := HB3.out.trans (hb4.mono HB3.out.size); have g0 := (HB4.out.cell (World.block_lt_of_cell? W1 _ b0)).trans b0; have g1 := (HB4.out.cell (World.block_lt_of_cell? W1 _ b1)).trans b1; have g2 := (HB4.out.cell (World.block_lt_of_cell? W1 _ b2)).trans b2; have g3 := (HB4.out.cell (World.block_lt_of_cell? W1 _ b3)).trans b3; have g4 := (HB4.out.cell (World.block_lt_of_cell? W1 _ b4)).trans b4; have g5 := (HB4.out.cell (World.block_lt_of_cell? W1 _ b5)).trans b5; clear ht3 hb3 hb4)
      | (have hg := HB2; clear hg; go_at_call 11; refine (lives_any _).mono ?_; rintro e w9 ⟨rfl, hb9⟩; have HB9 : Hid (Below W1.heap.size W1 w9) := HB2.out.trans (hb9.mono HB2.out.size); clear hb9)
      | (go_at_call 12; refine HGR.out.mono ?_; rintro e w2 ⟨⟨b, rfl⟩, hb2⟩; have HB2 : Hid (Below W1.heap.size W1 w2) := hb2; have g0 := (hb2.cell (World.block_lt_of_cell? W1 _ b0)).trans b0; have g1 := (hb2.cell (World.block_lt_of_cell? W1 _ b1)).trans b1; have g2 := (hb2.cell (World.block_lt_of_cell? W1 _ b2)).trans b2; have g3 := (hb2.cell (World.block_lt_of_cell? W1 _ b3)).trans b3; have g4 := (hb2.cell (World.block_lt_of_cell? W1 _ b4)).trans b4; have g5 := (hb2.cell (World.block_lt_of_cell? W1 _ b5)).trans b5; clear hb2; cases b))
    all_goals
      go_ret
      exact ⟨rfl, HB1.out.trans (HB9.out.mono HB1.out.size)⟩
end Go.Proofs.Ytnikbcljonbpcaa

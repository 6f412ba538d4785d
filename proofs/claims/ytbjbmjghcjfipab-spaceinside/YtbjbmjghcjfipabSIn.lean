/-
  Each place that is told is below the number of elements, and leads back to its tuple: the law's walk. No conditions.
-/
import Derived.Test.YtbjbmjghcjfipabSPts
namespace Go.Proofs.Ytbjbmjghcjfipab
open Go.RowKit Go.Shelf
set_option linter.unusedVariables false
set_option maxRecDepth 100000

theorem placeZ_snoc : ∀ (D t : List Int) (n x p : Int), t.length = D.length → placeZ (D ++ [n]) (t ++ [x]) p = placeZ D t p * n + x
  | [], [], n, x, p, _ => by simp [placeZ]
  | [], _ :: _, _, _, _, h => by simp at h
  | _ :: _, [], _, _, _, h => by simp at h
  | m :: D, y :: t, n, x, p, h => by
    rw [List.cons_append, List.cons_append, placeZ, placeZ, placeZ_snoc D t n x _ (by simpa using h)]
def preP (D t : List Int) (d : Nat) : Int := placeZ (D.take d) (t.take d) 0
theorem preP_step {D t : List Int} {d : Nat} {x n : Int} (hl : t.length = D.length) (hx : t[d]? = some x) (hn : D[d]? = some n) : preP D t (d + 1) = preP D t d * n + x := by
  rw [preP, List.take_add_one, List.take_add_one, hx, hn]
  exact placeZ_snoc _ _ n x 0 (by rw [List.length_take, List.length_take, hl])
theorem ins_take {D t : List Int} (h : Ins2 D t) (d : Nat) : Ins2 (D.take d) (t.take d) := by
  refine ⟨by rw [List.length_take, List.length_take, h.1], fun i x n hx hn => ?_⟩
  rw [List.getElem?_take] at hx hn
  split at hx
  · rename_i hi
    rw [if_pos hi] at hn
    exact h.2 i x n hx hn
  · cases hx
theorem preP_nonneg {D t : List Int} (h : Ins2 D t) (d : Nat) : 0 ≤ preP D t d := (plc_in (ins_take h d)).1
theorem preP_le {D t : List Int} (h : Ins2 D t) (d : Nat) : preP D t d < prd D := by
  have h1 := (plc_in (ins_take h d)).2
  have h2 := (prd_take_le (ins_pos h) d).2
  have h3 : plc (D.take d) (t.take d) = preP D t d := rfl
  omega
theorem preP_all {D t : List Int} (h : Ins2 D t) : preP D t D.length = plc D t := by
  rw [preP, List.take_of_length_le (Nat.le_refl _), List.take_of_length_le (by rw [h.1]; exact Nat.le_refl _)]
  rfl
theorem preP_back {D t : List Int} {d : Nat} {x n : Int} (h : Ins2 D t) (hx : t[d]? = some x) (hn : D[d]? = some n) : preP D t (d + 1) % n = x ∧ preP D t (d + 1) / n = preP D t d := by
  have h1 := h.2 d x n hx hn
  rw [preP_step h.1 hx hn]
  constructor
  · rw [Int.add_comm, Int.mul_comm, Int.add_mul_emod_self_left]
    exact Int.emod_eq_of_lt h1.1 h1.2
  · rw [Int.add_comm, Int.mul_comm, Int.add_mul_ediv_left _ _ (by omega), Int.ediv_eq_zero_of_lt h1.1 h1.2]
    omega
set_option maxHeartbeats 16000000 in
theorem spaceInside_walk (v : Value) (D : List Int) (V : SV) (s : Sel) (w : World) (hD : Is w v D) (hS : Ss w V s) : Calls Try.prog 4 #[v, selV s.kind V] w fun e w' => e = .returned (.bool true) ∧ Below w.heap.size w w' := by
  have HI : Hid (Is w v D) := hD
  have HS : Hid (Ss w V s) := hS
  obtain ⟨ao, n, cap, rfl, hn, hc, hb⟩ := hD.open
  have HN : Hid (D.length = n) := hn
  obtain ⟨a0, n0, c0, a1, n1, c1, a2, n2, c2, a3, n3, c3, a4, n4, c4, e, hV⟩ := selV_open hS
  obtain ⟨W1, hW1, hb1, hz1, b0, b1, b2, b3, b4, b5⟩ := box_sel w s.kind (.slice a0 n0 c0) (.slice a1 n1 c1) (.slice a2 n2 c2) (.slice a3 n3 c3) (.slice a4 n4 c4)
  have HB1 : Hid (Below w.heap.size w W1) := hb1
  obtain ⟨er, HER⟩ : ∃ er, Hid (slE D s = er) := ⟨_, rfl⟩
  obtain ⟨en, HEN⟩ : ∃ en, Hid (elN D = en) := ⟨_, rfl⟩
  obtain ⟨ee, HEE⟩ : ∃ ee, Hid (elE D = ee) := ⟨_, rfl⟩
  have HLZ : Hid (ee ≠ 0 → er = ee) := fun h => by rw [← HER.out, slE, if_pos (by rw [HEE.out]; exact h), HEE.out]
  obtain ⟨m, HM⟩ : ∃ m, Hid ((if er = 0 then tups D s else []).length = m) := ⟨_, rfl⟩
  have HGR : Hid (Calls Try.prog 6 #[.agg #[.int .i64 s.kind, .slice a0 n0 c0, .slice a1 n1 c1, .slice a2 n2 c2, .slice a3 n3 c3, .slice a4 n4 c4]] W1 fun e w' => GrP e ∧ Below W1.heap.size W1 w') := by
    have := great_any s V W1 (hS.below hb1)
    rwa [e] at this
  have HEL : Hid (∀ w2, Below W1.heap.size W1 w2 → Calls Try.prog 10 #[.slice ao n cap] w2 fun e w' => e = .returned (.tuple #[.int .i64 en, .int .i64 ee]) ∧ Below w2.heap.size w2 w') := fun w2 hb2 => by
    have := elements_any D _ w2 (HI.out.below (hb1.trans (hb2.mono hb1.size)))
    rwa [HEN.out, HEE.out] at this
  have HTU : Hid (∀ w2, Below W1.heap.size W1 w2 → Calls Try.prog 11 #[.slice ao n cap, .agg #[.int .i64 s.kind, .slice a0 n0 c0, .slice a1 n1 c1, .slice a2 n2 c2, .slice a3 n3 c3, .slice a4 n4 c4]] w2 fun e w' => (∃ tq tc, e = .returned (.tuple #[.slice tq m tc, .int .i64 er]) ∧ Iss w' (.slice tq m tc) (if er = 0 then tups D s else [])) ∧ Below w2.heap.size w2 w') := fun w2 hb2 => by
    have hw2 := hb1.trans (hb2.mono hb1.size)
    have := tuples_any D s _ V w2 (HI.out.below hw2) (HS.out.below hw2)
    rw [e] at this
    refine Calls.mono this ?_
    rintro e w' ⟨hb3, u, rfl, hu⟩
    rw [HER.out] at hu
    obtain ⟨tq, tn, tc, rfl, htn, _⟩ := hu.open
    have htn' : m = tn := by rw [← htn, ← HM.out]
    subst htn'
    exact ⟨⟨tq, tc, by rw [HER.out], hu⟩, hb3⟩
  have HPL : Hid (∀ w2, Below W1.heap.size W1 w2 → Calls Try.prog 12 #[.slice ao n cap, .agg #[.int .i64 s.kind, .slice a0 n0 c0, .slice a1 n1 c1, .slice a2 n2 c2, .slice a3 n3 c3, .slice a4 n4 c4]] w2 fun e w' => (∃ xo xc, e = .returned (.tuple #[.slice xo m xc, .int .i64 er]) ∧ Is w' (.slice xo m xc) (if er = 0 then (tups D s).map (plc D) else [])) ∧ Below w2.heap.size w2 w') := fun w2 hb2 => by
    have hw2 := hb1.trans (hb2.mono hb1.size)
    have := places_any D s _ V w2 (HI.out.below hw2) (HS.out.below hw2)
    rw [e] at this
    refine Calls.mono this ?_
    rintro e w' ⟨hb3, u, rfl, hu⟩
    rw [HER.out] at hu
    obtain ⟨tq, tn, tc, rfl, htn, _⟩ := hu.open
    have htn' : m = tn := by
      rw [← htn, ← HM.out]
      by_cases h0 : er = 0
      · rw [if_pos h0, if_pos h0, List.length_map]
      · rw [if_neg h0, if_neg h0]; rfl
    subst htn'
    exact ⟨⟨tq, tc, by rw [HER.out], hu⟩, hb3⟩
  rw [e]
  clear hD hS hn hb1 e hV
  by_cases he : er = 0
  · subst he
    have hee : ee = 0 := Classical.byContradiction fun h => h (HLZ.out h).symm
    subst hee
    obtain ⟨hk1, hk2, hk3⟩ := tups_ok HS.out HER.out
    have HIN : Hid (∀ t ∈ tups D s, Ins2 D t) := hk3
    have HEP : Hid (en = prd D) := by rw [Hid, ← HEN.out, elN, if_pos (elE_ok HEE.out)]
    have hpb : prd D ≤ 1048576 := (elE_ok HEE.out).2
    have HPB : Hid (prd D ≤ 1048576) := hpb
    have HDP : Hid (∀ x ∈ D, 0 ≤ x ∧ x ≤ 1048576) := (dims_of (elE_ok HEE.out).1).2
    have hn4 : n ≤ 4 := by have := (dims_of (elE_ok HEE.out).1).1; have := HN.out; omega
    clear hk1 hk2 hk3 hpb
    go_enter Try.func4, Try.ntmps4
    go_wp2_with (first
      | (have hg := HB4; clear hg; go_at_call 12; refine (HPL.out _ HB4.out).mono ?_; rintro e w5 ⟨⟨xo, xc, rfl, hx5⟩, hb5⟩; have hx5' : Is w5 (.slice xo m xc) ((tups D s).map (plc D)) := (by simpa using hx5); have HX5 : Hid (Is w5 (.slice xo m xc) ((tups D s).map (plc D))) := hx5'; have HT5 : Hid (Iss w5 (.slice tq m tc) (tups D s)) := HT4.out.below hb5; have HB5 : Hid (Below W1.heap.size W1 w5) := HB4.out.trans (hb5.mono HB4.out.size); clear hx5 hx5' hb5)
      | (have hg := HB3; clear hg; go_at_call 11; refine (HTU.out _ HB3.out).mono ?_; rintro e w4 ⟨⟨tq, tc, rfl, ht4⟩, hb4⟩; have ht4' : Iss w4 (.slice tq m tc) (tups D s) := (by simpa using ht4); have HT4 : Hid (Iss w4 (.slice tq m tc) (tups D s)) := ht4'; have HB4 : Hid (Below W1.heap.size W1 w4) := HB3.out.trans (hb4.mono HB3.out.size); have g0 := (HB4.out.cell (World.block_lt_of_cell? W1 _ b0)).trans b0; have g1 := (HB4.out.cell (World.block_lt_of_cell? W1 _ b1)).trans b1; have g2 := (HB4.out.cell (World.block_lt_of_cell? W1 _ b2)).trans b2; have g3 := (HB4.out.cell (World.block_lt_of_cell? W1 _ b3)).trans b3; have g4 := (HB4.out.cell (World.block_lt_of_cell? W1 _ b4)).trans b4; have g5 := (HB4.out.cell (World.block_lt_of_cell? W1 _ b5)).trans b5; clear ht4 ht4' hb4)
      | (have hg := HB2; clear hg; go_at_call 10; refine (HEL.out _ HB2.out).mono ?_; rintro e w3 ⟨rfl, hb3⟩; have HB3 : Hid (Below W1.heap.size W1 w3) := HB2.out.trans (hb3.mono HB2.out.size); have g0 := (HB3.out.cell (World.block_lt_of_cell? W1 _ b0)).trans b0; have g1 := (HB3.out.cell (World.block_lt_of_cell? W1 _ b1)).trans b1; have g2 := (HB3.out.cell (World.block_lt_of_cell? W1 _ b2)).trans b2; have g3 := (HB3.out.cell (World.block_lt_of_cell? W1 _ b3)).trans b3; have g4 := (HB3.out.cell (World.block_lt_of_cell? W1 _ b4)).trans b4; have g5 := (HB3.out.cell (World.block_lt_of_cell? W1 _ b5)).trans b5; clear hb3)
      | (have hg := HB2; clear hg; go_at_call 7; refine (lives_any _).mono ?_; rintro e w9 ⟨rfl, hb9⟩; have HB9 : Hid (Below W1.heap.size W1 w9) := HB2.out.trans (hb9.mono HB2.out.size); clear hb9)
      | (go_at_call 6; refine HGR.out.mono ?_; rintro e w2 ⟨⟨b, rfl⟩, hb2⟩; have HB2 : Hid (Below W1.heap.size W1 w2) := hb2; have g0 := (hb2.cell (World.block_lt_of_cell? W1 _ b0)).trans b0; have g1 := (hb2.cell (World.block_lt_of_cell? W1 _ b1)).trans b1; have g2 := (hb2.cell (World.block_lt_of_cell? W1 _ b2)).trans b2; have g3 := (hb2.cell (World.block_lt_of_cell? W1 _ b3)).trans b3; have g4 := (hb2.cell (World.block_lt_of_cell? W1 _ b4)).trans b4; have g5 := (hb2.cell (World.block_lt_of_cell? W1 _ b5)).trans b5; clear hb2; cases b))
    · go_loopw [11] (fun x wr => ∃ i : Nat, i ≤ m ∧ x = .int .i64 (i : Int) ∧ Hid (Below w5.heap.size w5 wr)) (fun x _ => m - (intOf x).toNat)
      case atStart => exact ⟨0, Nat.zero_le _, rfl, Below.refl _ _⟩
      case round =>
        obtain ⟨i, hin, rfl, HB⟩ := hrel
        rename World => w6
        clear b0 b1 b2 b3 b4 b5
        have hmb : m ≤ 17592186043904 := by
          obtain ⟨q1, q2, q3, hq, _, _, hb⟩ := HX5.out.open
          cases hq
          exact hb
        by_cases hlt : i < m
        · obtain ⟨gx, ox, xv, rfl, hxv, _, cx⟩ := (HX5.out.below HB.out).at hlt
          obtain ⟨gt, ot, t, u, k, c, rfl, ht, hlk, hkc, _, ct, his⟩ := (HT5.out.below HB.out).at hlt
          have hins : Ins2 D t := HIN.out t (List.mem_of_getElem? ht)
          have hxe : xv = plc D t := by
            rw [List.getElem?_map, ht] at hxv
            exact (Option.some.inj hxv).symm
          have HTI : Hid (Ins2 D t) := hins
          have hpl := plc_in hins
          have hkn : k = n := by rw [← hlk, hins.1, HN.out]
          subst hkn
          have hx0 : 0 ≤ xv := by rw [hxe]; exact hpl.1
          have hx1 : xv < en := by rw [hxe, HEP.out]; exact hpl.2
          have HXE : Hid (xv = plc D t) := hxe
          have HIT : Hid (Is w6 (.slice u k c) t) := his
          have HCT : Hid (w6.cell? ⟨gt, ot + i, none⟩ = some (.slice u k c)) := ct
          have HDI : Hid (Is w6 (.slice ao k cap) D) := (HI.out.below (HB1.out.trans (HB5.out.mono HB1.out.size))).below HB.out
          have d1 : decide (xv < 0) = false := decide_eq_false (by omega)
          have d2 : decide (en ≤ xv) = false := decide_eq_false (by omega)
          have hili : (i : Int) < (m : Int) := by omega
          clear hxv ht his hins hxe hpl hlk
          go_wp2_with fail
          go_loopw [13, 12] (fun x y wq => ∃ d : Nat, d ≤ k ∧ x = .int .i64 ((d : Int) - 1) ∧ y = .int .i64 (preP D t d) ∧ Hid (Below w6.heap.size w6 wq)) (fun x _ _ => (intOf x + 1).toNat)
          case atStart => exact ⟨k, Nat.le_refl _, rfl, by rw [HXE.out, ← HN.out, preP_all HTI.out], Below.refl _ _⟩
          case round =>
            obtain ⟨d1', hdk, rfl, rfl, HBQ⟩ := hrel
            clear cx ct
            have ctq := (HBQ.out.cell (World.block_lt_of_cell? w6 _ HCT.out)).trans HCT.out
            cases d1' with
            | succ d =>
              obtain ⟨g7, o7, xt, rfl, hxt, _, c7⟩ := (HIT.out.below HBQ.out).at (show d < k by omega)
              obtain ⟨g8, o8, nd, rfl, hnd, _, c8⟩ := (HDI.out.below HBQ.out).at (show d < k by omega)
              obtain ⟨hmod, hdiv⟩ := preP_back HTI.out hxt hnd
              have hin2 := HTI.out.2 d xt nd hxt hnd
              have hp0 := preP_nonneg HTI.out (d + 1)
              have hp1 := preP_le HTI.out (d + 1)
              have hpb := HPB.out
              obtain ⟨L, HL⟩ : ∃ L, Hid (preP D t (d + 1) = L) := ⟨_, rfl⟩
              obtain ⟨L2, HL2⟩ : ∃ L2, Hid (preP D t d = L2) := ⟨_, rfl⟩
              rw [HL.out] at hmod hdiv hp0 hp1 ⊢
              rw [HL2.out] at hdiv
              have HDV : Hid (L / nd = L2) := hdiv
              have e0 : ((d + 1 : Nat) : Int) - 1 = (d : Int) := by omega
              rw [e0]
              have hn1 : 1 ≤ nd := by omega
              have hnz : (nd == 0) = false := by simpa using (by omega : nd ≠ 0)
              have hnz2 : nd ≠ 0 := by omega
              have hnz3 : nd ≠ -1 := by omega
              have hL1 : L ≤ 1048576 := by omega
              have hd0 : (0 : Int) ≤ (d : Int) := by omega
              have hdk2 : (d : Int) < (k : Int) := by omega
              have hL2 : -1 ≤ L2 ∧ L2 ≤ 1048576 := by rw [← HL2.out]; exact ⟨by have := preP_nonneg HTI.out d; omega, by have := preP_le HTI.out d; omega⟩
              clear hxt hnd hin2 hp1 hpb
              go_wp2_with fail
              go_region
              go_wp2_with fail
              go_roundw
              case rel => exact ⟨d, by omega, by simp, by rw [HL2.out, HDV.out], HBQ.out.drew⟩
              case measure => simp [intOf]
            | zero =>
              go_wp2_with fail
              go_roundw
              case rel => exact ⟨i + 1, by omega, by simp, HB.out.trans (HBQ.out.mono HB.out.size)⟩
              case measure => simp [intOf]; omega
        · go_wp2_with (go_at_call 7; refine (lives_any _).mono ?_; rintro e w9 ⟨rfl, hb9⟩; have HB9 : Hid (Below w6.heap.size w6 w9) := hb9; clear hb9)
          go_ret
          exact ⟨rfl, (HB1.out.trans (HB5.out.mono HB1.out.size)).trans ((HB.out.trans (HB9.out.mono HB.out.size)).mono (Nat.le_trans HB1.out.size HB5.out.size))⟩
    · go_ret
      exact ⟨rfl, HB1.out.trans (HB9.out.mono HB1.out.size)⟩
  · have he1 : (er != 0) = true := by simp [he]
    have hm0 : m = 0 := by rw [← HM.out, if_neg he]; rfl
    subst hm0
    by_cases hee : ee = 0
    · subst hee
      go_enter Try.func4, Try.ntmps4
      go_wp2_with (first
      | (have hg := HB5; clear hg; go_at_call 7; refine (lives_any _).mono ?_; rintro e w9 ⟨rfl, hb9⟩; have HB9 : Hid (Below W1.heap.size W1 w9) := HB5.out.trans (hb9.mono HB5.out.size); clear hb9)
      | (have hg := HB4; clear hg; go_at_call 12; refine (HPL.out _ HB4.out).mono ?_; rintro e w5 ⟨⟨xo, xc, rfl, hx5⟩, hb5⟩; have HB5 : Hid (Below W1.heap.size W1 w5) := HB4.out.trans (hb5.mono HB4.out.size); clear hx5 hb5)
      | (have hg := HB3; clear hg; go_at_call 11; refine (HTU.out _ HB3.out).mono ?_; rintro e w4 ⟨⟨tq, tc, rfl, ht4⟩, hb4⟩; have HB4 : Hid (Below W1.heap.size W1 w4) := HB3.out.trans (hb4.mono HB3.out.size); have g0 := (HB4.out.cell (World.block_lt_of_cell? W1 _ b0)).trans b0; have g1 := (HB4.out.cell (World.block_lt_of_cell? W1 _ b1)).trans b1; have g2 := (HB4.out.cell (World.block_lt_of_cell? W1 _ b2)).trans b2; have g3 := (HB4.out.cell (World.block_lt_of_cell? W1 _ b3)).trans b3; have g4 := (HB4.out.cell (World.block_lt_of_cell? W1 _ b4)).trans b4; have g5 := (HB4.out.cell (World.block_lt_of_cell? W1 _ b5)).trans b5; clear ht4 hb4)
      | (have hg := HB2; clear hg; go_at_call 10; refine (HEL.out _ HB2.out).mono ?_; rintro e w3 ⟨rfl, hb3⟩; have HB3 : Hid (Below W1.heap.size W1 w3) := HB2.out.trans (hb3.mono HB2.out.size); have g0 := (HB3.out.cell (World.block_lt_of_cell? W1 _ b0)).trans b0; have g1 := (HB3.out.cell (World.block_lt_of_cell? W1 _ b1)).trans b1; have g2 := (HB3.out.cell (World.block_lt_of_cell? W1 _ b2)).trans b2; have g3 := (HB3.out.cell (World.block_lt_of_cell? W1 _ b3)).trans b3; have g4 := (HB3.out.cell (World.block_lt_of_cell? W1 _ b4)).trans b4; have g5 := (HB3.out.cell (World.block_lt_of_cell? W1 _ b5)).trans b5; clear hb3)
      | (have hg := HB2; clear hg; go_at_call 7; refine (lives_any _).mono ?_; rintro e w9 ⟨rfl, hb9⟩; have HB9 : Hid (Below W1.heap.size W1 w9) := HB2.out.trans (hb9.mono HB2.out.size); clear hb9)
      | (go_at_call 6; refine HGR.out.mono ?_; rintro e w2 ⟨⟨b, rfl⟩, hb2⟩; have HB2 : Hid (Below W1.heap.size W1 w2) := hb2; have g0 := (hb2.cell (World.block_lt_of_cell? W1 _ b0)).trans b0; have g1 := (hb2.cell (World.block_lt_of_cell? W1 _ b1)).trans b1; have g2 := (hb2.cell (World.block_lt_of_cell? W1 _ b2)).trans b2; have g3 := (hb2.cell (World.block_lt_of_cell? W1 _ b3)).trans b3; have g4 := (hb2.cell (World.block_lt_of_cell? W1 _ b4)).trans b4; have g5 := (hb2.cell (World.block_lt_of_cell? W1 _ b5)).trans b5; clear hb2; cases b))
      all_goals
        go_ret
        exact ⟨rfl, HB1.out.trans (HB9.out.mono HB1.out.size)⟩
    · have hq := HLZ.out hee
      subst hq
      go_enter Try.func4, Try.ntmps4
      go_wp2_with (first
      | (have hg := HB5; clear hg; go_at_call 7; refine (lives_any _).mono ?_; rintro e w9 ⟨rfl, hb9⟩; have HB9 : Hid (Below W1.heap.size W1 w9) := HB5.out.trans (hb9.mono HB5.out.size); clear hb9)
      | (have hg := HB4; clear hg; go_at_call 12; refine (HPL.out _ HB4.out).mono ?_; rintro e w5 ⟨⟨xo, xc, rfl, hx5⟩, hb5⟩; have HB5 : Hid (Below W1.heap.size W1 w5) := HB4.out.trans (hb5.mono HB4.out.size); clear hx5 hb5)
      | (have hg := HB3; clear hg; go_at_call 11; refine (HTU.out _ HB3.out).mono ?_; rintro e w4 ⟨⟨tq, tc, rfl, ht4⟩, hb4⟩; have HB4 : Hid (Below W1.heap.size W1 w4) := HB3.out.trans (hb4.mono HB3.out.size); have g0 := (HB4.out.cell (World.block_lt_of_cell? W1 _ b0)).trans b0; have g1 := (HB4.out.cell (World.block_lt_of_cell? W1 _ b1)).trans b1; have g2 := (HB4.out.cell (World.block_lt_of_cell? W1 _ b2)).trans b2; have g3 := (HB4.out.cell (World.block_lt_of_cell? W1 _ b3)).trans b3; have g4 := (HB4.out.cell (World.block_lt_of_cell? W1 _ b4)).trans b4; have g5 := (HB4.out.cell (World.block_lt_of_cell? W1 _ b5)).trans b5; clear ht4 hb4)
      | (have hg := HB2; clear hg; go_at_call 10; refine (HEL.out _ HB2.out).mono ?_; rintro e w3 ⟨rfl, hb3⟩; have HB3 : Hid (Below W1.heap.size W1 w3) := HB2.out.trans (hb3.mono HB2.out.size); have g0 := (HB3.out.cell (World.block_lt_of_cell? W1 _ b0)).trans b0; have g1 := (HB3.out.cell (World.block_lt_of_cell? W1 _ b1)).trans b1; have g2 := (HB3.out.cell (World.block_lt_of_cell? W1 _ b2)).trans b2; have g3 := (HB3.out.cell (World.block_lt_of_cell? W1 _ b3)).trans b3; have g4 := (HB3.out.cell (World.block_lt_of_cell? W1 _ b4)).trans b4; have g5 := (HB3.out.cell (World.block_lt_of_cell? W1 _ b5)).trans b5; clear hb3)
      | (have hg := HB2; clear hg; go_at_call 7; refine (lives_any _).mono ?_; rintro e w9 ⟨rfl, hb9⟩; have HB9 : Hid (Below W1.heap.size W1 w9) := HB2.out.trans (hb9.mono HB2.out.size); clear hb9)
      | (go_at_call 6; refine HGR.out.mono ?_; rintro e w2 ⟨⟨b, rfl⟩, hb2⟩; have HB2 : Hid (Below W1.heap.size W1 w2) := hb2; have g0 := (hb2.cell (World.block_lt_of_cell? W1 _ b0)).trans b0; have g1 := (hb2.cell (World.block_lt_of_cell? W1 _ b1)).trans b1; have g2 := (hb2.cell (World.block_lt_of_cell? W1 _ b2)).trans b2; have g3 := (hb2.cell (World.block_lt_of_cell? W1 _ b3)).trans b3; have g4 := (hb2.cell (World.block_lt_of_cell? W1 _ b4)).trans b4; have g5 := (hb2.cell (World.block_lt_of_cell? W1 _ b5)).trans b5; clear hb2; cases b))
      all_goals
        go_ret
        exact ⟨rfl, HB1.out.trans (HB9.out.mono HB1.out.size)⟩
end Go.Proofs.Ytbjbmjghcjfipab

/-
  Of any selection the tuples are told in the document's order, in memory of their own: the law's walk. No conditions.
-/
import Derived.Test.YtnikbcljonbpcaaSTupF
import Derived.Test.YtnikbcljonbpcaaSAlk
import Derived.Test.YtnikbcljonbpcaaSRTa
namespace Go.Proofs.Ytnikbcljonbpcaa
open Go.RowKit Go.Shelf
set_option linter.unusedVariables false
set_option maxRecDepth 100000

/-- A selection is laid into a new place. -/
theorem sel_box (w : World) (v0 v1 v2 v3 v4 v5 : Value) :
    ∃ wa y0 y1 y2 y3 y4 y5 : World, w.alloc (.cells #[.int .i64 0, .slice none 0 0, .slice none 0 0, .slice none 0 0, .slice none 0 0, .slice none 0 0] 33) = wa ∧ (wa.setCell ⟨w.heap.size, 0, none⟩ v0 = y0 ∧ wa.cell? ⟨w.heap.size, 0, none⟩ = some (.int .i64 0) ∧ wa.frozen? ⟨w.heap.size, 0, none⟩ = false) ∧ (y0.setCell ⟨w.heap.size, 1, none⟩ v1 = y1 ∧ y0.cell? ⟨w.heap.size, 1, none⟩ = some (.slice none 0 0) ∧ y0.frozen? ⟨w.heap.size, 1, none⟩ = false) ∧ (y1.setCell ⟨w.heap.size, 2, none⟩ v2 = y2 ∧ y1.cell? ⟨w.heap.size, 2, none⟩ = some (.slice none 0 0) ∧ y1.frozen? ⟨w.heap.size, 2, none⟩ = false) ∧ (y2.setCell ⟨w.heap.size, 3, none⟩ v3 = y3 ∧ y2.cell? ⟨w.heap.size, 3, none⟩ = some (.slice none 0 0) ∧ y2.frozen? ⟨w.heap.size, 3, none⟩ = false) ∧ (y3.setCell ⟨w.heap.size, 4, none⟩ v4 = y4 ∧ y3.cell? ⟨w.heap.size, 4, none⟩ = some (.slice none 0 0) ∧ y3.frozen? ⟨w.heap.size, 4, none⟩ = false) ∧ (y4.setCell ⟨w.heap.size, 5, none⟩ v5 = y5 ∧ y4.cell? ⟨w.heap.size, 5, none⟩ = some (.slice none 0 0) ∧ y4.frozen? ⟨w.heap.size, 5, none⟩ = false) ∧ y5.heap[w.heap.size]? = some (.cells #[v0, v1, v2, v3, v4, v5] 33 (0, 0)) ∧ Below w.heap.size w y5 := by
  obtain ⟨wa, hwa, hb, hz, hg⟩ := alloc_facts w (.cells #[.int .i64 0, .slice none 0 0, .slice none 0 0, .slice none 0 0, .slice none 0 0, .slice none 0 0] 33)
  obtain ⟨y0, y1, y2, y3, y4, y5, j0, j1, j2, j3, j4, j5, hy, hgr⟩ := sel_sets wa w.heap.size _ _ _ _ _ _ v0 v1 v2 v3 v4 v5 hg
  exact ⟨wa, y0, y1, y2, y3, y4, y5, hwa, j0, j1, j2, j3, j4, j5, hy, hb.grown hgr (by omega) (fun x hx => by have := Option.some.inj hx; omega)⟩
set_option maxHeartbeats 32000000 in
theorem spaceTuples_walk (v : Value) (D : List Int) (V : SV) (s : Sel) (w : World) (hD : Is w v D) (hS : Ss w V s) : Calls Try.prog 5 #[v, selV s.kind V] w fun e w' => e = .returned (.bool true) ∧ Below w.heap.size w w' := by
  have HI : Hid (Is w v D) := hD
  have HS : Hid (Ss w V s) := hS
  obtain ⟨ao, n, cap, rfl, hn, hc, hb⟩ := hD.open
  obtain ⟨a0, n0, c0, a1, n1, c1, a2, n2, c2, a3, n3, c3, a4, n4, c4, e, hV⟩ := selV_open hS
  obtain ⟨W1, hW1, hb1, hz1, b0, b1, b2, b3, b4, b5⟩ := box_sel w s.kind (.slice a0 n0 c0) (.slice a1 n1 c1) (.slice a2 n2 c2) (.slice a3 n3 c3) (.slice a4 n4 c4)
  have HB1 : Hid (Below w.heap.size w W1) := hb1
  have HC6 : Hid (∀ w9, Below W1.heap.size W1 w9 → w9.cell? ⟨w.heap.size, 0, none⟩ = some (.int .i64 s.kind) ∧ w9.cell? ⟨w.heap.size, 1, none⟩ = some (.slice a0 n0 c0) ∧ w9.cell? ⟨w.heap.size, 2, none⟩ = some (.slice a1 n1 c1) ∧ w9.cell? ⟨w.heap.size, 3, none⟩ = some (.slice a2 n2 c2) ∧ w9.cell? ⟨w.heap.size, 4, none⟩ = some (.slice a3 n3 c3) ∧ w9.cell? ⟨w.heap.size, 5, none⟩ = some (.slice a4 n4 c4)) := fun w9 h =>
    ⟨(h.cell (World.block_lt_of_cell? W1 _ b0)).trans b0, (h.cell (World.block_lt_of_cell? W1 _ b1)).trans b1, (h.cell (World.block_lt_of_cell? W1 _ b2)).trans b2, (h.cell (World.block_lt_of_cell? W1 _ b3)).trans b3, (h.cell (World.block_lt_of_cell? W1 _ b4)).trans b4, (h.cell (World.block_lt_of_cell? W1 _ b5)).trans b5⟩
  obtain ⟨er, HER⟩ : ∃ er, Hid (slE D s = er) := ⟨_, rfl⟩
  obtain ⟨L, HL⟩ : ∃ L, Hid ((if er = 0 then tups D s else []) = L) := ⟨_, rfl⟩
  obtain ⟨N, HN⟩ : ∃ N, Hid (L.length = N) := ⟨_, rfl⟩
  have HN4 : Hid (N ≤ 4096) := by
    rw [Hid, ← HN.out, ← HL.out]
    split
    · rename_i h0
      exact (tups_ok hS (HER.out.trans h0)).2.1
    · simp
  have HTB : Hid (∀ t ∈ L, t.length = n) := fun t ht => by
    rw [← HL.out] at ht
    split at ht
    · rename_i h0
      rw [((tups_ok hS (HER.out.trans h0)).2.2 t ht).1, hn]
    · simp at ht
  have hN4 : N ≤ 4096 := HN4.out
  have HGR : Hid (∀ w2, Below W1.heap.size W1 w2 → Calls Try.prog 12 #[.agg #[.int .i64 s.kind, .slice a0 n0 c0, .slice a1 n1 c1, .slice a2 n2 c2, .slice a3 n3 c3, .slice a4 n4 c4]] w2 fun e w' => GrL s.pts.length e ∧ Below w2.heap.size w2 w') := fun w2 h => by
    have := great_le s V w2 (HS.out.below (hb1.trans (h.mono hb1.size)))
    rwa [e] at this
  have HOWN : Hid (∀ w2, s.pts.length ≤ 30000 → Below W1.heap.size W1 w2 → Calls Try.prog 17 #[.agg #[.int .i64 s.kind, .slice a0 n0 c0, .slice a1 n1 c1, .slice a2 n2 c2, .slice a3 n3 c3, .slice a4 n4 c4]] w2 fun e w' => ∃ v, e = .returned v ∧ OwnS w' w2.heap.size s v ∧ Below w2.heap.size w2 w') := fun w2 hp h => by
    have := own_any V s w2 (HS.out.below (hb1.trans (h.mono hb1.size))) hp
    rwa [e] at this
  have HIW : Hid (∀ w9, Below W1.heap.size W1 w9 → Is w9 (.slice ao n cap) D) := fun w9 h => HI.out.below (HB1.out.trans (h.mono HB1.out.size))
  have HSW : Hid (∀ w9, Below W1.heap.size W1 w9 → Ss w9 V s) := fun w9 h => HS.out.below (HB1.out.trans (h.mono HB1.out.size))
  have HTU : Hid (∀ V' w2, Below W1.heap.size W1 w2 → Ss w2 V' s → Calls Try.prog 18 #[.slice ao n cap, selV s.kind V'] w2 fun e w' => ∃ lo lc, e = .returned (.tuple #[.slice lo N lc, .int .i64 er]) ∧ RwP w' w2.heap.size (.slice lo N lc) L ∧ Below w2.heap.size w2 w') := fun V' w2 h hs => by
    refine (tuplesO_any D s _ V' w2 (HIW.out w2 h) hs).mono ?_
    rintro e w' ⟨hb, u, rfl, hr⟩
    rw [HER.out, HL.out] at hr
    have hi := hr.iss (by have := HN.out; have := HN4.out; omega)
    obtain ⟨lo, k, lc, rfl, hk, _⟩ := hi.open
    rw [HN.out] at hk
    subst hk
    exact ⟨lo, lc, by rw [HER.out], hr, hb⟩
  have HRT : Hid (∀ w2, Below W1.heap.size W1 w2 → Calls Try.prog 19 #[.slice ao n cap, .agg #[.int .i64 s.kind, .slice a0 n0 c0, .slice a1 n1 c1, .slice a2 n2 c2, .slice a3 n3 c3, .slice a4 n4 c4]] w2 fun e w' => ∃ lo lc, e = .returned (.tuple #[.slice lo N lc, .int .i64 er]) ∧ RwP w' w2.heap.size (.slice lo N lc) L ∧ Below w2.heap.size w2 w') := fun w2 h => by
    have := refTuples_any D s _ V w2 (HIW.out w2 h) (HSW.out w2 h)
    rw [e] at this
    refine Calls.mono this ?_
    rintro e' w' ⟨u, rfl, hr, hb⟩
    rw [HER.out, HL.out] at hr
    have hi := hr.iss (by have := HN.out; have := HN4.out; omega)
    obtain ⟨lo, k, lc, rfl, hk, _⟩ := hi.open
    rw [HN.out] at hk
    subst hk
    exact ⟨lo, lc, by rw [HER.out], hr, hb⟩
  have HLY : Hid (∀ (B B' : Nat) u u' w9, RwP w9 B u L → RwP w9 B' u' L → Calls Try.prog 20 #[u, u'] w9 fun e w' => e = .returned (.bool true) ∧ Below w9.heap.size w9 w') := fun B B' u u' w9 h h' =>
    lists_yes L u u' w9 (h.iss (by have := HN.out; have := HN4.out; omega)) (h'.iss (by have := HN.out; have := HN4.out; omega))
  have HAK : Hid (∀ V' w9, Below W1.heap.size W1 w9 → Ss w9 V' s → Calls Try.prog 21 #[selV s.kind V', .agg #[.int .i64 s.kind, .slice a0 n0 c0, .slice a1 n1 c1, .slice a2 n2 c2, .slice a3 n3 c3, .slice a4 n4 c4]] w9 fun e w' => e = .returned (.bool true) ∧ Below w9.heap.size w9 w') := fun V' w9 h hs => by
    have := alike_yes s V' V w9 hs (HSW.out w9 h)
    rwa [e] at this
  rw [e]
  clear hD hn e hV hb1
  go_enter Try.func5, Try.ntmps5
  go_wp2_with fail
  clear b0 b1 b2 b3 b4 b5
  refine Calls.mono (HGR.out _ (Below.refl _ _)) ?_
  rintro e w2 ⟨⟨b, rfl, hpl⟩, hb2⟩
  have HPL : Hid (b = false → s.pts.length ≤ 30000) := hpl
  have HW2 : Hid (Below W1.heap.size W1 w2) := hb2
  obtain ⟨b0, b1, b2, b3, b4, b5⟩ := HC6.out w2 HW2.out
  clear hpl hb2
  cases b with
  | true =>
    go_wp2_with (go_at_call 11; refine (lives_any _).mono ?_; rintro e w4 ⟨rfl, hb4⟩; have HBZ : Hid (Below w.heap.size w w4) := HB1.out.trans ((HW2.out.trans (hb4.mono HW2.out.size)).mono HB1.out.size); clear hb4)
    go_ret
    exact ⟨rfl, HBZ.out⟩
  | false =>
    have HP3 : Hid (s.pts.length ≤ 30000) := HPL.out (by first | rfl | trivial)
    go_wp2_with fail
    clear b0 b1 b2 b3 b4 b5
    refine Calls.mono (HOWN.out w2 HP3.out HW2.out) ?_
    rintro e w3 ⟨v3, rfl, ho3, hb3⟩
    obtain ⟨M, pv, g1, d1, g2, d2, g3, d3, g4, d4, rfl, hf3⟩ := ho3.open
    obtain ⟨xpa, xpn, xpc, rfl, _⟩ := (hf3.pt.iss (by have := HP3.out; omega)).open
    have HW3 : Hid (Below W1.heap.size W1 w3) := HW2.out.trans (hb3.mono HW2.out.size)
    obtain ⟨xa, y0, y1, y2, y3, y4, y5, xh, ⟨j0, j1, j2⟩, ⟨j3, j4, j5⟩, ⟨j6, j7, j8⟩, ⟨j9, j10, j11⟩, ⟨j12, j13, j14⟩, ⟨j15, j16, j17⟩, hy, hby⟩ := sel_box w3 (.int .i64 s.kind) (.slice xpa xpn xpc) (.slice (some ⟨g1, 0, none⟩) s.st.length d1) (.slice (some ⟨g2, 0, none⟩) s.sd.length d2) (.slice (some ⟨g3, 0, none⟩) s.ct.length d3) (.slice (some ⟨g4, 0, none⟩) s.bl.length d4)
    have HW5 : Hid (Below W1.heap.size W1 y5) := HW3.out.trans (hby.mono HW3.out.size)
    have HO5 : Hid (OwnF y5 w2.heap.size M s (.slice xpa xpn xpc) s.st.length s.sd.length s.ct.length s.bl.length g1 d1 g2 d2 g3 d3 g4 d4) := hf3.below hby
    have HX6 : Hid (∀ w9, Below y5.heap.size y5 w9 → w9.cell? ⟨w3.heap.size, 0, none⟩ = some (.int .i64 s.kind) ∧ w9.cell? ⟨w3.heap.size, 1, none⟩ = some (.slice xpa xpn xpc) ∧ w9.cell? ⟨w3.heap.size, 2, none⟩ = some (.slice (some ⟨g1, 0, none⟩) s.st.length d1) ∧ w9.cell? ⟨w3.heap.size, 3, none⟩ = some (.slice (some ⟨g2, 0, none⟩) s.sd.length d2) ∧ w9.cell? ⟨w3.heap.size, 4, none⟩ = some (.slice (some ⟨g3, 0, none⟩) s.ct.length d3) ∧ w9.cell? ⟨w3.heap.size, 5, none⟩ = some (.slice (some ⟨g4, 0, none⟩) s.bl.length d4)) := fun w9 h => by
      have hl := (Array.getElem?_eq_some_iff.1 hy).1
      have h9 := (h.block _ hl).trans hy
      exact ⟨cell_of_row _ _ 0 _ _ _ h9, cell_of_row _ _ 1 _ _ _ h9, cell_of_row _ _ 2 _ _ _ h9, cell_of_row _ _ 3 _ _ _ h9, cell_of_row _ _ 4 _ _ _ h9, cell_of_row _ _ 5 _ _ _ h9⟩
    have HSX : Hid (∀ w9, Below y5.heap.size y5 w9 → Ss w9 ⟨.slice xpa xpn xpc, .slice (some ⟨g1, 0, none⟩) s.st.length d1, .slice (some ⟨g2, 0, none⟩) s.sd.length d2, .slice (some ⟨g3, 0, none⟩) s.ct.length d3, .slice (some ⟨g4, 0, none⟩) s.bl.length d4⟩ s) := fun w9 h => (HO5.out.below h).ss HS.out.k HP3.out HS.out.a.len HS.out.b.len HS.out.c.len HS.out.d.len HS.out.a.rng HS.out.b.rng HS.out.c.rng HS.out.d.rng
    have HW9 : Hid (∀ w9, Below y5.heap.size y5 w9 → Below W1.heap.size W1 w9) := fun w9 h => HW5.out.trans (h.mono HW5.out.size)
    have x0 := HX6.out y5 (Below.refl _ _)
    obtain ⟨x0, x1, x2, x3, x4, x5⟩ := x0
    clear hf3 ho3 hb3 hy hby
    go_wp2_with fail
    clear xh j0 j1 j2 j3 j4 j5 j6 j7 j8 j9 j10 j11 j12 j13 j14 j15 j16 j17 x0 x1 x2 x3 x4 x5
    refine Calls.mono (HTU.out ⟨.slice xpa xpn xpc, .slice (some ⟨g1, 0, none⟩) s.st.length d1, .slice (some ⟨g2, 0, none⟩) s.sd.length d2, .slice (some ⟨g3, 0, none⟩) s.ct.length d3, .slice (some ⟨g4, 0, none⟩) s.bl.length d4⟩ y5 HW5.out (HSX.out _ (Below.refl _ _))) ?_
    rintro e w4 ⟨lo, lc, rfl, hr4, hb4⟩
    have HR4 : Hid (RwP w4 y5.heap.size (.slice lo N lc) L) := hr4
    have HY4 : Hid (Below y5.heap.size y5 w4) := hb4
    obtain ⟨x0, x1, x2, x3, x4, x5⟩ := HX6.out w4 HY4.out
    clear hr4 hb4
    go_wp2_with fail
    clear x0 x1 x2 x3 x4 x5
    refine Calls.mono (HTU.out ⟨.slice xpa xpn xpc, .slice (some ⟨g1, 0, none⟩) s.st.length d1, .slice (some ⟨g2, 0, none⟩) s.sd.length d2, .slice (some ⟨g3, 0, none⟩) s.ct.length d3, .slice (some ⟨g4, 0, none⟩) s.bl.length d4⟩ w4 (HW9.out _ HY4.out) (HSX.out _ HY4.out)) ?_
    rintro e w5 ⟨ko, kc, rfl, hr5, hb5⟩
    have HK5 : Hid (RwP w5 w4.heap.size (.slice ko N kc) L) := hr5
    have HR5 : Hid (RwP w5 y5.heap.size (.slice lo N lc) L) := HR4.out.below hb5
    have HY5 : Hid (Below y5.heap.size y5 w5) := HY4.out.trans (hb5.mono HY4.out.size)
    have HZ5 : Hid (w4.heap.size ≤ w5.heap.size) := hb5.size
    have HRL : Hid (Rl w5 y5.heap.size w4.heap.size (.slice lo N lc) L) := (Rl.of HR4.out).below hb5
    obtain ⟨b0, b1, b2, b3, b4, b5⟩ := HC6.out w5 (HW9.out _ HY5.out)
    clear hr5 hb5
    go_wp2_with fail
    clear b0 b1 b2 b3 b4 b5
    refine Calls.mono (HRT.out w5 (HW9.out _ HY5.out)) ?_
    rintro e w6 ⟨wo, wc, rfl, hr6, hb6⟩
    have HV6 : Hid (RwP w6 w5.heap.size (.slice wo N wc) L) := hr6
    have HK6 : Hid (RwP w6 w4.heap.size (.slice ko N kc) L) := HK5.out.below hb6
    have HR6 : Hid (RwP w6 y5.heap.size (.slice lo N lc) L) := HR5.out.below hb6
    have HRL6 : Hid (Rl w6 y5.heap.size w4.heap.size (.slice lo N lc) L) := HRL.out.below hb6
    have HY6 : Hid (Below y5.heap.size y5 w6) := HY5.out.trans (hb6.mono HY5.out.size)
    clear hr6 hb6
    have HQ : Hid ((er != er) = false) := by simp [Hid]
    go_wp2_with fail
    refine Calls.mono (HLY.out _ _ _ _ w6 HR6.out HV6.out) ?_
    rintro e w7 ⟨rfl, hb7⟩
    have HV7 : Hid (RwP w7 w5.heap.size (.slice wo N wc) L) := HV6.out.below hb7
    have HK7 : Hid (RwP w7 w4.heap.size (.slice ko N kc) L) := HK6.out.below hb7
    have HRL7 : Hid (Rl w7 y5.heap.size w4.heap.size (.slice lo N lc) L) := HRL6.out.below hb7
    have HY7 : Hid (Below y5.heap.size y5 w7) := HY6.out.trans (hb7.mono HY6.out.size)
    obtain ⟨x0, x1, x2, x3, x4, x5⟩ := HX6.out w7 HY7.out
    obtain ⟨b0, b1, b2, b3, b4, b5⟩ := HC6.out w7 (HW9.out _ HY7.out)
    clear hb7
    go_wp2_with fail
    clear x0 x1 x2 x3 x4 x5 b0 b1 b2 b3 b4 b5
    refine Calls.mono (HAK.out ⟨.slice xpa xpn xpc, .slice (some ⟨g1, 0, none⟩) s.st.length d1, .slice (some ⟨g2, 0, none⟩) s.sd.length d2, .slice (some ⟨g3, 0, none⟩) s.ct.length d3, .slice (some ⟨g4, 0, none⟩) s.bl.length d4⟩ w7 (HW9.out _ HY7.out) (HSX.out _ HY7.out)) ?_
    rintro e w8 ⟨rfl, hb8⟩
    have HV8 : Hid (RwP w8 w5.heap.size (.slice wo N wc) L) := HV7.out.below hb8
    have HK8 : Hid (RwP w8 w4.heap.size (.slice ko N kc) L) := HK7.out.below hb8
    have HRL8 : Hid (Rl w8 y5.heap.size w4.heap.size (.slice lo N lc) L) := HRL7.out.below hb8
    have HY8 : Hid (Below y5.heap.size y5 w8) := HY7.out.trans (hb8.mono HY7.out.size)
    clear hb8 HR4 HR5 HR6 HRL HRL6 HRL7 HK5 HK6 HK7 HV6 HV7
    go_wp2_with fail
    go_loopw [12] (fun x wr => ∃ i : Nat, i ≤ N ∧ x = .int .i64 (i : Int) ∧ Hid (Rl wr y5.heap.size w4.heap.size (.slice lo N lc) L) ∧ Hid (RwP wr w4.heap.size (.slice ko N kc) L) ∧ Hid (RwP wr w5.heap.size (.slice wo N wc) L) ∧ Hid (Below y5.heap.size y5 wr)) (fun x _ => N - (intOf x).toNat)
    case atStart => exact ⟨0, Nat.zero_le _, rfl, HRL8.out, HK8.out, HV8.out, HY8.out⟩
    case round =>
      clear HRL8 HK8 HV8 HY8
      obtain ⟨i, hin, rfl, HRL, HK, HV, HY⟩ := hrel
      rename World => wq
      by_cases hlt : i < N
      · have hil : (i : Int) < (N : Int) := by omega
        have hi0 : (0 : Int) ≤ (i : Int) := by omega
        go_wp2_with fail
        go_loopw [13] (fun x wr => ∃ d : Nat, x = .int .i64 (d : Int) ∧ Hid (∃ t, L[i]? = some t ∧ d ≤ t.length) ∧ Hid (Rl wr y5.heap.size w4.heap.size (.slice lo N lc) L) ∧ Hid (RwP wr w4.heap.size (.slice ko N kc) L) ∧ Hid (RwP wr w5.heap.size (.slice wo N wc) L) ∧ Hid (Below y5.heap.size y5 wr)) (fun x _ => (L.getD i []).length - (intOf x).toNat)
        case atStart => exact ⟨0, rfl, ⟨_, List.getElem?_eq_getElem (show i < L.length by rw [HN.out]; exact hlt), Nat.zero_le _⟩, HRL.out, HK.out, HV.out, HY.out⟩
        case round =>
          clear HRL HK HV HY
          obtain ⟨d, rfl, HT, HRL, HK, HV, HY⟩ := hrel
          rename World => wp
          obtain ⟨gl, u, uc, m, t, rfl, ht, htm, hcu, hmu, hrow⟩ := HRL.out.at HN.out hlt
          have hdm : d ≤ m := by
            obtain ⟨t', h1, h2⟩ := HT.out
            rw [ht] at h1
            obtain rfl := Option.some.inj h1
            omega
          have HTT : Hid (L[i]? = some t ∧ t.length = m) := ⟨ht, htm⟩
          have HLG : Hid ((L.getD i []).length = m) := by rw [Hid, List.getD, ht]; exact htm
          have hmn : m ≤ 17592186043904 := by
            have h9 := HTB.out t (List.mem_of_getElem? ht)
            omega
          clear ht htm
          by_cases hlt2 : d < m
          · have hdl : (d : Int) < (m : Int) := by omega
            have hd0 : (0 : Int) ≤ (d : Int) := by omega
            obtain ⟨gu, x, rfl, hx, hfx, hB, hM, hset⟩ := hrow d hlt2
            obtain ⟨wn, hwn⟩ : ∃ wn, wp.setCell ⟨gu, d, none⟩ (.int .i64 (-5)) = wn := ⟨_, rfl⟩
            have hgn : wp.grownBy wn (some gu) := by rw [← hwn]; exact set_grown _ _ _ _
            have HRN : Hid (Rl wn y5.heap.size w4.heap.size (.slice (some ⟨gl, 0, none⟩) N lc) L) := by rw [← hwn]; exact hset (-5)
            have HKN : Hid (RwP wn w4.heap.size (.slice ko N kc) L) := HK.out.grown hgn (fun k hk => by have := Option.some.inj hk; omega)
            have HVN : Hid (RwP wn w5.heap.size (.slice wo N wc) L) := HV.out.grown hgn (fun k hk => by have := Option.some.inj hk; have := HZ5.out; omega)
            have HYN : Hid (Below y5.heap.size y5 wn) := HY.out.grown hgn HY.out.size (fun b hb => by have := Option.some.inj hb; omega)
            have HTN : Hid (∃ t, L[i]? = some t ∧ d + 1 ≤ t.length) := ⟨t, HTT.out.1, by rw [HTT.out.2]; exact hlt2⟩
            clear hset hgn hrow
            go_wp2_with fail
            go_roundw
            case rel => exact ⟨d + 1, by simp, HTN.out, HRN.out, HKN.out, HVN.out, HYN.out⟩
            case measure => rw [HLG.out]; simp [intOf]; omega
          · clear hrow
            go_wp2_with fail
            go_roundw
            case rel => exact ⟨i + 1, hlt, by simp, HRL.out, HK.out, HV.out, HY.out⟩
            case measure => simp [intOf]; omega
      · go_wp2_with fail
        refine Calls.mono (HLY.out _ _ _ _ wq HK.out HV.out) ?_
        rintro e wz ⟨rfl, hbz⟩
        have HYZ : Hid (Below y5.heap.size y5 wz) := HY.out.trans (hbz.mono HY.out.size)
        obtain ⟨x0, x1, x2, x3, x4, x5⟩ := HX6.out wz HYZ.out
        obtain ⟨b0, b1, b2, b3, b4, b5⟩ := HC6.out wz (HW9.out _ HYZ.out)
        clear hbz
        go_wp2_with fail
        clear x0 x1 x2 x3 x4 x5 b0 b1 b2 b3 b4 b5
        refine Calls.mono (HAK.out ⟨.slice xpa xpn xpc, .slice (some ⟨g1, 0, none⟩) s.st.length d1, .slice (some ⟨g2, 0, none⟩) s.sd.length d2, .slice (some ⟨g3, 0, none⟩) s.ct.length d3, .slice (some ⟨g4, 0, none⟩) s.bl.length d4⟩ wz (HW9.out _ HYZ.out) (HSX.out _ HYZ.out)) ?_
        rintro e wy ⟨rfl, hby⟩
        have HYY : Hid (Below W1.heap.size W1 wy) := HW9.out _ (HYZ.out.trans (hby.mono HYZ.out.size))
        clear hby
        go_wp2_with (go_at_call 11; refine (lives_any _).mono ?_; rintro e wx ⟨rfl, hbx⟩; have HBZ : Hid (Below w.heap.size w wx) := HB1.out.trans ((HYY.out.trans (hbx.mono HYY.out.size)).mono HB1.out.size); clear hbx)
        go_ret
        exact ⟨rfl, HBZ.out⟩
end Go.Proofs.Ytnikbcljonbpcaa

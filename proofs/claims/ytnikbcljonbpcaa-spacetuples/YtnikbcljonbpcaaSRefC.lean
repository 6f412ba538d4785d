/-
  The document's Check. No conditions.
-/
import Derived.Test.YtnikbcljonbpcaaSRefC0
namespace Go.Proofs.Ytnikbcljonbpcaa
open Go.RowKit Go.Shelf
set_option linter.unusedVariables false
set_option maxRecDepth 100000

theorem below_dN {B : Nat} {w0 w : World} (h : Below B w0 w) (hB : B ≤ w.heap.size) (n : Nat) : Below B w0 (w.drewN n) := h.trans (Below.mono (B := w.heap.size) ⟨rfl, rfl, rfl, Nat.le_refl _, fun _ _ => rfl⟩ hB)
set_option maxHeartbeats 16000000 in
theorem refCheck_any (D : List Int) (s : Sel) (vd : Value) (V : SV) (w : World) (hD : Is w vd D) (hS : Ss w V s) : Calls Try.prog 15 #[vd, selV s.kind V] w fun e w' => e = .returned (.int .i64 (slE D s)) ∧ Below w.heap.size w w' := by
  have HI : Hid (Is w vd D) := hD
  have HS : Hid (Ss w V s) := hS
  obtain ⟨ao, n, cap, rfl, hn, hc, hb⟩ := hD.open
  have HN : Hid (D.length = n) := hn
  obtain ⟨a0, n0, c0, a1, n1, c1, a2, n2, c2, a3, n3, c3, a4, n4, c4, e, hV⟩ := selV_open hS
  obtain ⟨W1, hW1, hb1, hz1, b0, b1, b2, b3, b4, b5⟩ := box_sel w s.kind (.slice a0 n0 c0) (.slice a1 n1 c1) (.slice a2 n2 c2) (.slice a3 n3 c3) (.slice a4 n4 c4)
  have HB1 : Hid (Below w.heap.size w W1) := hb1
  obtain ⟨r, HR⟩ : ∃ r, Hid (slE D s = r) := ⟨_, rfl⟩
  obtain ⟨en, HEN⟩ : ∃ en, Hid (elN D = en) := ⟨_, rfl⟩
  obtain ⟨ee, HEE⟩ : ∃ ee, Hid (elE D = ee) := ⟨_, rfl⟩
  obtain ⟨k, HK⟩ : ∃ k, Hid (s.kind = k) := ⟨_, rfl⟩
  have HEL : Hid (Calls Try.prog 10 #[.slice ao n cap] W1 fun e w' => e = .returned (.tuple #[.int .i64 en, .int .i64 ee]) ∧ Below W1.heap.size W1 w') := by
    have := refElements_any D _ W1 (hD.below hb1)
    rwa [HEN.out, HEE.out] at this
  have HP : Hid (Iss w (.slice a0 n0 c0) s.pts) := by have := hS.p; rwa [hV] at this
  have HA1 : Hid (Is w (.slice a1 n1 c1) s.st) := by have := hS.a; rwa [hV] at this
  have HA2 : Hid (Is w (.slice a2 n2 c2) s.sd) := by have := hS.b; rwa [hV] at this
  have HA3 : Hid (Is w (.slice a3 n3 c3) s.ct) := by have := hS.c; rwa [hV] at this
  have HA4 : Hid (Is w (.slice a4 n4 c4) s.bl) := by have := hS.d; rwa [hV] at this
  rw [e, HR.out]
  by_cases h1 : ee = 0
  · have hE : elE D = 0 := by rw [HEE.out, h1]
    have hn4 : n ≤ 4 := by have := (dims_of (elE_ok hE).1).1; omega
    obtain ⟨mb, HMB⟩ : ∃ mb, Hid (mayS n s = mb) := ⟨_, rfl⟩
    have HMY : Hid (∀ w2, Below W1.heap.size W1 w2 → Calls Try.prog 27 #[.int .i64 (n : Int), .agg #[.int .i64 k, .slice a0 n0 c0, .slice a1 n1 c1, .slice a2 n2 c2, .slice a3 n3 c3, .slice a4 n4 c4]] w2 fun e w' => e = .returned (.bool mb) ∧ Below w2.heap.size w2 w') := fun w2 hb2 => by
      have := refMay_any s V n w2 (HS.out.below (hb1.trans (hb2.mono hb1.size))) hn4
      rwa [e, HMB.out, HK.out] at this
    have HDB : Hid (∀ (i : Nat) x, D[i]? = some x → 0 ≤ x ∧ x ≤ 1048576) := fun i x hx => (dims_of (elE_ok hE).1).2 x (List.mem_of_getElem? hx)
    have HE : Hid (elE D = 0) := hE
    subst h1
    rw [HK.out] at b0 hW1 ⊢
    cases mb with
    | false =>
      have hr : r = 2 := by rw [← HR.out]; exact chk_no hE (by rw [hn]; exact HMB.out)
      subst hr
      clear hD hS hn hb1 e hV hE
      go_enter Try.func15, Try.ntmps15
      go_wp2_with (first
        | (go_at_call 10; refine Calls.mono HEL.out ?_; rintro e w2 ⟨rfl, hb2⟩; have HB2 : Hid (Below W1.heap.size W1 w2) := hb2; have d0 := (hb2.cell (World.block_lt_of_cell? W1 _ b0)).trans b0; have d1 := (hb2.cell (World.block_lt_of_cell? W1 _ b1)).trans b1; have d2 := (hb2.cell (World.block_lt_of_cell? W1 _ b2)).trans b2; have d3 := (hb2.cell (World.block_lt_of_cell? W1 _ b3)).trans b3; have d4 := (hb2.cell (World.block_lt_of_cell? W1 _ b4)).trans b4; have d5 := (hb2.cell (World.block_lt_of_cell? W1 _ b5)).trans b5; clear hb2)
        | (go_at_call 27; refine Calls.mono (HMY.out _ HB2.out) ?_; rintro e w3 ⟨rfl, hb3⟩; have HB3 : Hid (Below W1.heap.size W1 w3) := HB2.out.trans (hb3.mono HB2.out.size); clear hb3))
      go_ret
      exact ⟨rfl, HB1.out.trans (HB3.out.mono HB1.out.size)⟩
    | true =>
      have hM : mayS D.length s = true := by rw [hn]; exact HMB.out
      have HM : Hid (mayS D.length s = true) := hM
      obtain ⟨m, HMM⟩ : ∃ m, Hid (min (slN D s) 4097 = m) := ⟨_, rfl⟩
      have hm0 : 0 ≤ m := by have := slN_nonneg hS hE hM; have := HMM.out; omega
      have HSL : Hid (∀ w2, Below W1.heap.size W1 w2 → Calls Try.prog 28 #[.slice ao n cap, .agg #[.int .i64 k, .slice a0 n0 c0, .slice a1 n1 c1, .slice a2 n2 c2, .slice a3 n3 c3, .slice a4 n4 c4]] w2 fun e w' => e = .returned (.int .i64 m) ∧ Below w2.heap.size w2 w') := fun w2 hb2 => by
        have hw2 := hb1.trans (hb2.mono hb1.size)
        have := refSelected_any D s _ V w2 (HI.out.below hw2) (HS.out.below hw2) HE.out HM.out
        rwa [e, HMM.out, HK.out] at this
      have HEND : Hid (r = (if slN D s ≤ 4096 then 0 else 18) → r = if 4096 < m then 18 else 0) := fun h => by
        rw [h]
        have := HMM.out
        by_cases h9 : slN D s ≤ 4096
        · rw [if_pos h9, if_neg (by omega)]
        · rw [if_neg h9, if_pos (by omega)]
      have HPB : Hid (∀ w2, Below W1.heap.size W1 w2 → w2.cell? ⟨w.heap.size, 0, none⟩ = some (.int .i64 k) ∧ w2.cell? ⟨w.heap.size, 1, none⟩ = some (.slice a0 n0 c0) ∧ w2.cell? ⟨w.heap.size, 2, none⟩ = some (.slice a1 n1 c1) ∧ w2.cell? ⟨w.heap.size, 3, none⟩ = some (.slice a2 n2 c2) ∧ w2.cell? ⟨w.heap.size, 4, none⟩ = some (.slice a3 n3 c3) ∧ w2.cell? ⟨w.heap.size, 5, none⟩ = some (.slice a4 n4 c4)) := fun w2 hb2 =>
        ⟨(hb2.cell (World.block_lt_of_cell? W1 _ b0)).trans b0, (hb2.cell (World.block_lt_of_cell? W1 _ b1)).trans b1, (hb2.cell (World.block_lt_of_cell? W1 _ b2)).trans b2, (hb2.cell (World.block_lt_of_cell? W1 _ b3)).trans b3, (hb2.cell (World.block_lt_of_cell? W1 _ b4)).trans b4, (hb2.cell (World.block_lt_of_cell? W1 _ b5)).trans b5⟩
      have hSS := hS
      clear hD hS hn hb1 e hV hM hSS
      go_enter Try.func15, Try.ntmps15
      go_wp2_with (first
        | (go_at_call 10; refine Calls.mono HEL.out ?_; rintro e w2 ⟨rfl, hb2⟩; have HB2 : Hid (Below W1.heap.size W1 w2) := hb2; obtain ⟨d0, d1, d2, d3, d4, d5⟩ := HPB.out w2 hb2; clear hb2)
        | (go_at_call 27; refine Calls.mono (HMY.out _ HB2.out) ?_; rintro e w3 ⟨rfl, hb3⟩; have HB3 : Hid (Below W1.heap.size W1 w3) := HB2.out.trans (hb3.mono HB2.out.size); obtain ⟨d0, d1, d2, d3, d4, d5⟩ := HPB.out w3 HB3.out; clear hb3)
        | (go_at_call 28; refine Calls.mono (HSL.out _ HB3.out) ?_; rintro e w4 ⟨rfl, hb4⟩; have HB4 : Hid (Below W1.heap.size W1 w4) := HB3.out.trans (hb4.mono HB3.out.size); clear hb4))
      clear d0 d1 d2 d3 d4 d5
      by_cases k2 : k = 2
      · subst k2
        obtain ⟨_, _, _, e9, hl, hc9, hb9⟩ := HP.out.open
        injection e9 with e1 e2 e3
        subst e1 e2 e3
        have HL : Hid (s.pts.length = n0) := hl
        have HOK : Hid (∀ (j : Nat) t, s.pts[j]? = some t → t.length = n) := fun j t ht => by
          have h9 := HM.out
          rw [mayS, if_neg (by rw [HK.out]; omega), if_pos HK.out, List.all_eq_true] at h9
          have := (okB_iff.1 (h9 t (List.mem_of_getElem? ht))).1
          rw [this, HN.out]
        clear hl
        go_loopw [8] (fun x wr => ∃ i : Nat, i ≤ n ∧ x = .int .i64 (i : Int) ∧ Hid (∀ (i' j : Nat) t x y, i' < i → s.pts[j]? = some t → t[i']? = some x → D[i']? = some y → x < y) ∧ Hid (Below W1.heap.size W1 wr)) (fun x _ => n - (intOf x).toNat)
        case atStart => exact ⟨0, Nat.zero_le _, rfl, fun i' j t x y h => by omega, HB4.out⟩
        case round =>
          obtain ⟨i, hin, rfl, HG, HB⟩ := hrel
          rename World => w6
          obtain ⟨d0, d1, d2, d3, d4, d5⟩ := HPB.out w6 HB.out
          by_cases hlt : i < n
          · obtain ⟨gd, od, y, rfl, hy, _, cd⟩ := ((HI.out.below HB1.out).below HB.out).at hlt
            have HY : Hid (D[i]? = some y) := hy
            have hili : (i : Int) < (n : Int) := by omega
            have HCD : Hid (∀ w9, Below W1.heap.size W1 w9 → w9.cell? ⟨gd, od + i, none⟩ = some (.int .i64 y)) := fun w9 h9 => by
              obtain ⟨g', o', y', e', hy', _, c'⟩ := ((HI.out.below HB1.out).below h9).at hlt
              rw [HY.out] at hy'
              injection e' with e'
              injection e' with e1 e2
              subst e1 e2
              injection hy' with hy'
              rw [c', hy']
            clear hy cd
            go_wp2_with fail
            go_loopw [9] (fun x wr => ∃ j : Nat, j ≤ n0 ∧ x = .int .i64 (j : Int) ∧ Hid (∀ (j' : Nat) t x, j' < j → s.pts[j']? = some t → t[i]? = some x → x < y) ∧ Hid (Below W1.heap.size W1 wr)) (fun x _ => n0 - (intOf x).toNat)
            case atStart => exact ⟨0, Nat.zero_le _, rfl, fun j' t x h => by omega, HB.out⟩
            case round =>
              obtain ⟨j, hjn, rfl, HJ, HB7⟩ := hrel
              rename World => w7
              clear d0 d1 d2 d3 d4 d5
              obtain ⟨d0, d1, d2, d3, d4, d5⟩ := HPB.out w7 HB7.out
              by_cases hlt2 : j < n0
              · obtain ⟨g, o, l, u, q, c, rfl, hl, hlq, _, _, hcell, his⟩ := ((HP.out.below HB1.out).below HB7.out).at hlt2
                have hjlj : (j : Int) < (n0 : Int) := by omega
                have hq : q = n := by rw [← hlq, HOK.out j l hl]
                subst hq
                obtain ⟨gx, ox, x, rfl, hx, _, cx⟩ := his.at hlt
                have cd := HCD.out w7 HB7.out
                have HX : Hid (s.pts[j]? = some l ∧ l[i]? = some x) := ⟨hl, hx⟩
                clear hl hx his hlq d2 d3 d4 d5
                by_cases hbad : y ≤ x
                · have hr : r = 17 := by rw [← HR.out]; exact chk_2_bad HE.out HM.out HK.out HX.out.1 HX.out.2 HY.out hbad
                  subst hr
                  have e1 : decide (y ≤ x) = true := by simpa using hbad
                  go_wp2_with fail
                  go_quiet (fail)
                  go_wp2_with fail
                  go_ret
                  exact ⟨rfl, below_dN (HB1.out.trans (HB7.out.mono HB1.out.size)) (Nat.le_trans HB1.out.size HB7.out.size) _⟩
                · have e1 : decide (y ≤ x) = false := by simpa using hbad
                  go_wp2_with fail
                  go_quiet (fail)
                  go_wp2_with fail
                  go_roundw
                  case rel =>
                    refine ⟨j + 1, by omega, by simp, fun j' t x' hj' ht hx' => ?_, below_dN HB7.out HB7.out.size _⟩
                    by_cases hjj : j' = j
                    · subst hjj
                      rw [HX.out.1] at ht
                      obtain rfl := Option.some.inj ht
                      rw [HX.out.2] at hx'
                      obtain rfl := Option.some.inj hx'
                      omega
                    · exact HJ.out j' t x' (by omega) ht hx'
                  case measure => simp [intOf]; omega
              · have HJ2 : Hid (∀ (j' : Nat) t x, s.pts[j']? = some t → t[i]? = some x → x < y) := fun j' t x ht hx => HJ.out j' t x (by have := (List.getElem?_eq_some_iff.1 ht).1; have := HL.out; omega) ht hx
                go_wp2_with fail
                go_quiet (fail)
                go_wp2_with fail
                go_roundw
                case rel =>
                  refine ⟨i + 1, by omega, by simp, fun i' j' t x' y' hi' ht hx' hy' => ?_, below_dN HB7.out HB7.out.size _⟩
                  by_cases hii : i' = i
                  · subst hii
                    rw [HY.out] at hy'
                    obtain rfl := Option.some.inj hy'
                    exact HJ2.out j' t x' ht hx'
                  · exact HG.out i' j' t x' y' (by omega) ht hx' hy'
                case measure => simp [intOf]; omega
          · have hr : r = if 4096 < m then 18 else 0 := HEND.out (by
              rw [← HR.out]
              refine chk_2_good HE.out HM.out HK.out (fun i' j t x y ht hx hy => HG.out i' j t x y ?_ ht hx hy)
              have := (List.getElem?_eq_some_iff.1 hy).1
              have := HN.out
              omega)
            by_cases hmm : 4096 < m
            · rw [if_pos hmm] at hr
              subst hr
              go_wp2_with fail
              go_ret
              exact ⟨rfl, HB1.out.trans (HB.out.mono HB1.out.size)⟩
            · rw [if_neg hmm] at hr
              subst hr
              go_wp2_with fail
              go_ret
              exact ⟨rfl, HB1.out.trans (HB.out.mono HB1.out.size)⟩
      · have f2 : (k == 2) = false := by simpa using k2
        have f2' : decide (k = 2) = false := by simpa using k2
        by_cases k3 : k = 3
        · subst k3
          have hm := HM.out
          rw [mayS, if_neg (by rw [HK.out]; omega), if_neg (by rw [HK.out]; omega), if_pos HK.out] at hm
          simp only [Bool.and_eq_true] at hm
          obtain ⟨⟨⟨o1, o2⟩, o3⟩, o4⟩ := hm
          rw [okB_iff] at o1 o2 o3 o4
          rw [HN.out] at o1 o2 o3 o4
          have q1 : n1 = n := by obtain ⟨_, _, _, e9, hl, _, _⟩ := HA1.out.open; injection e9 with e1 e2 e3; omega
          have q2 : n2 = n := by obtain ⟨_, _, _, e9, hl, _, _⟩ := HA2.out.open; injection e9 with e1 e2 e3; omega
          have q3 : n3 = n := by obtain ⟨_, _, _, e9, hl, _, _⟩ := HA3.out.open; injection e9 with e1 e2 e3; omega
          have q4 : n4 = n := by obtain ⟨_, _, _, e9, hl, _, _⟩ := HA4.out.open; injection e9 with e1 e2 e3; omega
          subst q1 q2 q3 q4
          have HAX : Hid (∀ (i : Nat) st sd ct bl, s.st[i]? = some st → s.sd[i]? = some sd → s.ct[i]? = some ct → s.bl[i]? = some bl → (slabA s.st s.sd s.ct s.bl)[i]? = some ⟨st, sd, ct, bl⟩ ∧ AxOk ⟨st, sd, ct, bl⟩) := fun i st sd ct bl h1 h2 h3 h4 => by
            refine ⟨slabA_at _ _ _ _ i _ _ _ _ h1 h2 h3 h4, ?_⟩
            have m1 := List.mem_of_getElem? h1
            have m2 := List.mem_of_getElem? h2
            have m3 := List.mem_of_getElem? h3
            have m4 := List.mem_of_getElem? h4
            exact ⟨o1.2 _ m1, (HA1.out.rng _ m1).2, o2.2 _ m2, (HA2.out.rng _ m2).2, o3.2 _ m3, (HA3.out.rng _ m3).2, o4.2 _ m4, (HA4.out.rng _ m4).2⟩
          clear o1 o2 o3 o4
          by_cases hmz : m = 0
          · have hz : slN D s = 0 := by have := HMM.out; omega
            have hr : r = 0 := by rw [← HR.out, chk_3_good HE.out HM.out HK.out (.inl hz), hz]; rfl
            subst hr hmz
            clear hz
            go_loopw [8] (fun x wr => ∃ i : Nat, i ≤ n4 ∧ x = .int .i64 (i : Int) ∧ Hid (Below W1.heap.size W1 wr)) (fun x _ => n4 - (intOf x).toNat)
            case atStart => exact ⟨0, Nat.zero_le _, rfl, HB4.out⟩
            case round =>
              obtain ⟨i, hin, rfl, HB⟩ := hrel
              rename World => w6
              obtain ⟨d0, d1, d2, d3, d4, d5⟩ := HPB.out w6 HB.out
              by_cases hlt : i < n4
              · have hili : (i : Int) < (n4 : Int) := by omega
                go_wp2_with fail
                go_quiet (fail)
                go_wp2_with fail
                go_roundw
                case rel => exact ⟨i + 1, by omega, by simp, below_dN HB.out HB.out.size _⟩
                case measure => simp [intOf]; omega
              · go_wp2_with fail
                go_ret
                exact ⟨rfl, HB1.out.trans (HB.out.mono HB1.out.size)⟩
          · have hmp : 0 < m := by omega
            have HNZ : Hid (slN D s ≠ 0) := by have := HMM.out; rw [Hid]; omega
            have HPOS : Hid (∀ a, a ∈ slabA s.st s.sd s.ct s.bl → a.ct ≠ 0 ∧ a.bl ≠ 0) := fun a ha => by
              obtain ⟨i, hi⟩ := List.getElem?_of_mem ha
              have h9 := HNZ.out
              rw [slN, if_neg (by rw [HK.out]; omega), axA, if_neg (by rw [HK.out]; omega)] at h9
              exact ⟨fun e => h9 (cnts_zero hi (.inl e)), fun e => h9 (cnts_zero hi (.inr e))⟩
            go_loopw [8] (fun x wr => ∃ i : Nat, i ≤ n4 ∧ x = .int .i64 (i : Int) ∧ Hid (∀ (i' : Nat) (y : Int) (a : Ax), i' < i → (slabA s.st s.sd s.ct s.bl)[i']? = some a → D[i']? = some y → fitB y a = true) ∧ Hid (Below W1.heap.size W1 wr)) (fun x _ => n4 - (intOf x).toNat)
            case atStart => exact ⟨0, Nat.zero_le _, rfl, fun i' y a h => by omega, HB4.out⟩
            case round =>
              obtain ⟨i, hin, rfl, HG, HB⟩ := hrel
              rename World => w6
              obtain ⟨d0, d1, d2, d3, d4, d5⟩ := HPB.out w6 HB.out
              by_cases hlt : i < n4
              · obtain ⟨gd, od, y, rfl, hy, _, cd⟩ := ((HI.out.below HB1.out).below HB.out).at hlt
                obtain ⟨g1, o1, st, rfl, h1, _, cc1⟩ := ((HA1.out.below HB1.out).below HB.out).at hlt
                obtain ⟨g2, o2, sd, rfl, h2, _, cc2⟩ := ((HA2.out.below HB1.out).below HB.out).at hlt
                obtain ⟨g3, o3, ct, rfl, h3, _, cc3⟩ := ((HA3.out.below HB1.out).below HB.out).at hlt
                obtain ⟨g4, o4, bl, rfl, h4, _, cc4⟩ := ((HA4.out.below HB1.out).below HB.out).at hlt
                have hili : (i : Int) < (n4 : Int) := by omega
                obtain ⟨ha, hok⟩ := HAX.out i st sd ct bl h1 h2 h3 h4
                have HA : Hid ((slabA s.st s.sd s.ct s.bl)[i]? = some ⟨st, sd, ct, bl⟩ ∧ D[i]? = some y) := ⟨ha, hy⟩
                obtain ⟨fb, HFB⟩ : ∃ fb, Hid (fitB y ⟨st, sd, ct, bl⟩ = fb) := ⟨_, rfl⟩
                have HBY : Hid (∀ w9, Calls Try.prog 29 #[.int .i64 y, .int .i64 st, .int .i64 sd, .int .i64 ct, .int .i64 bl] w9 fun e w' => e = .returned (.bool (!fb)) ∧ w' = w9) := fun w9 => by
                  have hp := HPOS.out _ (List.mem_of_getElem? ha)
                  have hd := HDB.out i y hy
                  have hc0 := hok.c0
                  have hb0 := hok.b0
                  have := refBeyond_any y ⟨st, sd, ct, bl⟩ w9 hok hd.1 hd.2 (by simp only [] at *; omega) (by simp only [] at *; omega)
                  rwa [HFB.out] at this
                clear h1 h2 h3 h4 ha hy hok
                cases fb with
                | false =>
                  have hr : r = 17 := by rw [← HR.out]; exact chk_3_bad HE.out HM.out HK.out HNZ.out HA.out.1 HA.out.2 HFB.out
                  subst hr
                  go_wp2_with fail
                  go_quiet ((go_at_call 29; exact Calls.quiet_of_same (HBY.out _)))
                  go_wp2_with fail
                  go_ret
                  exact ⟨rfl, below_dN (HB1.out.trans (HB.out.mono HB1.out.size)) (Nat.le_trans HB1.out.size HB.out.size) _⟩
                | true =>
                  go_wp2_with fail
                  go_quiet ((go_at_call 29; exact Calls.quiet_of_same (HBY.out _)))
                  go_wp2_with fail
                  go_roundw
                  case rel =>
                    refine ⟨i + 1, by omega, by simp, fun i' y' a' hi' ha' hy' => ?_, below_dN HB.out HB.out.size _⟩
                    by_cases hii : i' = i
                    · subst hii
                      rw [HA.out.1] at ha'
                      obtain rfl := Option.some.inj ha'
                      rw [HA.out.2] at hy'
                      obtain rfl := Option.some.inj hy'
                      exact HFB.out
                    · exact HG.out i' y' a' (by omega) ha' hy'
                  case measure => simp [intOf]; omega
              · have hr : r = if 4096 < m then 18 else 0 := HEND.out (by
                  rw [← HR.out]
                  refine chk_3_good HE.out HM.out HK.out (.inr fun i' y a ha hy => HG.out i' y a ?_ ha hy)
                  have := (List.getElem?_eq_some_iff.1 hy).1
                  have := HN.out
                  omega)
                by_cases hmm : 4096 < m
                · rw [if_pos hmm] at hr
                  subst hr
                  go_wp2_with fail
                  go_ret
                  exact ⟨rfl, HB1.out.trans (HB.out.mono HB1.out.size)⟩
                · rw [if_neg hmm] at hr
                  subst hr
                  go_wp2_with fail
                  go_ret
                  exact ⟨rfl, HB1.out.trans (HB.out.mono HB1.out.size)⟩
        · have f3 : (k == 3) = false := by simpa using k3
          have f3' : decide (k = 3) = false := by simpa using k3
          have k1 : s.kind = 1 := by
            by_cases k1 : s.kind = 1
            · exact k1
            · have h9 := HM.out
              rw [mayS, if_neg k1, if_neg (by rw [HK.out]; exact k2), if_neg (by rw [HK.out]; exact k3)] at h9
              cases h9
          have hr : r = if 4096 < m then 18 else 0 := HEND.out (by rw [← HR.out]; exact chk_1 HE.out k1)
          clear k1
          have HRR : Hid (r = if 4096 < m then 18 else 0) := hr
          clear hr
          go_loopw [8] (fun x wr => ∃ i : Nat, i ≤ n ∧ x = .int .i64 (i : Int) ∧ Hid (Below W1.heap.size W1 wr)) (fun x _ => n - (intOf x).toNat)
          case atStart => exact ⟨0, Nat.zero_le _, rfl, HB4.out⟩
          case round =>
            obtain ⟨i, hin, rfl, HB⟩ := hrel
            rename World => w6
            obtain ⟨d0, d1, d2, d3, d4, d5⟩ := HPB.out w6 HB.out
            by_cases hlt : i < n
            · have hili : (i : Int) < (n : Int) := by omega
              go_wp2_with fail
              go_quiet (fail)
              go_wp2_with fail
              go_roundw
              case rel => exact ⟨i + 1, by omega, by simp, below_dN HB.out HB.out.size _⟩
              case measure => simp [intOf]; omega
            · have hr := HRR.out
              by_cases hmm : 4096 < m
              · rw [if_pos hmm] at hr
                subst hr
                go_wp2_with fail
                go_ret
                exact ⟨rfl, HB1.out.trans (HB.out.mono HB1.out.size)⟩
              · rw [if_neg hmm] at hr
                subst hr
                go_wp2_with fail
                go_ret
                exact ⟨rfl, HB1.out.trans (HB.out.mono HB1.out.size)⟩
  · have hr : r = ee := by rw [← HR.out, ← HEE.out]; exact chk_el (by rw [HEE.out]; exact h1)
    subst hr
    rw [HK.out] at b0 hW1 ⊢
    have e2 : (r != 0) = true := by simpa using h1
    clear hD hS hn hb1 e hV
    go_enter Try.func15, Try.ntmps15
    go_wp2_with (go_at_call 10; refine Calls.mono HEL.out ?_; rintro e w2 ⟨rfl, hb2⟩; have HB2 : Hid (Below W1.heap.size W1 w2) := hb2; clear hb2)
    go_ret
    exact ⟨rfl, HB1.out.trans (HB2.out.mono HB1.out.size)⟩
end Go.Proofs.Ytnikbcljonbpcaa

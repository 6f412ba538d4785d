/-
  The walk of StoreOwn: what a file tells is its asker's own.
-/
import Derived.Test.YtkdmcdkjfkllkaaOwnMath
import Derived.Test.YtkdmcdkjfkllkaaReadsWalk
import Derived.Test.YtkdmcdkjfkllkaaReplayMath
import Derived.Deep.CutBlock
namespace Go.Proofs.Ytkdmcdkjfkllkaa
open Go.RowKit
set_option linter.unusedVariables false

/-- What the second loop keeps. -/
def OwnL (w4 : World) (B : Nat) (v : Value) (N : Nat) (W : World) : Prop := Below w4.heap.size w4 W ∧ ∃ rk, Fresh W B v rk ∧ rk.length = N ∧ ∀ r ∈ rk, r.2.1.length ≤ 16

set_option maxRecDepth 100000 in
set_option maxHeartbeats 16000000 in
theorem storeOwn_walk (v0 : Value) (l0 : List Int) (v2 : Value) (l2 : List Int) (w : World) (b0 : Bs w v0 l0) (y0 : Byt l0) (z0 : l0.length ≤ 140737488351232) (b2 : Bs w v2 l2) (y2 : Byt l2) (z2 : l2.length ≤ 140737488351232) :
    Calls Try.prog 5 #[v0, v2] w fun e w' => e = .returned (.bool true) ∧ Below w.heap.size w w' := by
  have HB0 : Hid (Bs w v0 l0) := b0
  have HB2 : Hid (Bs w v2 l2) := b2
  obtain ⟨ao0, cap0, rfl, hc0, _⟩ := b0
  obtain ⟨ao2, cap2, rfl, hc2, _⟩ := b2
  obtain ⟨n, Hn⟩ : ∃ n, Hid (l0.length = n) := ⟨_, rfl⟩
  obtain ⟨m, Hm⟩ : ∃ m, Hid (l2.length = m) := ⟨_, rfl⟩
  rw [Hn.out] at HB0 hc0 z0 ⊢
  rw [Hm.out] at HB2 hc2 z2 ⊢
  clear y0 y2
  by_cases hbig : (4194304 : Int) < (n : Int) + (m : Int)
  · have H1 : Hid ((n : Int) + (m : Int) < 0 ∨ 4194304 < (n : Int) + (m : Int) ∨ (n : Int) + (m : Int) < (n : Int)) := .inr (.inl hbig)
    go_enter Try.func5, Try.ntmps5
    go_wp2_with (first | (go_at_call 9; refine (of_none _ _ _ _ _ (by exact H1.out)).mono ?_; rintro e w4 ⟨rfl, hw4⟩; obtain rfl := hw4.symm) | (go_at_call 15; refine (lives_any _).mono ?_; rintro e w3 ⟨rfl, hb3⟩))
    go_ret
    exact ⟨rfl, hb3⟩
  obtain ⟨F', h1, h2, h3, h4, h5⟩ := wrM_plain (F := newM l0 ((n : Int) + (m : Int))) (q := n) (x := l2) rfl rfl (by show n ≤ l0.length; rw [Hn.out]; exact Nat.le_refl _) (by show (l2.length : Int) ≤ ((n : Int) + (m : Int)) - n; rw [Hm.out]; omega)
  have HWR : Hid (wrM (newM l0 ((n : Int) + (m : Int))) (n : Int) l2 = (0, F')) := h1
  have HMD : Hid (Made l0 F') := by
    have := wrM_made (Made.start l0 ((n : Int) + (m : Int))) (n : Int) l2
    rw [h1] at this
    exact this
  have HRC : Hid (F'.rs.length ≤ 4194304) := by
    have := wrM_count (newM l0 ((n : Int) + (m : Int))) (n : Int) l2
    rw [h1, Hm.out] at this
    have e : (newM l0 ((n : Int) + (m : Int))).rs.length = 0 := rfl
    show F'.rs.length ≤ 4194304
    dsimp only at this
    omega
  have HSH : Hid (∀ r ∈ F'.rs, r.2.length ≤ 16) := fun r hr => by
    obtain ⟨j, hj, hj2⟩ := List.getElem_of_mem hr
    exact (HMD.out.each j r (by rw [List.getElem?_eq_getElem hj, hj2])).2.2.2
  have HBL : Hid (F'.bs.length ≤ 4194304) := by
    have e : F'.bs.length = (layN l0 n l2).length := by rw [h2]; rfl
    rw [Hid, e, layN_length _ _ _ (by rw [Hn.out]; exact Nat.le_refl _), Hn.out, Hm.out]
    omega
  clear h1 h2 h3 h4 h5
  obtain ⟨M, HM⟩ : ∃ M, Hid (F'.rs.length = M) := ⟨_, rfl⟩
  obtain ⟨L, HL⟩ : ∃ L, Hid (F'.bs.length = L) := ⟨_, rfl⟩
  rw [HM.out] at HRC
  rw [HL.out] at HBL
  have hM := HRC.out
  have hL := HBL.out
  clear HRC HBL
  go_enter Try.func5, Try.ntmps5
  go_wp2_with fail
  refine (of_some _ l0 ((n : Int) + (m : Int)) w HB0.out (by omega) (by omega) (by rw [Hn.out]; omega)).mono ?_
  rintro e w3 ⟨p, vb3, rfl, hp3, hb3⟩
  have HC : Hid _ := write_any hp3 hb3.size (n : Int) l2 _ (HB2.out.below hb3) (alien_old hp3 hb3 HB2.out) (by simp) (by rw [Hm.out]; omega) (by omega)
  rw [HWR.out] at HC
  have HP3 : Hid (PF w3 w.heap.size p (newM l0 ((n : Int) + (m : Int))) vb3 (.slice none 0 0) []) := hp3
  have HB3 : Hid (Below w.heap.size w w3) := hb3
  clear hp3 hb3
  go_wp2_with fail
  refine Calls.mono HC.out ?_
  rintro e w4 ⟨vb4, vr4, rv4, rfl, hp4, hm4⟩
  clear HC
  have HB4 : Hid (Below w.heap.size w w4) := HB3.out.trans (hm4.below HP3.out HB3.out.size)
  have HP4 : Hid (PF w4 w.heap.size p F' vb4 vr4 rv4) := hp4
  have HC : Hid _ := bytes_any hp4
  rw [HL.out] at HC
  clear hp4 hm4 HP3
  go_wp2_with fail
  refine Calls.mono HC.out ?_
  rintro e w5 ⟨aoA, capA, rfl, hoA, hb5⟩
  clear HC
  have HOA : Hid (Own w5 w4.heap.size (.slice aoA L capA) F'.bs) := hoA
  have HB5 : Hid (Below w4.heap.size w4 w5) := hb5
  have hrl : rv4.length = M := by have := HM.out; rw [HP4.out.rs, plain_length] at this; exact this
  have HC : Hid _ := raws_any (HP4.out.below hb5) (by omega) (fun r hr => by have := short_raws HP4.out HSH.out r hr; omega)
  clear hoA hb5 hrl
  go_wp2_with fail
  refine Calls.mono HC.out ?_
  rintro e w6 ⟨aoR, capR, rk, rfl, hfr, hpl, hb6⟩
  clear HC
  have hkl : rk.length = M := by rw [← plain_length, hpl]; exact HM.out
  rw [hkl] at hfr ⊢
  have HFR : Hid (Fresh w6 w5.heap.size (.slice aoR M capR) rk) := hfr
  have HKL : Hid (rk.length = M) := hkl
  have HKS : Hid (∀ r ∈ rk, r.2.1.length ≤ 16) := fun r hr => by
    have : (r.1, r.2.1) ∈ F'.rs := by rw [← hpl]; exact List.mem_map.2 ⟨r, hr, rfl⟩
    exact HSH.out _ this
  have HO6 : Hid (Own w6 w4.heap.size (.slice aoA L capA) F'.bs) := HOA.out.below hb6
  have HB6 : Hid (Below w4.heap.size w4 w6) := HB5.out.trans (hb6.mono HB5.out.size)
  have HS5 : Hid (∀ g, (Value.slice aoA L capA).ownBlock = some g → g < w5.heap.size) := fun g hg => (World.ownsRow.lt HOA.out g hg).2
  have HS4 : Hid (w4.heap.size ≤ w5.heap.size) := HB5.out.size
  clear hfr hpl hb6 hkl HOA HB5
  -- the first loop
  go_upto_block 0 with fail
  go_cut [8] (fun i wc => (∃ z, i = z) ∧ OwnL w4 w5.heap.size (.slice aoR M capR) M wc)
  case first =>
    rename_i K1 a3 K0 a2 J K2 a1 a0
    clear a3 a2
    go_wp2_with fail
    go_loopw [8] (fun i wr => ∃ (k : Nat) (T : List Int), k ≤ L ∧ i = .int .i64 (k : Int) ∧ Own wr w4.heap.size (.slice aoA L capA) T ∧ T.length = L ∧ w6.grownBy wr (Value.slice aoA L capA).ownBlock) (fun i _ => L - (intOf i).toNat)
    case atStart => exact ⟨0, F'.bs, Nat.zero_le _, rfl, HO6.out, HL.out, World.grownBy.refl _ _⟩
    case round =>
      obtain ⟨k, T, hk, rfl, hrr, hT, hgr⟩ := hrel
      have HT : Hid (T.length = L) := hT
      have HRR : Hid (Own wr w4.heap.size (.slice aoA L capA) T) := hrr
      have HGR : Hid (w6.grownBy wr (Value.slice aoA L capA).ownBlock) := hgr
      by_cases hlt : k < L
      · obtain ⟨ao', cap', e1, _, hgg⟩ := hrr.opened
        injection e1 with e2 e3 e4
        subst e2
        subst e4
        obtain ⟨g, rfl, hg1, hg2⟩ := hgg (by rw [hT]; omega)
        obtain ⟨hc1, hf1⟩ := hrr.at hT k hlt
        have hk0 : (0 : Int) ≤ (k : Int) := by omega
        have hk1 : (k : Int) < (L : Int) := by omega
        clear hT hrr hgr hgg e3
        go_wp2
        go_roundw
        case rel => exact ⟨k + 1, T.set k _, by omega, by go_num, (HRR.out.put HT.out k _).1, by simp [HT.out], grown_set HGR.out _ _⟩
        case measure => simp [intOf]; omega
      · clear hT hrr hgr
        go_wp2
        go_meet
        refine ⟨⟨_, rfl⟩, HB6.out.grown HGR.out HB6.out.size (fun k hk => (World.ownsRow.lt HO6.out k hk).1), rk, HFR.out.chg (Chg.of_grown (S := fun k => (Value.slice aoA L capA).ownBlock = some k) HGR.out (fun k e => e)) (fun k hk => HS5.out k hk), HKL.out, HKS.out⟩
  case rest =>
    obtain ⟨_, hown⟩ := hcut
    have HOW : Hid (OwnL w4 w5.heap.size (.slice aoR M capR) M wc) := hown
    clear hown HFR HKL HKS HO6 HB6
    go_upto_block 2 with fail
    go_cut [9, 10] (fun i j wd => (∃ z, i = z) ∧ (∃ z, j = z) ∧ Below w4.heap.size w4 wd)
    case first =>
      rename_i K1 a3 K0 a2 J K2 a1 a0
      clear a3 a2
      go_wp2_with fail
      go_loopw [9] (fun i wr => ∃ k : Nat, k ≤ M ∧ i = .int .i64 (k : Int) ∧ OwnL w4 w5.heap.size (.slice aoR M capR) M wr) (fun i _ => M - (intOf i).toNat)
      case atStart => exact ⟨0, Nat.zero_le _, rfl, HOW.out⟩
      case round =>
        obtain ⟨k, hk, rfl, hbel, rk, hfr, hkl, hks⟩ := hrel
        have HBEL : Hid (Below w4.heap.size w4 wr) := hbel
        have HFR : Hid (Fresh wr w5.heap.size (.slice aoR M capR) rk) := hfr
        have HKL : Hid (rk.length = M) := hkl
        have HKS : Hid (∀ r ∈ rk, r.2.1.length ≤ 16) := hks
        by_cases hlt : k < M
        · obtain ⟨x1, hx1⟩ : ∃ x, rk[k]? = some x := ⟨rk[k]'(by rw [hkl]; exact hlt), List.getElem?_eq_getElem _⟩
          obtain ⟨ao', cap', f1, f2, f3⟩ := row_open hfr.row hkl
          obtain ⟨gr, f4, _, _⟩ := f3 k x1 hx1
          subst f4
          injection f1 with f5 f6 f7
          subst f5
          subst f7
          have hb1 := hfr.inn x1 (List.mem_of_getElem? hx1)
          have hsh := hks x1 (List.mem_of_getElem? hx1)
          obtain ⟨a1, c1, e1, hc1, _⟩ := hb1.opened
          obtain ⟨ra, lx, vx⟩ := x1
          dsimp only at e1 hc1 hsh
          subst e1
          obtain ⟨m1, Hm1⟩ : ∃ m1, Hid (lx.length = m1) := ⟨_, rfl⟩
          rw [Hm1.out] at hx1 hc1 hsh
          have HX1 : Hid (rk[k]? = some (ra, lx, .slice a1 m1 c1)) := hx1
          have hk0 : (0 : Int) ≤ (k : Int) := by omega
          have hk1 : (k : Int) < (M : Int) := by omega
          clear hbel hfr hkl hks hx1 f2 f3 f6 hb1
          generalize wr = wa at *
          go_wp2_with fail
          go_loopw [10] (fun j wr => ∃ (t : Nat) (rk2 : List RawV) (ly : List Int), t ≤ m1 ∧ j = .int .i64 (t : Int) ∧ Below w4.heap.size w4 wr ∧ Fresh wr w5.heap.size (.slice (some ⟨gr, 0, none⟩) M capR) rk2 ∧ rk2.length = M ∧ (∀ r ∈ rk2, r.2.1.length ≤ 16) ∧ rk2[k]? = some (ra, ly, .slice a1 m1 c1) ∧ ly.length = m1) (fun j _ => m1 - (intOf j).toNat)
          case atStart => exact ⟨0, rk, lx, Nat.zero_le _, rfl, HBEL.out, HFR.out, HKL.out, HKS.out, HX1.out, Hm1.out⟩
          case round =>
            obtain ⟨t, rk2, ly, ht, rfl, hbel2, hfr2, hkl2, hks2, hx2, hly⟩ := hrel
            obtain ⟨ao3, cap3, f1, f2, f3⟩ := row_open hfr2.row hkl2
            obtain ⟨g3, f4, d1, d2⟩ := f3 k _ hx2
            injection f1 with f5 f6 f7
            rw [← f5] at f4
            injection f4 with f8
            injection f8 with f9
            subst f9
            dsimp only at d1 d2
            have hz0 : wr.frozen? ⟨gr, k * 2, none⟩ = false := by have := hfr2.row; rw [hkl2] at this; exact this.frozenAt (k * 2)
            have HBE2 : Hid (Below w4.heap.size w4 wr) := hbel2
            have HFR2 : Hid (Fresh wr w5.heap.size (.slice (some ⟨gr, 0, none⟩) M capR) rk2) := hfr2
            have HKL2 : Hid (rk2.length = M) := hkl2
            have HKS2 : Hid (∀ r ∈ rk2, r.2.1.length ≤ 16) := hks2
            have HX2 : Hid (rk2[k]? = some (ra, ly, .slice a1 m1 c1)) := hx2
            have HLY : Hid (ly.length = m1) := hly
            have ho2 : Own wr w5.heap.size (.slice a1 m1 c1) ly := hfr2.inn _ (List.mem_of_getElem? hx2)
            by_cases htl : t < m1
            · obtain ⟨ao4, cap4, e1, _, hgg⟩ := ho2.opened
              injection e1 with e2 e3 e4
              subst e2
              obtain ⟨g, rfl, hg1, hg2⟩ := hgg (by rw [hly]; omega)
              obtain ⟨hb1, hf1⟩ := ho2.at hly t htl
              obtain ⟨zb, hzb⟩ : ∃ zb, ly.getD t 0 = zb := ⟨_, rfl⟩
              rw [hzb] at hb1
              have ht0 : (0 : Int) ≤ (t : Int) := by omega
              have ht1 : (t : Int) < (m1 : Int) := by omega
              have HPO : Hid (∀ x, ∃ rk' : List RawV, Fresh (wr.drew.setCell ⟨g, t, none⟩ (.int .u8 x)) w5.heap.size (.slice (some ⟨gr, 0, none⟩) M capR) rk' ∧ rk'.length = M ∧ (∀ r ∈ rk', r.2.1.length ≤ 16) ∧ ∃ l', rk'[k]? = some (ra, l', .slice (some ⟨g, 0, none⟩) m1 c1) ∧ l'.length = m1) := fun x => by
                obtain ⟨rk', q1, q2, q3⟩ := (HFR2.out.below (Below.refl _ _).drew).poke HX2.out rfl t x
                refine ⟨rk', q1, q2.trans HKL2.out, fun r hr => ?_, ?_⟩
                · obtain ⟨j, hj, hj2⟩ := List.getElem_of_mem hr
                  have hj3 : rk2[j]? = some rk2[j] := List.getElem?_eq_getElem (by rw [← q2]; exact hj)
                  obtain ⟨l', q4, q5⟩ := q3 j _ hj3
                  rw [List.getElem?_eq_getElem hj, hj2] at q4
                  injection q4 with q4
                  have := HKS2.out _ (List.mem_of_getElem? hj3)
                  rw [q4]; dsimp only; omega
                · obtain ⟨l', q4, q5⟩ := q3 k _ HX2.out
                  exact ⟨l', q4, q5.trans HLY.out⟩
              have hg4 : w4.heap.size ≤ g := Nat.le_trans HS4.out hg1
              clear hbel2 hfr2 hkl2 hks2 hx2 hly ho2 hgg hzb d1 f2 f3 f5 f6 f7
              go_wp2_with fail
              go_region_with (fail)
              all_goals
                obtain ⟨rk', q1, q2, q3, l', q4, q5⟩ := HPO.out ((zb + 1) % 256)
                have Q1 : Hid _ := q1
                have Q2 : Hid _ := q2
                have Q3 : Hid _ := q3
                have Q4 : Hid _ := q4
                have Q5 : Hid _ := q5
                clear q1 q2 q3 q4 q5
                go_wp2
                go_roundw
                case rel => exact ⟨t + 1, rk', l', by omega, by go_num, HBE2.out.drew.setCell (p := ⟨g, t, none⟩) hg4 _, Q1.out, Q2.out, Q3.out, Q4.out, Q5.out⟩
                case measure => simp [intOf]; omega
            · clear hbel2 hfr2 hkl2 hks2 hx2 hly ho2 f2 f3 f5 f6 f7
              have HPL : Hid (Fresh (wr.setCell ⟨gr, k * 2, none⟩ (.int .i64 (-7))) w5.heap.size (.slice (some ⟨gr, 0, none⟩) M capR) (rk2.set k (-7, ly, .slice a1 m1 c1))) := HFR2.out.place HKL2.out HX2.out (-7)
              have HGR : Hid (w4.heap.size ≤ gr) := Nat.le_trans HS4.out (World.ownsRow.lt HFR2.out.row gr rfl).1
              have HSET : Hid (∀ r ∈ rk2.set k (-7, ly, .slice a1 m1 c1), r.2.1.length ≤ 16) := fun r hr => by
                rcases List.mem_or_eq_of_mem_set hr with h1 | h1
                · exact HKS2.out r h1
                · have h9 := HKS2.out _ (List.mem_of_getElem? HX2.out)
                  rw [h1]
                  exact h9
              go_wp2
              go_roundw
              case rel => exact ⟨k + 1, by omega, by go_num, HBE2.out.setCell (p := ⟨gr, k * 2, none⟩) HGR.out _, _, HPL.out, by simp [HKL2.out], HSET.out⟩
              case measure => simp [intOf]; omega
        · clear hbel hfr hkl hks
          go_wp2
          go_meet
          exact ⟨⟨_, rfl⟩, ⟨_, rfl⟩, HBEL.out⟩
    case rest =>
      obtain ⟨_, _, hbd⟩ := hcut
      have HBD : Hid (Below w4.heap.size w4 wc) := hbd
      have HBW : Hid (Below w.heap.size w wc) := HB4.out.trans (hbd.mono HB4.out.size)
      clear hbd HOW
      go_wp2_with fail
      refine (refOf_some _ l0 ((n : Int) + (m : Int)) wc (HB0.out.below HBW.out) (by omega) (by omega) (by rw [Hn.out]; omega)).mono ?_
      rintro e w7 ⟨r, rb7, rfl, hr7, hb7⟩
      have HR7 : Hid (RF w7 wc.heap.size r (newM l0 ((n : Int) + (m : Int))) rb7 (.slice none 0 0) []) := hr7
      have HB7 : Hid (Below wc.heap.size wc w7) := hb7
      have HW7 : Hid (Below w.heap.size w w7) := HBW.out.trans (hb7.mono HBW.out.size)
      have hal : 0 < l2.length → Alien w7 r rb7 (.slice none 0 0) (.slice ao2 m cap2) := by
        intro h0 k hk
        obtain ⟨b, off, cap, e1, hc, hcell⟩ := HB2.out.opened h0
        injection e1 with e2 e3 e4
        subst e2
        simp [Value.ownBlock] at hk
        subst hk
        have h1 := World.block_lt_of_cell? w _ (hcell 0 h0)
        dsimp only at h1
        exact ⟨fun hfo => by have := (hr7.hold.foot _ hfo).1; have := HBW.out.size; omega, Nat.lt_of_lt_of_le h1 HW7.out.size⟩
      have HC : Hid _ := refWrite_any hr7 hb7.size (n : Int) l2 _ (HB2.out.below HW7.out) hal (by simp) (by rw [Hm.out]; omega) (by omega)
      rw [HWR.out] at HC
      clear hr7 hb7 hal
      go_wp2_with fail
      refine Calls.mono HC.out ?_
      rintro e w8 ⟨rfl, rb8, rr8, rw8, hr8, hm8⟩
      clear HC
      have hb8 : Below wc.heap.size w7 w8 := hm8.chg.below (fun k hk => (HR7.out.hold.foot k hk).1) HB7.out.size
      have HB8 : Hid (Below wc.heap.size wc w8) := HB7.out.trans hb8
      have HC : Hid _ := alike_any (HP4.out.below (HBD.out.trans (HB8.out.mono HBD.out.size))) hr8 (by rw [HM.out]; omega) (fun x hx => by have := HSH.out x hx; omega)
      have HW8 : Hid (Below w.heap.size w w8) := HBW.out.trans (HB8.out.mono HBW.out.size)
      clear hr8 hm8 hb8
      go_wp2_with (first | (go_at_call 12; refine Calls.mono HC.out ?_; rintro e w9 ⟨rfl, hb9⟩) | (go_at_call 15; refine (lives_any _).mono ?_; rintro e w10 ⟨rfl, hb10⟩))
      go_ret
      exact ⟨rfl, HW8.out.trans ((hb9.trans (hb10.mono hb9.size)).mono HW8.out.size)⟩
end Go.Proofs.Ytkdmcdkjfkllkaa

/-
  All elements are the hyperslab from 0 on by steps of 1, and that of one block: the law's walk. No conditions.
-/
import Derived.Test.YtbjbmjghcjfipaaSAllM
import Derived.BigRegion
namespace Go.Proofs.Ytbjbmjghcjfipaa
open Go.RowKit Go.Shelf
set_option linter.unusedVariables false
set_option maxRecDepth 100000

theorem elN_zero {D : List Int} (h : elE D ≠ 0) : elN D = 0 := by
  rw [elN, if_neg]
  rintro ⟨h1, h2⟩
  exact h (by rw [elE, if_pos h1, if_pos h2])
theorem is_row {w : World} {g : Nat} {l : List Int} (hg : w.heap[g]? = some (.cells (l.map fun x => Value.int .i64 x).toArray 3 (0, 0))) (hl : l.length ≤ 17592186043904) (hx : ∀ x ∈ l, I64 x) : Is w (.slice (some ⟨g, 0, none⟩) l.length l.length) l := by
  refine ⟨hl, hx, _, l.length, rfl, Nat.le_refl _, fun i x hi => ⟨g, 0, rfl, ?_⟩⟩
  rw [Nat.zero_add, cell_of_row w g i _ _ _ hg]
  simp [hi]
/-- The row of ones while it is laid. -/
def onesTo (n i : Nat) : List Int := List.replicate i 1 ++ List.replicate (n - i) 0
theorem onesTo_set {n i : Nat} (h : i < n) : (onesTo n i).set i 1 = onesTo n (i + 1) := by
  rw [onesTo, onesTo, List.set_append_right _ _ (by simp), List.length_replicate, Nat.sub_self, show n - i = (n - (i + 1)) + 1 by omega, List.replicate_succ, List.set_cons_zero, List.replicate_succ' (n := i), List.append_assoc]
  rfl
theorem onesTo_length {n i : Nat} (h : i ≤ n) : (onesTo n i).length = n := by simp [onesTo]; omega
theorem onesTo_all (n : Nat) : onesTo n n = List.replicate n 1 := by simp [onesTo]
theorem onesTo_zero (n : Nat) : onesTo n 0 = List.replicate n 0 := by simp [onesTo]
theorem rep_i64 {n : Nat} {x : Int} (hx : I64 x) : ∀ y ∈ List.replicate n x, I64 y := fun y hy => by rw [List.eq_of_mem_replicate hy]; exact hx
theorem nilSs (w : World) : Ss w ⟨.slice none 0 0, .slice none 0 0, .slice none 0 0, .slice none 0 0, .slice none 0 0⟩ allS :=
  ⟨⟨by simp [allS], by simp [allS]⟩, ⟨by simp [allS], none, 0, rfl, Nat.le_refl _, fun i l h => by simp [allS] at h⟩, is_nil w, is_nil w, is_nil w, is_nil w⟩
theorem iss_nil (w : World) : Iss w (.slice none 0 0) [] := ⟨by simp, none, 0, rfl, Nat.le_refl _, fun i l h => by simp at h⟩
set_option maxHeartbeats 16000000 in
theorem spaceAll_walk (v : Value) (D : List Int) (w : World) (h : Is w v D) : Calls Try.prog 8 #[v] w fun e w' => e = .returned (.bool true) ∧ Below w.heap.size w w' := by
  have HI : Hid (Is w v D) := h
  obtain ⟨ao, n, cap, rfl, hn, hc, hb⟩ := h.open
  have HN : Hid _ := hn
  clear h hn
  obtain ⟨en, HEN⟩ : ∃ en, Hid (elN D = en) := ⟨_, rfl⟩
  obtain ⟨ee, HEE⟩ : ∃ ee, Hid (elE D = ee) := ⟨_, rfl⟩
  have HE : Hid (Calls Try.prog 9 #[.slice ao n cap] w fun e w' => e = .returned (.tuple #[.int .i64 en, .int .i64 ee]) ∧ Below w.heap.size w w') := by
    have := elements_any D _ w HI.out
    rwa [HEN.out, HEE.out] at this
  have HP : Hid (∀ w1, Below w.heap.size w w1 → Calls Try.prog 22 #[.slice ao n cap, .agg #[.int .i64 1, .slice none 0 0, .slice none 0 0, .slice none 0 0, .slice none 0 0, .slice none 0 0]] w1 (PlP w1 D allS)) := fun w1 hb => places_any D allS _ ⟨.slice none 0 0, .slice none 0 0, .slice none 0 0, .slice none 0 0, .slice none 0 0⟩ w1 (HI.out.below hb) (nilSs w1)
  have HPX : Hid (∀ w1 er, er ≠ 0 → slE D allS = er → Below w.heap.size w w1 → Calls Try.prog 22 #[.slice ao n cap, .agg #[.int .i64 1, .slice none 0 0, .slice none 0 0, .slice none 0 0, .slice none 0 0, .slice none 0 0]] w1 fun e w' => (∃ xo xc, e = .returned (.tuple #[.slice xo 0 xc, .int .i64 er])) ∧ Below w1.heap.size w1 w') := fun w1 er h1 h2 hb => by
    refine Calls.mono (HP.out w1 hb) ?_
    rintro e w' ⟨hb2, vx, rfl, hvx⟩
    rw [h2, if_neg h1] at hvx
    obtain ⟨xo, xn, xc, rfl, hxn, _, _⟩ := hvx.open
    have hxn' : 0 = xn := hxn
    subst hxn'
    exact ⟨⟨xo, xc, by rw [h2]⟩, hb2⟩
  by_cases he : ee = 0
  · subst he
    obtain ⟨a1, a2, a3, a4, a5, a6, a7, a8⟩ := all_sel HEE.out
    rw [HEN.out] at a1
    obtain ⟨N, hN⟩ : ∃ N : Nat, prd D = (N : Int) := ⟨(prd D).toNat, by omega⟩
    rw [hN] at a1 a2 a3 a4 a5 a6 a7
    rw [Int.toNat_natCast] at a3 a5 a7
    subst a1
    by_cases hbig : N ≤ 4096
    · rw [if_pos (by omega)] at a2 a4 a6
      have HA2 : Hid _ := a2
      have HA3 : Hid _ := a3
      have HA4 : Hid _ := a4
      have HA5 : Hid _ := a5
      have HA6 : Hid _ := a6
      have HA7 : Hid _ := a7
      have hnb : decide (4096 < (N : Int)) = false := decide_eq_false (by omega)
      have hn4 : n ≤ 4 := by have := (dims_of (elE_ok HEE.out).1).1; have := HN.out; omega
      obtain ⟨Z, hZ, hmk⟩ := make_rule n hn4
      have HZ : Hid _ := hZ
      have HULN : Hid ((upto N).length = N) := by simp [Hid, upto]
      clear a2 a3 a4 a5 a6 a7 a8 hN hZ
      go_enter Try.func8, Try.ntmps8
      go_upto_region 7 with (first
        | (go_at_call 9; refine Calls.mono HE.out ?_; rintro e w1 ⟨rfl, hb1⟩; have HB1 : Hid (Below w.heap.size w w1) := hb1; clear hb1)
        | (go_at_call 22; refine Calls.mono (HP.out _ HB1.out) ?_; rintro e w2 ⟨hb2, vx, rfl, hvx⟩; rw [HA2.out, if_pos rfl, HA3.out] at hvx; have HX : Hid (Is w2 vx (upto N)) := hvx; obtain ⟨xo, xn, xc, rfl, hxn, _, _⟩ := hvx.open; obtain rfl : N = xn := (by rw [← hxn, HULN.out]); have HB2 : Hid (Below w.heap.size w w2) := HB1.out.trans (hb2.mono HB1.out.size); rw [HA2.out]; clear hb2 hvx hxn))
      go_cut [7, 8] (fun x y wx => ∃ g1 g2, x = .slice (some ⟨g1, 0, none⟩) n n ∧ y = .slice (some ⟨g2, 0, none⟩) n n ∧ Hid (wx.heap[g1]? = some (.cells Z 3 (0, 0)) ∧ wx.heap[g2]? = some (.cells Z 3 (0, 0)) ∧ g1 ≠ g2 ∧ w2.heap.size ≤ g1 ∧ w2.heap.size ≤ g2 ∧ Below w2.heap.size w2 wx))
      case first =>
        obtain ⟨wa, hwa, hba, hsa, hga⟩ := alloc_facts w2.drew (.cells Z 3)
        obtain ⟨wb, hwb, hbb, hsb, hgb⟩ := alloc_facts wa (.cells Z 3)
        have hq : w2.drew.heap.size = w2.heap.size := rfl
        have HGA : Hid (wb.heap[w2.heap.size]? = some (.cells Z 3 (0, 0)) ∧ wb.heap[w2.heap.size + 1]? = some (.cells Z 3 (0, 0)) ∧ Below w2.heap.size w2 wb) := by
          rw [hq] at hga hsa
          refine ⟨(hbb.block _ (by omega)).trans hga, by rw [← hsa]; exact hgb, ?_⟩
          have h1 : Below w2.heap.size w2 wa := (Below.refl _ w2).drew.trans (hba.mono (Nat.le_refl _))
          exact h1.trans (hbb.mono h1.size)
        clear hba hbb hga hgb hsb hq
        go_region
        all_goals
          go_wp2_with fail
          go_meet
          first
            | exact ⟨w2.heap.size, w2.heap.size + 1, rfl, rfl, HGA.out.1, HGA.out.2.1, by omega, by omega, by omega, HGA.out.2.2⟩
            | exact ⟨w2.heap.size + 1, w2.heap.size, rfl, rfl, HGA.out.2.1, HGA.out.1, by omega, by omega, by omega, HGA.out.2.2⟩
      case rest =>
        obtain ⟨g1, g2, rfl, rfl, HGG⟩ := hcut
        clear hmk
        have HZ0 : Hid (Z = ((List.replicate n (0 : Int)).map fun x => Value.int .i64 x).toArray) := by rw [Hid, HZ.out]; simp
        go_wp2_with fail
        go_loopw [9] (fun x wr => ∃ i : Nat, i ≤ n ∧ x = .int .i64 (i : Int) ∧ Hid (wr.heap[g1]? = some (.cells Z 3 (0, 0)) ∧ wr.heap[g2]? = some (.cells ((onesTo n i).map fun x => Value.int .i64 x).toArray 3 (0, 0)) ∧ Below w2.heap.size w2 wr)) (fun x _ => n - (intOf x).toNat)
        case atStart => exact ⟨0, Nat.zero_le _, rfl, HGG.out.1, by rw [onesTo_zero, ← HZ0.out]; exact HGG.out.2.1, HGG.out.2.2.2.2.2⟩
        case round =>
          obtain ⟨i, hin, rfl, HR⟩ := hrel
          by_cases hlt : i < n
          · have hili : (i : Int) < (n : Int) := by omega
            have hu : (onesTo n i)[i]? = some ((onesTo n i)[i]'(by rw [onesTo_length hin]; exact hlt)) := List.getElem?_eq_getElem _
            obtain ⟨u, hu2⟩ : ∃ u, (onesTo n i)[i]? = some u := ⟨_, hu⟩
            have c1 : wr.cell? ⟨g2, i, none⟩ = some (.int .i64 u) := by rw [cell_of_row wr g2 i _ _ _ HR.out.2.1]; simp [hu2]
            have f1 : wr.frozen? ⟨g2, i, none⟩ = false := by simp [World.frozen?, HR.out.2.1]
            have HS : Hid ((wr.setCell ⟨g2, i, none⟩ (.int .i64 1)).heap[g2]? = some (.cells ((onesTo n (i + 1)).map fun x => Value.int .i64 x).toArray 3 (0, 0))) := by
              rw [Hid, heap_setCell_same wr g2 i _ _ _ HR.out.2.1, ← onesTo_set hlt]
              simp [List.map_set]
            clear hu hu2
            go_wp2_with fail
            go_roundw
            case rel => exact ⟨i + 1, by omega, by simp, (Below.heap_setCell _ _ _ _ (by simpa using HGG.out.2.2.1)).trans HR.out.1, HS.out, HR.out.2.2.setCell (by have := HGG.out.2.2.2.2.1; simpa using this) _⟩
            case measure => simp [intOf]; omega
          · rename World => w5
            obtain rfl : i = n := by omega
            have HB5 : Hid (Below w.heap.size w w5) := HB2.out.trans (HR.out.2.2.mono HB2.out.size)
            have HI1 : Hid (Is w5 (.slice (some ⟨g1, 0, none⟩) i i) (List.replicate i 0)) := by
              have h1 := HR.out.1
              rw [HZ0.out] at h1
              have := is_row h1 (by simp; omega) (rep_i64 (i64_small 0 (by omega) (by omega)))
              rwa [List.length_replicate] at this
            have HI2 : Hid (Is w5 (.slice (some ⟨g2, 0, none⟩) i i) (List.replicate i 1)) := by
              have h1 := HR.out.2.1
              rw [onesTo_all] at h1
              have := is_row h1 (by simp; omega) (rep_i64 (i64_small 1 (by omega) (by omega)))
              rwa [List.length_replicate] at this
            have HX5 : Hid (Is w5 (.slice xo N xc) (upto N)) := HX.out.below HR.out.2.2
            have HC2 : Hid (Calls Try.prog 22 #[.slice ao i cap, .agg #[.int .i64 3, .slice none 0 0, .slice (some ⟨g1, 0, none⟩) i i, .slice (some ⟨g2, 0, none⟩) i i, .slice ao i cap, .slice (some ⟨g2, 0, none⟩) i i]] w5 fun e w' => (∃ yo yc, e = .returned (.tuple #[.slice yo N yc, .int .i64 0]) ∧ Is w' (.slice yo N yc) (upto N)) ∧ Below w5.heap.size w5 w') := by
              have hS : Ss w5 ⟨.slice none 0 0, .slice (some ⟨g1, 0, none⟩) i i, .slice (some ⟨g2, 0, none⟩) i i, .slice ao i cap, .slice (some ⟨g2, 0, none⟩) i i⟩ (stepS D) := by
                refine ⟨⟨by simp [stepS], by simp [stepS]⟩, iss_nil w5, ?_, ?_, HI.out.below HB5.out, ?_⟩ <;> simp only [stepS, HN.out]
                · exact HI1.out
                · exact HI2.out
                · exact HI2.out
              have := places_any D (stepS D) _ _ w5 (HI.out.below HB5.out) hS
              refine Calls.mono this ?_
              rintro e w' ⟨hb, v, rfl, hv⟩
              rw [HA4.out, if_pos rfl, HA5.out] at hv
              obtain ⟨yo, yn, yc, rfl, hyn, _⟩ := hv.open
              have hyn' : N = yn := by rw [← hyn, HULN.out]
              subst hyn'
              exact ⟨⟨yo, yc, by rw [HA4.out], hv⟩, hb⟩
            have HC3 : Hid (∀ w6, Below w5.heap.size w5 w6 → Calls Try.prog 22 #[.slice ao i cap, .agg #[.int .i64 3, .slice none 0 0, .slice (some ⟨g1, 0, none⟩) i i, .slice (some ⟨g1, 0, none⟩) i i, .slice (some ⟨g2, 0, none⟩) i i, .slice ao i cap]] w6 fun e w' => (∃ yo yc, e = .returned (.tuple #[.slice yo N yc, .int .i64 0]) ∧ Is w' (.slice yo N yc) (upto N)) ∧ Below w6.heap.size w6 w') := fun w6 hb6 => by
              have hS : Ss w6 ⟨.slice none 0 0, .slice (some ⟨g1, 0, none⟩) i i, .slice (some ⟨g1, 0, none⟩) i i, .slice (some ⟨g2, 0, none⟩) i i, .slice ao i cap⟩ (blockS D) := by
                refine ⟨⟨by simp [blockS], by simp [blockS]⟩, iss_nil w6, ?_, ?_, ?_, (HI.out.below HB5.out).below hb6⟩ <;> simp only [blockS, HN.out]
                · exact HI1.out.below hb6
                · exact HI1.out.below hb6
                · exact HI2.out.below hb6
              have := places_any D (blockS D) _ _ w6 ((HI.out.below HB5.out).below hb6) hS
              refine Calls.mono this ?_
              rintro e w' ⟨hb, v, rfl, hv⟩
              rw [HA6.out, if_pos rfl, HA7.out] at hv
              obtain ⟨yo, yn, yc, rfl, hyn, _⟩ := hv.open
              have hyn' : N = yn := by rw [← hyn, HULN.out]
              subst hyn'
              exact ⟨⟨yo, yc, by rw [HA6.out], hv⟩, hb⟩
            have HCI : Hid (∀ w6 yo yc, Is w6 (.slice xo N xc) (upto N) → Is w6 (.slice yo N yc) (upto N) → Calls Try.prog 23 #[.slice xo N xc, .slice yo N yc] w6 fun e w' => e = .returned (.bool true) ∧ Below w6.heap.size w6 w') := fun w6 yo yc h1 h2 => by
              have := ints_any _ _ _ _ w6 h1 h2
              rwa [decide_eq_true rfl] at this
            clear HR
            go_wp2_with (first
              | (have hg := HC2; clear hg; go_at_call 22; refine Calls.mono HC2.out ?_; rintro e w6 ⟨⟨yo, yc, rfl, hy6⟩, hb6⟩; have HY6 : Hid _ := hy6; have HB6 : Hid (Below w5.heap.size w5 w6) := hb6; clear hy6 hb6 HC2)
              | (go_at_call 22; refine Calls.mono (HC3.out _ HB6.out) ?_; rintro e w7 ⟨⟨zo, zc, rfl, hy7⟩, hb7⟩; have HZ7 : Hid _ := hy7; have HY7 : Hid _ := HY6.out.below hb7; have HB7 : Hid (Below w5.heap.size w5 w7) := HB6.out.trans (hb7.mono HB6.out.size); have HX7 : Hid _ := HX5.out.below HB7.out; clear hy7 hb7)
              | (have hg := HY7; clear hg; go_at_call 23; refine Calls.mono (HCI.out _ _ _ HX7.out HY7.out) ?_; rintro e w8 ⟨rfl, hb8⟩; have HB8 : Hid (Below w7.heap.size w7 w8) := hb8; clear hb8 HY7)
              | (go_at_call 23; refine Calls.mono (HCI.out _ _ _ (HX7.out.below HB8.out) (HZ7.out.below HB8.out)) ?_; rintro e w9 ⟨rfl, hb9⟩; have HB9 : Hid (Below w7.heap.size w7 w9) := HB8.out.trans (hb9.mono HB8.out.size); clear hb9))
            have HX9 : Hid (Is w9 (.slice xo N xc) (upto N)) := HX7.out.below HB9.out
            have HBW9 : Hid (Below w.heap.size w w9) := (HB5.out.trans (HB7.out.mono HB5.out.size)).trans (HB9.out.mono (Nat.le_trans HB5.out.size HB7.out.size))
            go_loopw [14] (fun x wr => ∃ j : Nat, j ≤ N ∧ x = .int .i64 (j : Int) ∧ Hid (Below w9.heap.size w9 wr)) (fun x _ => N - (intOf x).toNat)
            case atStart => exact ⟨0, Nat.zero_le _, rfl, Below.refl _ _⟩
            case round =>
              obtain ⟨j, hjn, rfl, HBJ⟩ := hrel
              by_cases hlt2 : j < N
              · obtain ⟨gx, ox, xv, rfl, hxv, _, cx⟩ := (HX9.out.below HBJ.out).at hlt2
                have hxe : xv = (j : Int) := by
                  rw [upto, List.getElem?_map, List.getElem?_range hlt2] at hxv
                  exact (Option.some.inj hxv).symm
                subst hxe
                have hjl : (j : Int) < (N : Int) := by omega
                clear hxv
                go_wp2_with fail
                go_roundw
                case rel => exact ⟨j + 1, by omega, by simp, HBJ.out⟩
                case measure => simp [intOf]; omega
              · go_wp2_with (go_at_call 11; refine (lives_any _).mono ?_; rintro e w10 ⟨rfl, hb10⟩; have HB10 : Hid (Below w9.heap.size w9 w10) := HBJ.out.trans (hb10.mono HBJ.out.size); clear hb10)
                go_ret
                exact ⟨rfl, HBW9.out.trans (HB10.out.mono HBW9.out.size)⟩
    · rw [if_neg (by omega)] at a2
      have HA2 : Hid _ := a2
      have hnb : decide (4096 < (N : Int)) = true := decide_eq_true (by omega)
      clear a2 a3 a4 a5 a6 a7 a8 hN
      go_enter Try.func8, Try.ntmps8
      go_wp2_with (first
        | (go_at_call 9; refine Calls.mono HE.out ?_; rintro e w1 ⟨rfl, hb1⟩; have HB1 : Hid (Below w.heap.size w w1) := hb1; clear hb1)
        | (go_at_call 22; refine Calls.mono (HPX.out _ 18 (by omega) HA2.out HB1.out) ?_; rintro e w2 ⟨⟨xo, xc, rfl⟩, hb2⟩; have HB2 : Hid (Below w.heap.size w w2) := HB1.out.trans (hb2.mono HB1.out.size); clear hb2)
        | (go_at_call 11; refine (lives_any _).mono ?_; rintro e w3 ⟨rfl, hb3⟩; have HB3 : Hid (Below w.heap.size w w3) := HB2.out.trans (hb3.mono HB2.out.size); clear hb3))
      go_ret
      exact ⟨rfl, HB3.out⟩
  · have HA2 : Hid (slE D allS = ee) := by rw [Hid, slE, if_pos (by rw [HEE.out]; exact he), HEE.out]
    have hz : en = 0 := by rw [← HEN.out]; exact elN_zero (by rw [HEE.out]; exact he)
    subst hz
    have he1 : (ee != 0) = true := by simp [he]
    go_enter Try.func8, Try.ntmps8
    go_wp2_with (first
      | (go_at_call 9; refine Calls.mono HE.out ?_; rintro e w1 ⟨rfl, hb1⟩; have HB1 : Hid (Below w.heap.size w w1) := hb1; clear hb1)
      | (go_at_call 22; refine Calls.mono (HPX.out _ ee he HA2.out HB1.out) ?_; rintro e w2 ⟨⟨xo, xc, rfl⟩, hb2⟩; have HB2 : Hid (Below w.heap.size w w2) := HB1.out.trans (hb2.mono HB1.out.size); clear hb2)
      | (go_at_call 11; refine (lives_any _).mono ?_; rintro e w3 ⟨rfl, hb3⟩; have HB3 : Hid (Below w.heap.size w w3) := HB2.out.trans (hb3.mono HB2.out.size); clear hb3))
    go_ret
    exact ⟨rfl, HB3.out⟩
end Go.Proofs.Ytbjbmjghcjfipaa

/-
  The document's Tuples and Places. No conditions.
-/
import Derived.Test.YtnikbcljonbpcaaSRTu3
namespace Go.Proofs.Ytnikbcljonbpcaa
open Go.RowKit Go.Shelf
set_option linter.unusedVariables false
set_option maxRecDepth 100000

theorem take_snoc {α : Type} {l : List α} {i : Nat} {x : α} (h : l[i]? = some x) : l.take (i + 1) = l.take i ++ [x] := by
  rw [List.take_add_one, h]; rfl
set_option maxHeartbeats 16000000 in
theorem refTuples_any (D : List Int) (s : Sel) (vd : Value) (V : SV) (w : World) (hD : Is w vd D) (hS : Ss w V s) : Calls Try.prog 19 #[vd, selV s.kind V] w (TtP w D s) := by
  have HI : Hid (Is w vd D) := hD
  have HS : Hid (Ss w V s) := hS
  obtain ⟨ao, n, cap, rfl, hn, hc, hb⟩ := hD.open
  obtain ⟨a0, n0, c0, a1, n1, c1, a2, n2, c2, a3, n3, c3, a4, n4, c4, e, hV⟩ := selV_open hS
  obtain ⟨W1, hW1, hb1, hz1, b0, b1, b2, b3, b4, b5⟩ := box_sel w s.kind (.slice a0 n0 c0) (.slice a1 n1 c1) (.slice a2 n2 c2) (.slice a3 n3 c3) (.slice a4 n4 c4)
  have HB1 : Hid (Below w.heap.size w W1) := hb1
  obtain ⟨r, HR⟩ : ∃ r, Hid (slE D s = r) := ⟨_, rfl⟩
  obtain ⟨k, HK⟩ : ∃ k, Hid (s.kind = k) := ⟨_, rfl⟩
  have HCH : Hid (∀ w2, Below W1.heap.size W1 w2 → Calls Try.prog 15 #[.slice ao n cap, .agg #[.int .i64 k, .slice a0 n0 c0, .slice a1 n1 c1, .slice a2 n2 c2, .slice a3 n3 c3, .slice a4 n4 c4]] w2 fun e w' => e = .returned (.int .i64 r) ∧ Below w2.heap.size w2 w') := fun w2 hb2 => by
    have hw2 := hb1.trans (hb2.mono hb1.size)
    have := refCheck_any D s _ V w2 (HI.out.below hw2) (HS.out.below hw2)
    rwa [e, HK.out, HR.out] at this
  by_cases h0 : r = 0
  · subst h0
    by_cases k2 : s.kind = 2
    · have hk : k = 2 := by rw [← HK.out, k2]
      subst hk
      have HPT : Hid (s.pts.length ≤ 4096 ∧ ∀ t ∈ s.pts, t.length ≤ 4) := by
        obtain ⟨h1, h2, h3⟩ := tups_ok hS HR.out
        rw [tups, if_pos k2] at h2 h3
        have h4 := (dims_of (sel_ok hS HR.out).1).1
        exact ⟨h2, fun t ht => by rw [(h3 t ht).1]; exact h4⟩
      have HP : Hid (Iss w (.slice a0 n0 c0) s.pts) := by have := hS.p; rwa [hV] at this
      have HL : Hid (s.pts.length = n0) := by
        obtain ⟨_, _, _, e9, hl, _, _⟩ := HP.out.open
        injection e9 with e1 e2 e3
        rw [Hid, hl, e2]
      have hn04 : n0 ≤ 4096 := by have := HPT.out.1; have := HL.out; omega
      have HRET : Hid (∀ v w', RwP w' W1.heap.size v s.pts → Below W1.heap.size W1 w' → TtP w D s (.returned (.tuple #[v, .int .i64 0])) w') := fun v w' h1 h2 => ⟨v, by rw [HR.out], by rw [HR.out, if_pos rfl, tups, if_pos k2]; exact h1.mono HB1.out.size, HB1.out.trans (h2.mono HB1.out.size)⟩
      rw [k2] at e b0 hW1 ⊢
      rw [e]
      clear hD hS hn hb1 e hV
      go_enter Try.func19, Try.ntmps19
      go_wp2_with (go_at_call 15; refine Calls.mono (HCH.out _ (Below.refl _ _)) ?_; rintro e w2 ⟨rfl, hb2⟩; have HB2 : Hid (Below W1.heap.size W1 w2) := hb2; have d0 := (hb2.cell (World.block_lt_of_cell? W1 _ b0)).trans b0; have d1 := (hb2.cell (World.block_lt_of_cell? W1 _ b1)).trans b1; clear hb2)
      clear d0 d1
      go_loopw [8, 7] (fun x y wr => ∃ (i : Nat) (vo : Option Addr) (vc : Nat), i ≤ n0 ∧ x = .int .i64 (i : Int) ∧ y = .slice vo i vc ∧ Hid (RwP wr W1.heap.size (.slice vo i vc) (s.pts.take i)) ∧ Hid (Below W1.heap.size W1 wr)) (fun x _ _ => n0 - (intOf x).toNat)
      case atStart => exact ⟨0, none, 0, Nat.zero_le _, rfl, rfl, RwP.nil _ _, HB2.out⟩
      case round =>
        obtain ⟨i, vo, vc, hin, rfl, rfl, HRW, HB⟩ := hrel
        rename World => w6
        have d1 := (HB.out.cell (World.block_lt_of_cell? W1 _ b1)).trans b1
        by_cases hlt : i < n0
        · have hili : (i : Int) < (n0 : Int) := by omega
          obtain ⟨g, o, t, ua, un, uc, rfl, ht, htl, _, _, hcu, hiu⟩ := ((HP.out.below HB1.out).below HB.out).at hlt
          have hun4 : un ≤ 4 := by have := HPT.out.2 t (List.mem_of_getElem? ht); omega
          have HTS : Hid (s.pts.take (i + 1) = s.pts.take i ++ [t]) := take_snoc ht
          have HTL : Hid (t.length = un) := htl
          have HT64 : Hid (∀ z ∈ t, I64 z) := hiu.rng
          obtain ⟨wa, hwa, hba, hsa, hga⟩ := alloc_facts w6 (.cells #[] 3)
          have HBA : Hid (Below w6.heap.size w6 wa) := hba
          have HGA : Hid (wa.heap[w6.heap.size]? = some (.cells #[] 3 (0, 0))) := hga
          have HIU : Hid (Is wa (.slice ua un uc) t) := hiu.below hba
          have d1a := (hba.cell (World.block_lt_of_cell? w6 _ d1)).trans d1
          have d2a := (hba.cell (World.block_lt_of_cell? w6 _ hcu)).trans hcu
          clear hba hsa hga hiu ht htl
          go_wp2_with (first
            | (have hg := HO7; clear hg; at_builtin; refine wpList_push_row (w := w8) rfl (.tmp 33) (.tmp 41) rfl W1.heap.size (.slice vo i vc) (s.pts.take i) i (by rw [List.length_take, HL.out]; omega) w7.heap.size a7 un c7 t (by rfl) (by rfl) (HRW.out.below HB8.out) HO8.out (by rw [HTL.out]; omega) HT64.out HG8.out (by omega) (HB.out.trans (HB8.out.mono HB.out.size)).size ?_; rintro g9 c9 w9 hR9 hg9; have HR9 : Hid (RwP w9 W1.heap.size (.slice (some ⟨g9, 0, none⟩) (i + 1) c9) (s.pts.take (i + 1))) := (by rw [Hid, HTS.out]; exact hR9); have HB9 : Hid (Below W1.heap.size W1 w9) := bel_grown (HB.out.trans (HB8.out.mono HB.out.size)) (HRW.out.below HB8.out).choose_spec.own (Nat.le_refl _) hg9; clear hR9 hg9)
            | (at_builtin; refine wpList_app_is (w := wa) rfl (.tmp 34) (.tmp 39) rfl w6.heap.size ua un uc t (by rfl) (by rfl) (own_empty HGA.out) HIU.out hun4 HBA.out.size ?_; rintro a7 c7 w7 hO7 hg7; have HO7 : Hid (OwnI w7 w6.heap.size (.slice a7 un c7) t) := (by rw [Hid, OwnI, HTL.out]; exact hO7); have HB7 : Hid (Below w6.heap.size w6 w7) := bel_grown HBA.out (own_empty HGA.out) (Nat.le_refl _) hg7; obtain ⟨w8, hw8, hb8, hs8, hg8⟩ := alloc_facts w7 (.cells #[.slice a7 un c7] 22); have HB8 : Hid (Below w6.heap.size w6 w8) := HB7.out.trans (hb8.mono HB7.out.size); have HO8 : Hid (OwnI w8 W1.heap.size (.slice a7 un c7) t) := (HO7.out.below hb8).mono HB.out.size; have HG8 : Hid (w8.heap[w7.heap.size]? = some (.cells #[.slice a7 un c7] 22 (0, 0))) := hg8; clear hO7 hg7 hb8 hs8 hg8))
          go_roundw
          case rel => exact ⟨i + 1, _, _, by omega, by simp, rfl, HR9.out, HB9.out⟩
          case measure => simp [intOf]; omega
        · obtain rfl : i = n0 := by omega
          have HV : Hid (TtP w D s (.returned (.tuple #[.slice vo i vc, .int .i64 0])) w6) := HRET.out _ _ (by have h9 := HRW.out; rwa [List.take_of_length_le (by rw [HL.out]; exact Nat.le_refl _)] at h9) HB.out
          clear HRET
          go_wp2_with fail
          go_ret2
          exact HV.out
    · by_cases hz : slN D s = 0
      · obtain ⟨hd1, hd2, _, hd4⟩ := sel_ok hS HR.out
        obtain ⟨hA1, hA2, hA3⟩ := hd4 k2
        have hEL : elE D = 0 := by rw [elE, if_pos hd1, if_pos hd2]
        have hM : mayS D.length s = true := by
          cases hm : mayS D.length s with
          | true => rfl
          | false => have h9 := chk_no hEL hm; have := HR.out; omega
        have HTU : Hid (tups D s = []) := by
          have h9 := (tups_ok hS HR.out).1
          rw [hz] at h9
          exact List.eq_nil_of_length_eq_zero (by omega)
        have HSL : Hid (∀ w2, Below W1.heap.size W1 w2 → Calls Try.prog 28 #[.slice ao n cap, .agg #[.int .i64 k, .slice a0 n0 c0, .slice a1 n1 c1, .slice a2 n2 c2, .slice a3 n3 c3, .slice a4 n4 c4]] w2 fun e w' => e = .returned (.int .i64 0) ∧ Below w2.heap.size w2 w') := fun w2 hb2 => by
          have hw2 := HB1.out.trans (hb2.mono HB1.out.size)
          have := refSelected_any D s _ V w2 (HI.out.below hw2) (HS.out.below hw2) hEL hM
          rw [e, HK.out, hz] at this
          exact this
        have HRET : Hid (∀ w', Below W1.heap.size W1 w' → TtP w D s (.returned (.tuple #[.slice none 0 0, .int .i64 0])) w') := fun w' h2 => ⟨_, by rw [HR.out], by rw [HR.out, if_pos rfl, HTU.out]; exact RwP.nil _ _, HB1.out.trans (h2.mono HB1.out.size)⟩
        have hk2 : k ≠ 2 := by rw [← HK.out]; exact k2
        have f2 : (k == 2) = false := by simpa using hk2
        have f2' : decide (k = 2) = false := by simpa using hk2
        rw [e]
        rw [HK.out] at b0 hW1 ⊢
        clear hD hS hn hb1 e hV hd1 hd2 hd4 hA1 hA2 hA3 hz hEL hM k2
        go_enter Try.func19, Try.ntmps19
        go_wp2_with (first
          | (go_at_call 15; refine Calls.mono (HCH.out _ (Below.refl _ _)) ?_; rintro e w2 ⟨rfl, hb2⟩; have HB2 : Hid (Below W1.heap.size W1 w2) := hb2; have d0 := (hb2.cell (World.block_lt_of_cell? W1 _ b0)).trans b0; have d1 := (hb2.cell (World.block_lt_of_cell? W1 _ b1)).trans b1; have d2 := (hb2.cell (World.block_lt_of_cell? W1 _ b2)).trans b2; have d3 := (hb2.cell (World.block_lt_of_cell? W1 _ b3)).trans b3; have d4 := (hb2.cell (World.block_lt_of_cell? W1 _ b4)).trans b4; have d5 := (hb2.cell (World.block_lt_of_cell? W1 _ b5)).trans b5; clear hb2)
          | (go_at_call 28; refine Calls.mono (HSL.out _ HB2.out) ?_; rintro e w4 ⟨rfl, hb4⟩; have HV : Hid _ := HRET.out w4 (HB2.out.trans (hb4.mono HB2.out.size)); clear hb4))
        go_ret2
        exact HV.out
      · by_cases k1 : s.kind = 1
        · exact refTuples_k1 D s _ V w HI.out HS.out HR.out k1 hz
        · have k3 : s.kind = 3 := by
            have hE := HR.out
            by_cases k3 : s.kind = 3
            · exact k3
            · obtain ⟨hd1, hd2, _, _⟩ := sel_ok hS hE
              have hEL : elE D = 0 := by rw [elE, if_pos hd1, if_pos hd2]
              rw [slE, if_neg (by rw [hEL]; simp), if_neg k1, if_neg k2, if_neg k3] at hE
              omega
          exact refTuples_k3 D s _ V w HI.out HS.out HR.out k3 hz
  · have HRET : Hid (∀ w', Below W1.heap.size W1 w' → TtP w D s (.returned (.tuple #[.slice none 0 0, .int .i64 r])) w') := fun w' h2 => ⟨_, by rw [HR.out], by rw [HR.out, if_neg h0]; exact RwP.nil _ _, HB1.out.trans (h2.mono HB1.out.size)⟩
    have f2 : (r != 0) = true := by simpa using h0
    rw [e]
    rw [HK.out] at b0 hW1 ⊢
    clear hD hS hn hb1 e hV
    go_enter Try.func19, Try.ntmps19
    go_wp2_with (go_at_call 15; refine Calls.mono (HCH.out _ (Below.refl _ _)) ?_; rintro e w2 ⟨rfl, hb2⟩; have HV : Hid _ := HRET.out w2 hb2; clear hb2)
    go_ret2
    exact HV.out
/-- What the document's Places tells. -/
def PsP (w : World) (D : List Int) (s : Sel) (e : Ending) (w' : World) : Prop := Below w.heap.size w w' ∧ ∃ v, e = .returned (.tuple #[v, .int .i64 (slE D s)]) ∧ Is w' v (if slE D s = 0 then (tups D s).map (plc D) else [])
set_option maxHeartbeats 16000000 in
theorem refPlaces_any (D : List Int) (s : Sel) (vd : Value) (V : SV) (w : World) (hD : Is w vd D) (hS : Ss w V s) : Calls Try.prog 16 #[vd, selV s.kind V] w (PsP w D s) := by
  have HI : Hid (Is w vd D) := hD
  have HS : Hid (Ss w V s) := hS
  obtain ⟨ao, n, cap, rfl, hn, hc, hb⟩ := hD.open
  obtain ⟨a0, n0, c0, a1, n1, c1, a2, n2, c2, a3, n3, c3, a4, n4, c4, e, hV⟩ := selV_open hS
  obtain ⟨W1, hW1, hb1, hz1, b0, b1, b2, b3, b4, b5⟩ := box_sel w s.kind (.slice a0 n0 c0) (.slice a1 n1 c1) (.slice a2 n2 c2) (.slice a3 n3 c3) (.slice a4 n4 c4)
  have HB1 : Hid (Below w.heap.size w W1) := hb1
  obtain ⟨r, HR⟩ : ∃ r, Hid (slE D s = r) := ⟨_, rfl⟩
  obtain ⟨T, HT⟩ : ∃ T, Hid ((if slE D s = 0 then tups D s else []) = T) := ⟨_, rfl⟩
  obtain ⟨m, HM⟩ : ∃ m, Hid (T.length = m) := ⟨_, rfl⟩
  have HIN : Hid (m ≤ 4096 ∧ (∀ t ∈ T, Ins2 D t) ∧ (T ≠ [] → prd D ≤ 1048576)) := by
    rw [Hid, ← HM.out, ← HT.out]
    by_cases h0 : slE D s = 0
    · rw [if_pos h0]
      exact ⟨(tups_ok hS h0).2.1, (tups_ok hS h0).2.2, fun _ => (sel_ok hS h0).2.1⟩
    · rw [if_neg h0]
      exact ⟨by simp, by simp, fun h => absurd rfl h⟩
  have hm4 := HIN.out.1
  have HTU : Hid (Calls Try.prog 19 #[.slice ao n cap, .agg #[.int .i64 s.kind, .slice a0 n0 c0, .slice a1 n1 c1, .slice a2 n2 c2, .slice a3 n3 c3, .slice a4 n4 c4]] W1 fun e w' => (∃ tq tc, e = .returned (.tuple #[.slice tq m tc, .int .i64 r]) ∧ Iss w' (.slice tq m tc) T) ∧ Below W1.heap.size W1 w') := by
    have := refTuples_any D s _ V W1 (HI.out.below hb1) (HS.out.below hb1)
    rw [e] at this
    refine Calls.mono this ?_
    rintro e w' ⟨v, rfl, hu, hb3⟩
    rw [HT.out] at hu
    have hi := hu.iss (by rw [HM.out]; omega)
    obtain ⟨tq, tn, tc, rfl, htn, _⟩ := hi.open
    have htn' : m = tn := by rw [← htn, ← HM.out]
    subst htn'
    exact ⟨⟨tq, tc, by rw [HR.out], hi⟩, hb3⟩
  have HRET : Hid (∀ v w', OwnI w' W1.heap.size v (T.map (plc D)) → Below W1.heap.size W1 w' → PsP w D s (.returned (.tuple #[v, .int .i64 r])) w') := fun v w' h1 h2 => by
    refine ⟨HB1.out.trans (h2.mono HB1.out.size), v, by rw [HR.out], ?_⟩
    have h9 : (if slE D s = 0 then (tups D s).map (plc D) else []) = T.map (plc D) := by
      rw [← HT.out]
      by_cases h0 : slE D s = 0
      · rw [if_pos h0, if_pos h0]
      · rw [if_neg h0, if_neg h0]; rfl
    rw [h9]
    refine h1.is (by rw [List.length_map, HM.out]; omega) (fun x hx => ?_)
    rw [List.mem_map] at hx
    obtain ⟨t, ht, rfl⟩ := hx
    have h3 := plc_in (HIN.out.2.1 t ht)
    have h4 := HIN.out.2.2 (List.ne_nil_of_mem ht)
    exact ⟨by omega, by omega⟩
  rw [e]
  clear hD hS hn hb1 e hV
  go_enter Try.func16, Try.ntmps16
  go_wp2_with (go_at_call 19; refine Calls.mono HTU.out ?_; rintro e w2 ⟨⟨tq, tc, rfl, hi2⟩, hb2⟩; have HB2 : Hid (Below W1.heap.size W1 w2) := hb2; have HI2 : Hid (Iss w2 (.slice tq m tc) T) := hi2; clear hb2 hi2)
  go_loopw [9, 8] (fun x y wr => ∃ (i : Nat) (vo : Option Addr) (vc : Nat), i ≤ m ∧ x = .int .i64 (i : Int) ∧ y = .slice vo i vc ∧ Hid (OwnI wr w2.heap.size (.slice vo i vc) ((T.take i).map (plc D))) ∧ Hid (Below w2.heap.size w2 wr)) (fun x _ _ => m - (intOf x).toNat)
  case atStart => exact ⟨0, none, 0, Nat.zero_le _, rfl, rfl, OwnI.nil _ _, Below.refl _ _⟩
  case round =>
    obtain ⟨i, vo, vc, hin, rfl, rfl, HO, HB⟩ := hrel
    rename World => w6
    by_cases hlt : i < m
    · have hili : (i : Int) < (m : Int) := by omega
      obtain ⟨g, o, t, ua, un, uc, rfl, ht, htl, _, _, hcu, hiu⟩ := (HI2.out.below HB.out).at hlt
      have HTS : Hid ((T.take (i + 1)).map (plc D) = (T.take i).map (plc D) ++ [plc D t]) := by rw [Hid, take_snoc ht, List.map_append]; rfl
      obtain ⟨p, HPP⟩ : ∃ p, Hid (plc D t = p) := ⟨_, rfl⟩
      have HPL : Hid (Calls Try.prog 30 #[.slice ao n cap, .slice ua un uc] w6 fun e w' => e = .returned (.int .i64 p) ∧ Below w6.heap.size w6 w') := by
        have := refPlace_any D t _ _ w6 (HI.out.below (HB1.out.trans ((HB2.out.trans (HB.out.mono HB2.out.size)).mono HB1.out.size))) hiu (HIN.out.2.1 t (List.mem_of_getElem? ht)) (HIN.out.2.2 (List.ne_nil_of_mem (List.mem_of_getElem? ht)))
        rwa [HPP.out] at this
      clear hiu ht htl
      go_wp2_with (first
        | (go_at_call 30; refine Calls.mono HPL.out ?_; rintro e w7 ⟨rfl, hb7⟩; obtain ⟨wa, hwa, hba, hsa, hga⟩ := alloc_facts w7 (.cells #[.int .i64 p] 3); have HBA : Hid (Below w2.heap.size w2 wa) := (HB.out.trans (hb7.mono HB.out.size)).trans (hba.mono (HB.out.trans (hb7.mono HB.out.size)).size); have HOA : Hid (OwnI wa w2.heap.size (.slice vo i vc) ((T.take i).map (plc D))) := (HO.out.below hb7).below hba; have HGA : Hid (wa.heap[w7.heap.size]? = some (.cells #[.int .i64 p] 3 (0, 0))) := hga; clear hba hsa hga hb7)
        | (at_builtin; refine wpList_push_int (w := wa) rfl (.tmp 22) (.tmp 29) rfl w2.heap.size (.slice vo i vc) ((T.take i).map (plc D)) i (by rw [List.length_map, List.length_take, HM.out]; omega) w7.heap.size p (by rfl) (by rfl) HOA.out HGA.out (by omega) HBA.out.size ?_; rintro g8 c8 w8 hO8 hg8; have HO8 : Hid (OwnI w8 w2.heap.size (.slice (some ⟨g8, 0, none⟩) (i + 1) c8) ((T.take (i + 1)).map (plc D))) := (by rw [Hid, HTS.out, HPP.out]; exact hO8); have HB8 : Hid (Below w2.heap.size w2 w8) := bel_grown HBA.out HOA.out (Nat.le_refl _) hg8; clear hO8 hg8))
      go_roundw
      case rel => exact ⟨i + 1, _, _, by omega, by simp, rfl, HO8.out, HB8.out⟩
      case measure => simp [intOf]; omega
    · obtain rfl : i = m := by omega
      have HV : Hid (PsP w D s (.returned (.tuple #[.slice vo i vc, .int .i64 r])) w6) := HRET.out _ _ (by have h9 := HO.out; rw [List.take_of_length_le (by rw [HM.out]; exact Nat.le_refl _)] at h9; exact h9.mono HB2.out.size) (HB2.out.trans (HB.out.mono HB2.out.size))
      clear HRET
      go_wp2_with fail
      go_ret2
      exact HV.out
end Go.Proofs.Ytnikbcljonbpcaa

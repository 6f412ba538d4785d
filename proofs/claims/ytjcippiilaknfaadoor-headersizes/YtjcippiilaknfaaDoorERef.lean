/-
  Messages in the document's form; the document's May and Stream. Conditions: lengths are such as memory bears.
-/
import Derived.Test.YtjcippiilaknfaaDoorRoomM
namespace Go.Proofs.YtjcippiilaknfaaDoor
open Go.RowKit
set_option linter.unusedVariables false
set_option maxRecDepth 100000

def encM (m : Msg) : List Value := [.int .i64 m.1, m.2.1]
theorem encM_len (m : Msg) : (encM m).length = 2 := rfl
theorem Tryd.infoRM : (Tryd.prog.info? 64).map (fun i => (i.zero, i.size, i.bytes)) = some (some (.agg #[.int .i64 0, .slice none 0 0]), 2, 32) := by kernel_rfl
theorem ms_of_row {w : World} {B n : Nat} {T : TypeId} {v : Value} {l : List Msg} (hl : l.length = n) (h : w.ownsRow B T 2 v n (gc encM l)) (hb : ∀ (i : Nat) (m : Msg), l[i]? = some m → Bs w m.2.1 m.2.2) : Ms w v l := by
  subst hl
  rcases ownsRow_shape h with ⟨rfl, h0⟩ | ⟨g, cap, rfl, _, _, hc, _, _, hcell⟩
  · refine ⟨none, 0, by rw [h0], by omega, fun i m hm => ?_⟩
    have := (List.getElem?_eq_some_iff.1 hm).1
    omega
  · refine ⟨some ⟨g, 0, none⟩, cap, rfl, hc, fun i m hm => ⟨hb i m hm, g, 0, rfl, ?_, ?_⟩⟩
    · have := hcell _ _ (gc_at encM_len l i m hm 0 _ rfl)
      simpa using this
    · have := hcell _ _ (gc_at encM_len l i m hm 1 _ rfl)
      simpa using this
set_option maxHeartbeats 4000000 in
theorem plain_any (w : World) (v : Value) (l : List Msg) (hM : Ms w v l) (hn : l.length ≤ 4398046510976) :
    Calls Tryd.prog 13 #[v] w fun e w' => ∃ v', e = .returned v' ∧ Ms w' v' l ∧ Below w.heap.size w w' := by
  obtain ⟨i1, hi1, hy0, hy1, hy2⟩ := info_parts2 Tryd.infoRM
  obtain ⟨ao, cap, rfl, hcap, hc⟩ := hM
  have HC : Hid _ := hc
  obtain ⟨n, HN⟩ : ∃ n, Hid (l.length = n) := ⟨_, rfl⟩
  rw [HN.out] at hcap hn ⊢
  have HR0 : Hid (w.ownsRow w.heap.size 64 2 (.slice none 0 0) 0 []) := ⟨rfl, .inl ⟨rfl, rfl⟩⟩
  clear hc
  go_enter Tryd.func13, Tryd.ntmps13
  go_wp2_with fail
  go_loopw [4, 3] (fun x y wr => ∃ (i : Nat) (aoY : Option Addr) (capY : Nat), i ≤ n ∧ x = .int .i64 (i : Int) ∧ y = .slice aoY i capY ∧ Hid (wr.ownsRow w.heap.size 64 2 (.slice aoY i capY) i (gc encM (l.take i))) ∧ Hid (Below w.heap.size w wr)) (fun x _ _ => n - (intOf x).toNat)
  case atStart => exact ⟨0, none, 0, Nat.zero_le _, rfl, rfl, HR0.out, Below.refl _ _⟩
  case round =>
    obtain ⟨i, aoY, capY, hin, rfl, rfl, HR, HB⟩ := hrel
    clear HR0
    by_cases hlt : i < n
    · obtain ⟨m, hm⟩ : ∃ m, l[i]? = some m := ⟨l[i]'(by rw [HN.out]; exact hlt), List.getElem?_eq_getElem _⟩
      obtain ⟨hbs, g, o, rfl, c1, c2⟩ := HC.out i m hm
      obtain ⟨aom, capm, hv, _⟩ := hbs
      have HT : Hid (gc encM (l.take (i + 1)) = gc encM (l.take i) ++ [.int .i64 m.1, .slice aom m.2.2.length capm]) := by unfold Hid; rw [List.take_add_one, hm, gc_append]; show _ ++ gc encM [m] = _; rw [gc_one, encM, hv]
      rw [hv] at c2
      obtain ⟨ml, HML⟩ : ∃ ml, Hid (m.2.2.length = ml) := ⟨_, rfl⟩
      rw [HML.out] at c2 HT
      have d1 : wr.cell? ⟨g, o + i * 2, none⟩ = some (.int .i64 m.1) := (HB.out.cell (World.block_lt_of_cell? w _ c1)).trans c1
      have d2 : wr.cell? ⟨g, o + i * 2 + 1, none⟩ = some (.slice aom ml capm) := (HB.out.cell (World.block_lt_of_cell? w _ c2)).trans c2
      have hili : (i : Int) < (n : Int) := by omega
      have HWB : Hid (Below wr.heap.size wr (wr.drew.alloc (.cells #[.int .i64 m.1, .slice aom ml capm] 64))) := (Below.refl _ _).drew.alloc (Nat.le_refl _) _
      have HGX : Hid ((wr.drew.alloc (.cells #[.int .i64 m.1, .slice aom ml capm] 64)).heap[wr.heap.size]? = some (.cells #[.int .i64 m.1, .slice aom ml capm] 64 (0, 0))) := heap_alloc_new wr.drew _
      have HRW : Hid ((wr.drew.alloc (.cells #[.int .i64 m.1, .slice aom ml capm] 64)).ownsRow w.heap.size 64 2 (.slice aoY i capY) i (gc encM (l.take i))) := ownsRow_below HR.out HWB.out
      have HBW : Hid (Below w.heap.size w (wr.drew.alloc (.cells #[.int .i64 m.1, .slice aom ml capm] 64))) := HB.out.trans (HWB.out.mono HB.out.size)
      clear hm hv c1 c2
      go_upto_region 5 with fail
      go_region_law (refine step_append_G 24 rfl rfl (.tmp 11) (.tmp 23) 29 64 rfl i1 Tryd.underlying29 hi1 _ hy0 2 32 hy1 hy2 rfl (by omega) w.heap.size (.slice aoY i capY) i (gc encM (l.take i)) ⟨wr.heap.size, 0, none⟩ 1 1 [.int .i64 m.1, .slice aom ml capm] rfl rfl HRW.out rfl (news_one HGX.out) (by intro u hu; simp at hu; rcases hu with rfl | rfl <;> rfl) (by omega) (by omega) (by omega) HBW.out.size ?_; intro g3 cap3 w3 ho3 hg3 ha3; have HO3 : Hid (w3.ownsRow w.heap.size 64 2 (.slice (some ⟨g3, 0, none⟩) (i + 1) cap3) (i + 1) (gc encM (l.take i) ++ [.int .i64 m.1, .slice aom ml capm])) := ho3; have HB3 : Hid (Below w.heap.size w w3) := blk_below HBW.out HRW.out hg3; clear ho3 hg3 ha3)
      all_goals
        go_wp2_with fail
        go_roundw
        case rel => exact ⟨i + 1, some ⟨g3, 0, none⟩, cap3, by omega, by simp, rfl, by unfold Hid; rw [HT.out]; exact HO3.out, HB3.out⟩
        case measure => simp [intOf]; omega
    · obtain rfl : i = n := by omega
      have HE : Hid (Ms wr (.slice aoY i capY) l) := by
        have h := HR.out
        rw [List.take_of_length_le (by rw [HN.out]; exact Nat.le_refl _)] at h
        exact ms_of_row HN.out h (fun j m hm => ((HC.out j m hm).1).below HB.out)
      have hii : ¬ (i : Int) < (i : Int) := by omega
      go_wp2_with fail
      go_ret
      exact ⟨_, rfl, HE.out, HB.out⟩
set_option maxHeartbeats 4000000 in
theorem refMay8_any (w : World) (v : Value) (l : List Msg) (hM : Ms w v l) (hn : l.length ≤ 140737488351232) :
    Calls Tryd.prog 12 #[v] w fun e w' => e = .returned (.int .i64 (szErr l)) ∧ w' = w := by
  obtain ⟨ao, cap, rfl, hcap, hc⟩ := hM
  have HC : Hid _ := hc
  obtain ⟨n, HN⟩ : ∃ n, Hid (l.length = n) := ⟨_, rfl⟩
  obtain ⟨er, HER⟩ : ∃ er, Hid (szErr l = er) := ⟨_, rfl⟩
  have HSE : Hid (er = if 65536 < n then 3 else if l.any longB then 3 else if l.any kindB then 2 else 0) := by unfold Hid; rw [← HER.out, szErr, HN.out]
  rw [HN.out] at hcap hn ⊢
  rw [HER.out]
  clear hc
  by_cases hbig : 65536 < n
  · have hbi : (65536 : Int) < (n : Int) := by omega
    have e1 : er = 3 := by rw [HSE.out, if_pos hbig]
    subst e1
    go_enter Tryd.func12, Tryd.ntmps12
    go_wp2_with fail
    go_ret
    exact ⟨rfl, rfl⟩
  · have hbi : ¬ (65536 : Int) < (n : Int) := by omega
    have hse : er = if l.any longB then 3 else if l.any kindB then 2 else 0 := by rw [HSE.out, if_neg hbig]
    have HSE2 : Hid (er = if l.any longB then 3 else if l.any kindB then 2 else 0) := hse
    clear hse HSE
    go_enter Tryd.func12, Tryd.ntmps12
    go_wp2_with fail
    go_loopw [3] (fun x wr => ∃ i : Nat, i ≤ n ∧ x = .int .i64 (i : Int) ∧ Hid ((l.take i).any longB = false) ∧ Hid (wr = w)) (fun x _ => n - (intOf x).toNat)
    case atStart => exact ⟨0, Nat.zero_le _, rfl, rfl, rfl⟩
    case round =>
      obtain ⟨i, hin, rfl, HA, hwr⟩ := hrel
      obtain rfl := hwr.out
      clear hwr
      by_cases hlt : i < n
      · obtain ⟨m, hm⟩ : ∃ m, l[i]? = some m := ⟨l[i]'(by rw [HN.out]; exact hlt), List.getElem?_eq_getElem _⟩
        obtain ⟨hbs, g, o, rfl, c1, c2⟩ := HC.out i m hm
        obtain ⟨aom, capm, hv, _⟩ := hbs
        rw [hv] at c2
        have HT : Hid ((l.take (i + 1)).any longB = longB m) := by unfold Hid; rw [List.take_add_one, hm, List.any_append, HA.out]; simp
        have HAL : Hid (longB m = true → er = 3) := fun h => by rw [HSE2.out, if_pos (List.any_eq_true.2 ⟨m, List.mem_of_getElem? hm, h⟩)]
        have HLB : Hid (longB m = decide (65536 < (m.2.2.length : Int))) := rfl
        obtain ⟨ml, HML⟩ : ∃ ml, Hid (m.2.2.length = ml) := ⟨_, rfl⟩
        rw [HML.out] at c2 HLB
        have hili : (i : Int) < (n : Int) := by omega
        clear hm hv
        by_cases hl : (65536 : Int) < (ml : Int)
        · have e1 : er = 3 := HAL.out (by rw [HLB.out]; simpa using hl)
          subst e1
          go_wp2_with fail
          go_ret
          exact ⟨rfl, rfl⟩
        · have HF : Hid (longB m = false) := by unfold Hid; rw [HLB.out]; simpa using hl
          go_wp2_with fail
          go_roundw
          case rel => exact ⟨i + 1, by omega, by simp, by unfold Hid; rw [HT.out, HF.out], by first | exact rfl | exact trivial⟩
          case measure => simp [intOf]; omega
      · obtain rfl : i = n := by omega
        have hii : ¬ (i : Int) < (i : Int) := by omega
        have HE : Hid (l.any longB = false) := by have h := HA.out; rwa [List.take_of_length_le (by rw [HN.out]; exact Nat.le_refl _)] at h
        have HSE3 : Hid (er = if l.any kindB then 2 else 0) := by unfold Hid; rw [HSE2.out, HE.out]; simp
        go_wp2_with fail
        go_loopw [4] (fun x wr' => ∃ k : Nat, k ≤ i ∧ x = .int .i64 (k : Int) ∧ Hid ((l.take k).any kindB = false) ∧ Hid (wr' = wr)) (fun x _ => i - (intOf x).toNat)
        case atStart => exact ⟨0, Nat.zero_le _, rfl, rfl, rfl⟩
        case round =>
          obtain ⟨k, hkn, rfl, HK, hwr⟩ := hrel
          obtain rfl := hwr.out
          clear hwr
          by_cases hlt : k < i
          · obtain ⟨m, hm⟩ : ∃ m, l[k]? = some m := ⟨l[k]'(by rw [HN.out]; exact hlt), List.getElem?_eq_getElem _⟩
            obtain ⟨_, g, o, rfl, c1, c2⟩ := HC.out k m hm
            have HT : Hid ((l.take (k + 1)).any kindB = kindB m) := by unfold Hid; rw [List.take_add_one, hm, List.any_append, HK.out]; simp
            have HAL : Hid (kindB m = true → er = 2) := fun h => by rw [HSE3.out, if_pos (List.any_eq_true.2 ⟨m, List.mem_of_getElem? hm, h⟩)]
            have HKB : Hid (kindB m = (decide (m.1 < 1) || decide (255 < m.1))) := rfl
            obtain ⟨ki, HKI⟩ : ∃ ki, Hid (m.1 = ki) := ⟨_, rfl⟩
            rw [HKI.out] at c1 HKB
            have hili : (k : Int) < (i : Int) := by omega
            clear hm c2
            by_cases h1 : ki < 1
            · have e1 : er = 2 := HAL.out (by rw [HKB.out]; simp [h1])
              subst e1
              go_wp2_with fail
              go_ret
              exact ⟨rfl, rfl⟩
            · by_cases h2 : 255 < ki
              · have e1 : er = 2 := HAL.out (by rw [HKB.out]; simp [h2])
                subst e1
                go_wp2_with fail
                go_ret
                exact ⟨rfl, rfl⟩
              · have HF : Hid (kindB m = false) := by unfold Hid; rw [HKB.out]; simp; omega
                go_wp2_with fail
                go_roundw
                case rel => exact ⟨k + 1, by omega, by simp, by unfold Hid; rw [HT.out, HF.out], by first | exact rfl | exact trivial⟩
                case measure => simp [intOf]; omega
          · obtain rfl : k = i := by omega
            have hkk : ¬ (k : Int) < (k : Int) := by omega
            have HKE : Hid (l.any kindB = false) := by have h := HK.out; rwa [List.take_of_length_le (by rw [HN.out]; exact Nat.le_refl _)] at h
            have e1 : er = 0 := by rw [HSE3.out, HKE.out]; simp
            subst e1
            go_wp2_with fail
            go_ret
            exact ⟨rfl, rfl⟩
set_option maxHeartbeats 4000000 in
theorem refStream_any (w : World) (v : Value) (l : List Msg) (hM : Ms w v l) (hn : l.length ≤ 65536) (hL : l.any longB = false) (hK : l.any kindB = false) :
    Calls Tryd.prog 14 #[v] w fun e w' => ∃ v', e = .returned v' ∧ Own w' w.heap.size v' (strm l) ∧ Below w.heap.size w w' := by
  obtain ⟨i0, hi, hz0, hz1, hz2⟩ := info_parts Tryd.info5
  obtain ⟨ao, cap, rfl, hcap, hc⟩ := hM
  have HC : Hid _ := hc
  have HLL : Hid _ := any_false_len hL
  have HKK : Hid (∀ (i : Nat) (m : Msg), l[i]? = some m → 1 ≤ m.1 ∧ m.1 ≤ 255) := by
    intro i m hm
    have := (List.any_eq_false.1 hK) m (List.mem_of_getElem? hm)
    simp [kindB] at this
    omega
  have HLEN : Hid (∀ i : Nat, i ≤ 65536 → (strmTo l i).length ≤ 5000000000) := by
    intro i hi
    have h1 := strmTo_len l i
    have h2 := szTo_bd hL i
    omega
  have HNX : Hid (∀ (i : Nat) (m : Msg), l[i]? = some m → strmTo l (i + 1) = strmTo l i ++ msgL m) := fun i m h => strmTo_next h
  obtain ⟨n, HN⟩ : ∃ n, Hid (l.length = n) := ⟨_, rfl⟩
  have HS0 : Hid (strmTo l 0 = d4 (n : Int)) := by unfold Hid strmTo; rw [HN.out]; simp
  have HSE : Hid (strmTo l n = strm l) := by unfold Hid strmTo strm; rw [← HN.out, List.take_length]
  rw [HN.out] at hn hcap ⊢
  have hwn : IntKind.u64.wrap (n : Int) = (n : Int) := by simp [IntKind.wrap, IntKind.bits, IntKind.signed]; omega
  have HDG : Hid (∀ (u : Int) (W : World), 0 ≤ u → u < 4294967296 → Calls Tryd.prog 28 #[.int .i64 4, .bool true, .int .u64 u] W fun e w' => ∃ v', e = .returned v' ∧ Own w' W.heap.size v' (d4 u) ∧ Below W.heap.size W w') := fun u W h0 h1 => refDigits_four u W h0 (by omega)
  clear hc hL hK
  go_enter Tryd.func14, Tryd.ntmps14
  go_wp2_with (go_at_call 28; refine Calls.mono (HDG.out (n : Int) _ (by omega) (by omega)) ?_; rintro e w1 ⟨v1, rfl, ho1, hb1⟩; have HO1 : Hid (Own w1 w.heap.size v1 (d4 (n : Int))) := ho1; have HB1 : Hid (Below w.heap.size w w1) := hb1; clear ho1 hb1)
  go_loopw [4, 3] (fun x y wr => ∃ i : Nat, i ≤ n ∧ x = .int .i64 (i : Int) ∧ Hid (Own wr w.heap.size y (strmTo l i)) ∧ Hid (Below w.heap.size w wr)) (fun x _ _ => n - (intOf x).toNat)
  case atStart => exact ⟨0, Nat.zero_le _, rfl, by unfold Hid; rw [HS0.out]; exact HO1.out, HB1.out⟩
  case round =>
    obtain ⟨i, hin, rfl, HO, HB⟩ := hrel
    clear HO1 HB1
    by_cases hlt : i < n
    · obtain ⟨m, hm⟩ : ∃ m, l[i]? = some m := ⟨l[i]'(by rw [HN.out]; exact hlt), List.getElem?_eq_getElem _⟩
      obtain ⟨hbs, g, o, rfl, c1, c2⟩ := HC.out i m hm
      have HBS : Hid (Bs w m.2.1 m.2.2) := hbs
      obtain ⟨aom, capm, hv, _⟩ := hbs
      have hml := HLL.out i m hm
      obtain ⟨hk1, hk2⟩ := HKK.out i m hm
      have HN2 : Hid (strmTo l (i + 1) = ((strmTo l i ++ d4 m.1) ++ d4 m.2.2.length) ++ m.2.2) := by unfold Hid; rw [HNX.out i m hm, msgL]; simp
      have HLI : Hid ((strmTo l i).length ≤ 5000000000) := HLEN.out i (by omega)
      rw [hv] at c2 HBS
      obtain ⟨k, HKe⟩ : ∃ k, Hid (m.1 = k) := ⟨_, rfl⟩
      rw [HKe.out] at c1 hk1 hk2 HN2
      obtain ⟨bl, HBl⟩ : ∃ bl, Hid (m.2.2 = bl) := ⟨_, rfl⟩
      rw [HBl.out] at c2 hml HN2 HBS
      obtain ⟨ml, HML⟩ : ∃ ml, Hid (bl.length = ml) := ⟨_, rfl⟩
      rw [HML.out] at c2 hml HN2 HBS
      have HCA : Hid (∀ W, Below w.heap.size w W → W.cell? ⟨g, o + i * 2, none⟩ = some (.int .i64 k) ∧ W.cell? ⟨g, o + i * 2 + 1, none⟩ = some (.slice aom ml capm)) := fun W hW => ⟨(hW.cell (World.block_lt_of_cell? w _ c1)).trans c1, (hW.cell (World.block_lt_of_cell? w _ c2)).trans c2⟩
      obtain ⟨d1, d2⟩ := HCA.out wr HB.out
      have hwk : IntKind.u64.wrap k = k := by simp [IntKind.wrap, IntKind.bits, IntKind.signed]; omega
      have hwm : IntKind.u64.wrap (ml : Int) = (ml : Int) := by simp [IntKind.wrap, IntKind.bits, IntKind.signed]; omega
      have hili : (i : Int) < (n : Int) := by omega
      obtain ⟨p, HP⟩ : ∃ p, Hid ((strmTo l i).length = p) := ⟨_, rfl⟩
      have hp : p ≤ 5000000000 := by rw [← HP.out]; exact HLI.out
      have HP1 : Hid ((strmTo l i ++ d4 k).length = p + 4) := by unfold Hid; rw [List.length_append, d4_length, HP.out]
      have HP2 : Hid (((strmTo l i ++ d4 k) ++ d4 (ml : Int)).length = p + 4 + 4) := by unfold Hid; rw [List.length_append, d4_length, HP1.out]
      have HDK : Hid ((d4 k).length = 4) := d4_length _
      have HDM : Hid ((d4 (ml : Int)).length = 4) := d4_length _
      clear c1 c2 hv hm
      go_wp2_with (first
        | (have hg := HB5; clear hg; at_builtin; refine wpList_append_bg w5 rfl (.tmp 34) (.tmp 39) 31 rfl i0 Tryd.underlying31 hi hz0 hz1 hz2 w.heap.size (.slice ao5 (p + 4 + 4) cap5) (.slice aom ml capm) ((strmTo l i ++ d4 k) ++ d4 (ml : Int)) bl (p + 4 + 4) ml HP2.out HML.out rfl rfl HO5.out (HBS.out.below HB5.out) (by omega) HB5.out.size ?_; intro ao6 cap6 w6 ho6 hg6 _; have HB6 : Hid (Below w.heap.size w w6) := below_gr8 HB5.out HO5.out hg6; have HO6 : Hid (Own w6 w.heap.size (.slice ao6 (p + 4 + 4 + ml) cap6) (((strmTo l i ++ d4 k) ++ d4 (ml : Int)) ++ bl)) := ho6; clear ho6 hg6)
        | (have hg := HB4; clear hg; at_builtin; refine wpList_append_bg w4 rfl (.tmp 24) (.tmp 32) 31 rfl i0 Tryd.underlying31 hi hz0 hz1 hz2 w.heap.size (.slice ao3 (p + 4) cap3) v4 (strmTo l i ++ d4 k) (d4 (ml : Int)) (p + 4) 4 HP1.out HDM.out rfl rfl HO4.out HD4.out (by omega) HB4.out.size ?_; intro ao5 cap5 w5 ho5 hg5 _; have HB5 : Hid (Below w.heap.size w w5) := below_gr8 HB4.out HO4.out hg5; have HO5 : Hid (Own w5 w.heap.size (.slice ao5 (p + 4 + 4) cap5) ((strmTo l i ++ d4 k) ++ d4 (ml : Int))) := ho5; have e5 := (HCA.out w5 HB5.out).2; clear ho5 hg5)
        | (have hg := HB3; clear hg; go_at_call 28; refine Calls.mono (HDG.out (ml : Int) _ (by omega) (by omega)) ?_; rintro e w4 ⟨v4, rfl, ho4, hb4⟩; have HD4 : Hid (Bs w4 v4 (d4 (ml : Int))) := ho4.bs; have HB4 : Hid (Below w.heap.size w w4) := HB3.out.trans (hb4.mono HB3.out.size); have HO4 : Hid (Own w4 w.heap.size (.slice ao3 (p + 4) cap3) (strmTo l i ++ d4 k)) := HO3.out.below hb4; clear ho4 hb4)
        | (have hg := HB2; clear hg; at_builtin; refine wpList_append_bg w2 rfl (.tmp 15) (.tmp 22) 31 rfl i0 Tryd.underlying31 hi hz0 hz1 hz2 w.heap.size u3 v2 (strmTo l i) (d4 k) p 4 HP.out HDK.out rfl rfl HO2.out HD2.out (by omega) HB2.out.size ?_; intro ao3 cap3 w3 ho3 hg3 _; have HB3 : Hid (Below w.heap.size w w3) := below_gr8 HB2.out HO2.out hg3; have HO3 : Hid (Own w3 w.heap.size (.slice ao3 (p + 4) cap3) (strmTo l i ++ d4 k)) := ho3; have e3 := (HCA.out w3 HB3.out).2; clear ho3 hg3)
        | (go_at_call 28; refine Calls.mono (HDG.out k _ (by omega) (by omega)) ?_; rintro e w2 ⟨v2, rfl, ho2, hb2⟩; have HD2 : Hid (Bs w2 v2 (d4 k)) := ho2.bs; have HB2 : Hid (Below w.heap.size w w2) := HB.out.trans (hb2.mono HB.out.size); have HO2 : Hid (Own w2 w.heap.size u3 (strmTo l i)) := HO.out.below hb2; clear ho2 hb2))
      go_roundw
      case rel => exact ⟨i + 1, by omega, by simp, by unfold Hid; rw [HN2.out]; exact HO6.out, HB6.out⟩
      case measure => simp [intOf]; omega
    · obtain rfl : i = n := by omega
      have hii : ¬ (i : Int) < (i : Int) := by omega
      have HE : Hid (Own wr w.heap.size u3 (strm l)) := by unfold Hid; rw [← HSE.out]; exact HO.out
      go_wp2_with fail
      go_ret
      exact ⟨_, rfl, HE.out, HB.out⟩
end Go.Proofs.YtjcippiilaknfaaDoor

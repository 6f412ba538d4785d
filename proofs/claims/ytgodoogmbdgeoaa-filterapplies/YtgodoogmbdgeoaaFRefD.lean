/-
  The document's Delta and Undelta. Conditions: lengths are such as memory bears.
-/
import Derived.Test.YtgodoogmbdgeoaaFRefS
namespace Go.Proofs.Ytgodoogmbdgeoaa
open Go.RowKit Go.Shelf
set_option linter.unusedVariables false
set_option maxRecDepth 100000

theorem cut_any (z : Nat) (u : Int) (w : World) (hz : z ≤ 8) (hu0 : 0 ≤ u) (hu1 : u < 18446744073709551616) :
    Calls Try.prog 39 #[.int .u64 u, .int .i64 (z : Int)] w fun e w' => ∃ v, e = .returned v ∧ Own w' w.heap.size v (digs u z) ∧ Below w.heap.size w w' := by
  have HD : Hid _ := refDigits_any z false u w hz hu0 hu1
  go_enter Try.func39, Try.ntmps39
  go_wp2_with (go_at_call 41; refine Calls.mono HD.out ?_; rintro e w1 ⟨v, rfl, ho, hb⟩; have HO : Hid (Own w1 w.heap.size v (digs u z) ∧ Below w.heap.size w w1) := ⟨ho, hb⟩; clear ho hb)
  go_ret
  exact ⟨_, rfl, HO.out.1, HO.out.2⟩
set_option maxHeartbeats 8000000 in
theorem refDe_no (z : Int) (v : Value) (w : World) (hz : z < 1 ∨ 8 < z) : Calls Try.prog 23 #[.int .i64 z, v] w fun e w' => e = .returned (.tuple #[.slice none 0 0, .int .i64 2]) ∧ w' = w := by
  rcases hz with h | h
  · go_enter Try.func23, Try.ntmps23
    go_wp2_with fail
    go_ret2
    exact ⟨rfl, rfl⟩
  · have h1 : ¬ z < 1 := by omega
    go_enter Try.func23, Try.ntmps23
    go_wp2_with fail
    go_ret2
    exact ⟨rfl, rfl⟩
set_option maxHeartbeats 16000000 in
theorem refDe_any (z : Int) (v : Value) (l : List Int) (w : World) (hl : Bs w v l) (hby : Byt l) (hlb : l.length ≤ 140737488351232) :
    Calls Try.prog 23 #[.int .i64 z, v] w (RfP w (wE z) (wL z deL l)) := by
  by_cases hz : 1 ≤ z ∧ z ≤ 8
  · obtain ⟨i0, hi, hi0, hi1, hi2⟩ := info_parts Try.info5
    obtain ⟨zn, rfl⟩ : ∃ zn : Nat, z = (zn : Int) := ⟨z.toNat, by omega⟩
    have h1 : 1 ≤ zn := by omega
    have h8 : zn ≤ 8 := by omega
    have hwl : wL (zn : Int) deL l = deL zn l := by rw [wL, if_pos (wE_yes h1 h8)]; rfl
    rw [hwl, wE_yes h1 h8]
    have HF : Hid (rowN (dlN zn l) zn (l.length / zn) ++ l.drop (l.length / zn * zn) = deL zn l) := rfl
    obtain ⟨ao, cap, rfl, hc, hn, _⟩ := id hl
    obtain ⟨len, hll⟩ : ∃ len, l.length = len := ⟨_, rfl⟩
    have HLL : Hid (l.length = len) := hll
    have HGET : Hid (∀ (k : Nat) (w1 : World), k < len / zn → Below w.heap.size w w1 → Calls Try.prog 38 #[.slice ao len cap, .int .i64 (k * zn : Nat), .int .i64 (zn : Int), .bool false] w1 fun e w' => e = .returned (.tuple #[.int .u64 (nm zn l k), .int .i64 0]) ∧ w' = w1) := fun k w1 hk h => by
      have := refGet_yes (.slice ao l.length cap) l (k * zn) zn false w1 (hl.below h) hlb hby h1 h8 (pl_in (num_le l zn) (by rw [hll]; exact hk))
      rwa [val_nm zn l (by rw [hll]; exact hk), hll] at this
    rw [hll] at hc hlb hl HF ⊢
    obtain ⟨n, hnl⟩ : ∃ n, len / zn = n := ⟨_, rfl⟩
    rw [hnl] at HF HGET
    have hnz : n * zn ≤ len := by rw [← hnl]; exact Nat.div_mul_le_self _ _
    have hn8 : n ≤ len := by rw [← hnl]; exact Nat.div_le_self _ _
    obtain ⟨p, hp⟩ : ∃ p, n * zn = p := ⟨_, rfl⟩
    have hql : IntKind.i64.wrap (Int.tdiv (len : Int) (zn : Int)) = (n : Int) := by rw [Int.tdiv_eq_ediv_of_nonneg (by omega), ← Int.natCast_ediv, hnl]; exact wrap_i64_in _ (by omega) (by omega)
    have hq : (len : Int) / (zn : Int) = (n : Int) := by rw [← Int.natCast_ediv, hnl]
    have e1 : IntKind.i64.wrap ((n : Int) * (zn : Int)) = (p : Int) := wrap_nat (by rw [← Int.natCast_mul, hp]) (by omega)
    have z1 : ¬ (zn : Int) < 1 := by omega
    have z2 : ¬ 8 < (zn : Int) := by omega
    have z3 : (zn : Int) ≠ 0 := by omega
    rw [hp] at HF hnz
    have HL : Hid (Bs w (.slice ao len cap) l) := hl
    have HAO : Hid (ao = none → cap = 0) := hn
    have HRL : Hid (∀ r, (rowN (dlN zn l) zn r).length = r * zn) := fun r => rowN_len _ _ r
    have HRM : Hid (∀ r, r ≤ n → r * zn ≤ p) := fun r hr => by
      have := Nat.mul_le_mul_right zn hr
      rw [← hp]; exact this
    have HPA : Hid (n * zn = p) := hp
    have HBY : Hid (Byt l) := hby
    clear hl hz hwl hnl hn hp hll hby
    go_enter Try.func23, Try.ntmps23
    go_wp2_with fail
    go_loopw [7, 8, 9] (fun v x i wr => ∃ r : Nat, r ≤ n ∧ i = .int .i64 r ∧ x = .int .u64 (preN (nm zn l) r) ∧ Own wr w.heap.size v (rowN (dlN zn l) zn r) ∧ Below w.heap.size w wr) (fun _ _ i _ => n - (intOf i).toNat)
    case atStart => exact ⟨0, Nat.zero_le _, rfl, rfl, Own.nil _ _, Below.refl _ _⟩
    case round =>
      obtain ⟨r, hrA, rfl, rfl, hor, hbr⟩ := hrel
      by_cases hlt : r < n
      · have HOR : Hid (Own wr w.heap.size _ (rowN (dlN zn l) zn r)) := hor
        have HBR : Hid (Below w.heap.size w wr) := hbr
        have HG1 : Hid _ := HGET.out r wr hlt hbr
        obtain ⟨q, hq1⟩ : ∃ q, r * zn = q := ⟨_, rfl⟩
        have hr5 := HRM.out r hrA
        have hr6 := HRM.out (r + 1) hlt
        rw [Nat.add_mul, Nat.one_mul] at hr6
        rw [hq1] at HG1 hr5 hr6
        have e2 : IntKind.i64.wrap ((r : Int) * (zn : Int)) = (q : Int) := wrap_nat (by rw [← Int.natCast_mul, hq1]) (by omega)
        have hwr : IntKind.u64.wrap (nm zn l r - preN (nm zn l) r) = dlN zn l r := by rw [wrap_u64, ← dl_step]
        have hub := m64_bd (nm zn l r - preN (nm zn l) r)
        rw [← dl_step] at hub
        have HPRE : Hid (preN (nm zn l) (r + 1) = nm zn l r) := rfl
        have hnb := nm_bd HBY.out h8 (z := zn) r
        have HNB : Hid (0 ≤ nm zn l r ∧ nm zn l r < M64) := hnb
        obtain ⟨LL, hLL⟩ : ∃ LL, rowN (dlN zn l) zn r = LL := ⟨_, rfl⟩
        have HT2 : Hid (LL ++ digs (dlN zn l r) zn = rowN (dlN zn l) zn (r + 1)) := by rw [Hid, rowN_succ, hLL]
        have HLN : Hid (LL.length = q) := by rw [Hid, ← hLL, HRL.out, hq1]
        rw [hLL] at HOR
        obtain ⟨x, hx⟩ : ∃ x, nm zn l r = x := ⟨_, rfl⟩
        obtain ⟨y, hy⟩ : ∃ y, preN (nm zn l) r = y := ⟨_, rfl⟩
        obtain ⟨u, hu⟩ : ∃ u, dlN zn l r = u := ⟨_, rfl⟩
        rw [hx] at HG1
        rw [hx, hy, hu] at hwr
        rw [hu] at hub HT2
        have HUB : Hid (0 ≤ u ∧ u < 18446744073709551616) := hub
        have HPR : Hid (preN (nm zn l) (r + 1) = x) := by rw [Hid, HPRE.out]; exact hx
        have HDL : Hid ((digs u zn).length = zn) := digs_length _ _
        have HCU : Hid (∀ w1, Below w.heap.size w w1 → Calls Try.prog 39 #[.int .u64 u, .int .i64 (zn : Int)] w1 fun e w' => ∃ v, e = .returned v ∧ Own w' w1.heap.size v (digs u zn) ∧ Below w1.heap.size w1 w') := fun w1 _ => cut_any zn u w1 h8 HUB.out.1 HUB.out.2
        clear hor hbr hx hu hLL hq1 HGET HPRE hub hnb
        rw [hy]
        clear hy
        go_wp2_with (first
          | (go_at_call 38; refine Calls.mono HG1.out ?_; rintro e w1 ⟨rfl, rfl⟩)
          | (go_at_call 39; refine Calls.mono (HCU.out _ HBR.out) ?_; rintro e w2 ⟨v2, rfl, ho2, hb2⟩; obtain ⟨ao2, cap2, rfl, _, _⟩ := ho2.opened; have HO2 : Hid (Own w2 _ _ (digs u zn)) := ho2; have HN2 : Hid (Below _ _ w2) := hb2; have HB2 : Hid (Below w.heap.size w w2) := HBR.out.trans (hb2.mono HBR.out.size); clear ho2 hb2)
          | (at_builtin; refine wpList_append_bytes _ rfl (.tmp 36) (.tmp 41) 28 rfl i0 Try.underlying28 hi hi0 hi1 hi2 w.heap.size _ _ LL (digs u zn) rfl rfl (HOR.out.below HN2.out) HO2.out.bs (by rw [HLN.out, HDL.out]; omega) w HB2.out HB2.out.size ?_; intro ao3 cap3 w3 ho3 hb3 _ _; rw [HT2.out] at ho3; have HO3 : Hid (Own w3 w.heap.size _ (rowN (dlN zn l) zn (r + 1))) := ho3; have HB3 : Hid (Below w.heap.size w w3) := hb3; clear ho3 hb3))
        go_roundw
        case rel => exact ⟨r + 1, by omega, by go_num, by rw [HPR.out], HO3.out, HB3.out⟩
        case measure => simp [intOf]; omega
      · obtain rfl : n = r := by omega
        obtain ⟨LL, hLL⟩ : ∃ LL, rowN (dlN zn l) zn n = LL := ⟨_, rfl⟩
        have HLN : Hid (LL.length = p) := by rw [Hid, ← hLL, HRL.out]; exact HPA.out
        have HDL : Hid ((l.drop p).length = len - p) := by rw [Hid, List.length_drop, HLL.out]
        have HPP : Hid (p + (len - p) = len) := by rw [Hid]; omega
        have HJ : Hid (LL ++ l.drop p = deL zn l) := by rw [Hid, ← hLL]; exact HF.out
        rw [hLL] at hor
        clear hLL HGET
        by_cases hlp : p < len
        · obtain ⟨b, off, rfl, _⟩ := bs_someF HL.out (by omega)
          have ne2 : (cap = p) = False := by simp; omega
          have HBS : Hid (Bs wr (.slice (some ⟨b, off + p, none⟩) (len - p) (cap - p)) (l.drop p)) := (bs_cut HL.out p hlp).below hbr
          have HBR : Hid (Below w.heap.size w _) := hbr
          have hsz := hbr.size
          have HOR : Hid (Own _ w.heap.size _ LL) := hor
          clear hor hbr
          go_wp2_with (first | (at_builtin; refine wpList_append_bytes _ rfl (.tmp 44) (.tmp 49) 28 rfl i0 Try.underlying28 hi hi0 hi1 hi2 w.heap.size _ (.slice (some ⟨b, off + p, none⟩) (len - p) (cap - p)) LL (l.drop p) rfl rfl HOR.out HBS.out (by rw [HLN.out, HDL.out]; omega) w HBR.out hsz ?_; intro ao1 cap1 w1 ho1 hb1 _ _; rw [HJ.out, HLN.out, HDL.out, HPP.out] at ho1; have HO1 : Hid (Own w1 w.heap.size _ (deL zn l)) := ho1; have HB1 : Hid (Below w.heap.size w w1) := hb1; rw [HLN.out, HDL.out, HPP.out]; clear ho1 hb1))
          go_ret2
          exact ⟨_, rfl, HO1.out, HB1.out⟩
        · obtain rfl : p = len := by omega
          have HNL : Hid (l.drop p = []) := List.drop_of_length_le (by rw [HLL.out]; omega)
          rcases Nat.eq_zero_or_pos p with h9 | h9
          · subst h9
            have HBS : Hid (Bs wr (.slice ao 0 cap) (l.drop 0)) := by rw [HNL.out]; exact bs_noneF _ _ _ HAO.out
            have HBR : Hid (Below w.heap.size w _) := hbr
            have hsz := hbr.size
            have HOR : Hid (Own _ w.heap.size _ LL) := hor
            clear hor hbr
            go_wp2_with (first | (at_builtin; refine wpList_append_bytes _ rfl (.tmp 44) (.tmp 49) 28 rfl i0 Try.underlying28 hi hi0 hi1 hi2 w.heap.size _ (.slice ao 0 cap) LL (l.drop 0) rfl rfl HOR.out HBS.out (by rw [HLN.out, HDL.out]; omega) w HBR.out hsz ?_; intro ao1 cap1 w1 ho1 hb1 _ _; rw [HJ.out, HLN.out, HDL.out, HPP.out] at ho1; have HO1 : Hid (Own w1 w.heap.size _ (deL zn l)) := ho1; have HB1 : Hid (Below w.heap.size w w1) := hb1; rw [HLN.out, HDL.out, HPP.out]; clear ho1 hb1))
            go_ret2
            exact ⟨_, rfl, HO1.out, HB1.out⟩
          · obtain ⟨b, off, rfl, _⟩ := bs_someF HL.out h9
            have h8' : (p = 0) = False := by simp; omega
            by_cases h7 : cap = p
            · obtain rfl : p = cap := h7.symm
              have HBS : Hid (Bs wr (.slice (some ⟨b, off, none⟩) 0 0) (l.drop p)) := by rw [HNL.out]; exact bs_noneF _ _ _ (fun _ => rfl)
              have HBR : Hid (Below w.heap.size w _) := hbr
              have hsz := hbr.size
              have HOR : Hid (Own _ w.heap.size _ LL) := hor
              clear hor hbr
              go_wp2_with (first | (at_builtin; refine wpList_append_bytes _ rfl (.tmp 44) (.tmp 49) 28 rfl i0 Try.underlying28 hi hi0 hi1 hi2 w.heap.size _ (.slice (some ⟨b, off, none⟩) 0 0) LL (l.drop p) rfl rfl HOR.out HBS.out (by rw [HLN.out, HDL.out]; omega) w HBR.out hsz ?_; intro ao1 cap1 w1 ho1 hb1 _ _; rw [HJ.out, HLN.out, HDL.out, HPP.out] at ho1; have HO1 : Hid (Own w1 w.heap.size _ (deL zn l)) := ho1; have HB1 : Hid (Below w.heap.size w w1) := hb1; rw [HLN.out, HDL.out, HPP.out]; clear ho1 hb1))
              go_ret2
              exact ⟨_, rfl, HO1.out, HB1.out⟩
            · have h6 : (cap = p) = False := by simp; omega
              have HBS : Hid (Bs wr (.slice (some ⟨b, off + p, none⟩) 0 (cap - p)) (l.drop p)) := by rw [HNL.out]; exact bs_noneF _ _ _ (fun h => by cases h)
              have HBR : Hid (Below w.heap.size w _) := hbr
              have hsz := hbr.size
              have HOR : Hid (Own _ w.heap.size _ LL) := hor
              clear hor hbr
              go_wp2_with (first | (at_builtin; refine wpList_append_bytes _ rfl (.tmp 44) (.tmp 49) 28 rfl i0 Try.underlying28 hi hi0 hi1 hi2 w.heap.size _ (.slice (some ⟨b, off + p, none⟩) 0 (cap - p)) LL (l.drop p) rfl rfl HOR.out HBS.out (by rw [HLN.out, HDL.out]; omega) w HBR.out hsz ?_; intro ao1 cap1 w1 ho1 hb1 _ _; rw [HJ.out, HLN.out, HDL.out, HPP.out] at ho1; have HO1 : Hid (Own w1 w.heap.size _ (deL zn l)) := ho1; have HB1 : Hid (Below w.heap.size w w1) := hb1; rw [HLN.out, HDL.out, HPP.out]; clear ho1 hb1))
              go_ret2
              exact ⟨_, rfl, HO1.out, HB1.out⟩
  · refine Calls.mono (refDe_no z v w (by omega)) ?_
    rintro e w' ⟨rfl, rfl⟩
    exact ⟨_, by rw [wE_no (by omega)], by rw [wL, if_neg (by rw [wE_no (by omega)]; simp)]; exact Own.nil _ _, Below.refl _ _⟩
set_option maxHeartbeats 8000000 in
theorem refUd_no (z : Int) (v : Value) (w : World) (hz : z < 1 ∨ 8 < z) : Calls Try.prog 28 #[.int .i64 z, v] w fun e w' => e = .returned (.tuple #[.slice none 0 0, .int .i64 2]) ∧ w' = w := by
  rcases hz with h | h
  · go_enter Try.func28, Try.ntmps28
    go_wp2_with fail
    go_ret2
    exact ⟨rfl, rfl⟩
  · have h1 : ¬ z < 1 := by omega
    go_enter Try.func28, Try.ntmps28
    go_wp2_with fail
    go_ret2
    exact ⟨rfl, rfl⟩
set_option maxHeartbeats 16000000 in
theorem refUd_any (z : Int) (v : Value) (l : List Int) (w : World) (hl : Bs w v l) (hby : Byt l) (hlb : l.length ≤ 140737488351232) :
    Calls Try.prog 28 #[.int .i64 z, v] w (RfP w (wE z) (wL z udL l)) := by
  by_cases hz : 1 ≤ z ∧ z ≤ 8
  · obtain ⟨i0, hi, hi0, hi1, hi2⟩ := info_parts Try.info5
    obtain ⟨zn, rfl⟩ : ∃ zn : Nat, z = (zn : Int) := ⟨z.toNat, by omega⟩
    have h1 : 1 ≤ zn := by omega
    have h8 : zn ≤ 8 := by omega
    have hwl : wL (zn : Int) udL l = udL zn l := by rw [wL, if_pos (wE_yes h1 h8)]; rfl
    rw [hwl, wE_yes h1 h8]
    have HF : Hid (rowN (smN zn l) zn (l.length / zn) ++ l.drop (l.length / zn * zn) = udL zn l) := rfl
    obtain ⟨ao, cap, rfl, hc, hn, _⟩ := id hl
    obtain ⟨len, hll⟩ : ∃ len, l.length = len := ⟨_, rfl⟩
    have HLL : Hid (l.length = len) := hll
    have HGET : Hid (∀ (k : Nat) (w1 : World), k < len / zn → Below w.heap.size w w1 → Calls Try.prog 38 #[.slice ao len cap, .int .i64 (k * zn : Nat), .int .i64 (zn : Int), .bool false] w1 fun e w' => e = .returned (.tuple #[.int .u64 (nm zn l k), .int .i64 0]) ∧ w' = w1) := fun k w1 hk h => by
      have := refGet_yes (.slice ao l.length cap) l (k * zn) zn false w1 (hl.below h) hlb hby h1 h8 (pl_in (num_le l zn) (by rw [hll]; exact hk))
      rwa [val_nm zn l (by rw [hll]; exact hk), hll] at this
    rw [hll] at hc hlb hl HF ⊢
    obtain ⟨n, hnl⟩ : ∃ n, len / zn = n := ⟨_, rfl⟩
    rw [hnl] at HF HGET
    have hnz : n * zn ≤ len := by rw [← hnl]; exact Nat.div_mul_le_self _ _
    have hn8 : n ≤ len := by rw [← hnl]; exact Nat.div_le_self _ _
    obtain ⟨p, hp⟩ : ∃ p, n * zn = p := ⟨_, rfl⟩
    have hql : IntKind.i64.wrap (Int.tdiv (len : Int) (zn : Int)) = (n : Int) := by rw [Int.tdiv_eq_ediv_of_nonneg (by omega), ← Int.natCast_ediv, hnl]; exact wrap_i64_in _ (by omega) (by omega)
    have hq : (len : Int) / (zn : Int) = (n : Int) := by rw [← Int.natCast_ediv, hnl]
    have e1 : IntKind.i64.wrap ((n : Int) * (zn : Int)) = (p : Int) := wrap_nat (by rw [← Int.natCast_mul, hp]) (by omega)
    have z1 : ¬ (zn : Int) < 1 := by omega
    have z2 : ¬ 8 < (zn : Int) := by omega
    have z3 : (zn : Int) ≠ 0 := by omega
    rw [hp] at HF hnz
    have HL : Hid (Bs w (.slice ao len cap) l) := hl
    have HAO : Hid (ao = none → cap = 0) := hn
    have HRL : Hid (∀ r, (rowN (smN zn l) zn r).length = r * zn) := fun r => rowN_len _ _ r
    have HRM : Hid (∀ r, r ≤ n → r * zn ≤ p) := fun r hr => by
      have := Nat.mul_le_mul_right zn hr
      rw [← hp]; exact this
    have HPA : Hid (n * zn = p) := hp
    have HBY : Hid (Byt l) := hby
    clear hl hz hwl hnl hn hp hll hby
    go_enter Try.func28, Try.ntmps28
    go_wp2_with fail
    go_loopw [7, 8, 9] (fun v x i wr => ∃ r : Nat, r ≤ n ∧ i = .int .i64 r ∧ x = .int .u64 (preN (smN zn l) r) ∧ Own wr w.heap.size v (rowN (smN zn l) zn r) ∧ Below w.heap.size w wr) (fun _ _ i _ => n - (intOf i).toNat)
    case atStart => exact ⟨0, Nat.zero_le _, rfl, rfl, Own.nil _ _, Below.refl _ _⟩
    case round =>
      obtain ⟨r, hrA, rfl, rfl, hor, hbr⟩ := hrel
      by_cases hlt : r < n
      · have HOR : Hid (Own wr w.heap.size _ (rowN (smN zn l) zn r)) := hor
        have HBR : Hid (Below w.heap.size w wr) := hbr
        have HG1 : Hid _ := HGET.out r wr hlt hbr
        obtain ⟨q, hq1⟩ : ∃ q, r * zn = q := ⟨_, rfl⟩
        have hr5 := HRM.out r hrA
        have hr6 := HRM.out (r + 1) hlt
        rw [Nat.add_mul, Nat.one_mul] at hr6
        rw [hq1] at HG1 hr5 hr6
        have e2 : IntKind.i64.wrap ((r : Int) * (zn : Int)) = (q : Int) := wrap_nat (by rw [← Int.natCast_mul, hq1]) (by omega)
        have hwr : IntKind.u64.wrap (preN (smN zn l) r + nm zn l r) = smN zn l r := by rw [wrap_u64, ← sm_step]
        have hub := m64_bd (preN (smN zn l) r + nm zn l r)
        rw [← sm_step] at hub
        have HPRE : Hid (preN (smN zn l) (r + 1) = smN zn l r) := rfl
        have hnb := nm_bd HBY.out h8 (z := zn) r
        have HNB : Hid (0 ≤ nm zn l r ∧ nm zn l r < M64) := hnb
        obtain ⟨LL, hLL⟩ : ∃ LL, rowN (smN zn l) zn r = LL := ⟨_, rfl⟩
        have HT2 : Hid (LL ++ digs (smN zn l r) zn = rowN (smN zn l) zn (r + 1)) := by rw [Hid, rowN_succ, hLL]
        have HLN : Hid (LL.length = q) := by rw [Hid, ← hLL, HRL.out, hq1]
        rw [hLL] at HOR
        obtain ⟨x, hx⟩ : ∃ x, nm zn l r = x := ⟨_, rfl⟩
        obtain ⟨y, hy⟩ : ∃ y, preN (smN zn l) r = y := ⟨_, rfl⟩
        obtain ⟨u, hu⟩ : ∃ u, smN zn l r = u := ⟨_, rfl⟩
        rw [hx] at HG1
        rw [hx, hy, hu] at hwr
        rw [hu] at hub HT2
        have HUB : Hid (0 ≤ u ∧ u < 18446744073709551616) := hub
        have HPR : Hid (preN (smN zn l) (r + 1) = u) := by rw [Hid, HPRE.out]; exact hu
        have HDL : Hid ((digs u zn).length = zn) := digs_length _ _
        have HCU : Hid (∀ w1, Below w.heap.size w w1 → Calls Try.prog 39 #[.int .u64 u, .int .i64 (zn : Int)] w1 fun e w' => ∃ v, e = .returned v ∧ Own w' w1.heap.size v (digs u zn) ∧ Below w1.heap.size w1 w') := fun w1 _ => cut_any zn u w1 h8 HUB.out.1 HUB.out.2
        clear hor hbr hx hu hLL hq1 HGET HPRE hub hnb
        rw [hy]
        clear hy
        go_wp2_with (first
          | (go_at_call 38; refine Calls.mono HG1.out ?_; rintro e w1 ⟨rfl, rfl⟩)
          | (go_at_call 39; refine Calls.mono (HCU.out _ HBR.out) ?_; rintro e w2 ⟨v2, rfl, ho2, hb2⟩; obtain ⟨ao2, cap2, rfl, _, _⟩ := ho2.opened; have HO2 : Hid (Own w2 _ _ (digs u zn)) := ho2; have HN2 : Hid (Below _ _ w2) := hb2; have HB2 : Hid (Below w.heap.size w w2) := HBR.out.trans (hb2.mono HBR.out.size); clear ho2 hb2)
          | (at_builtin; refine wpList_append_bytes _ rfl (.tmp 39) (.tmp 42) 28 rfl i0 Try.underlying28 hi hi0 hi1 hi2 w.heap.size _ _ LL (digs u zn) rfl rfl (HOR.out.below HN2.out) HO2.out.bs (by rw [HLN.out, HDL.out]; omega) w HB2.out HB2.out.size ?_; intro ao3 cap3 w3 ho3 hb3 _ _; rw [HT2.out] at ho3; have HO3 : Hid (Own w3 w.heap.size _ (rowN (smN zn l) zn (r + 1))) := ho3; have HB3 : Hid (Below w.heap.size w w3) := hb3; clear ho3 hb3))
        go_roundw
        case rel => exact ⟨r + 1, by omega, by go_num, by rw [HPR.out], HO3.out, HB3.out⟩
        case measure => simp [intOf]; omega
      · obtain rfl : n = r := by omega
        obtain ⟨LL, hLL⟩ : ∃ LL, rowN (smN zn l) zn n = LL := ⟨_, rfl⟩
        have HLN : Hid (LL.length = p) := by rw [Hid, ← hLL, HRL.out]; exact HPA.out
        have HDL : Hid ((l.drop p).length = len - p) := by rw [Hid, List.length_drop, HLL.out]
        have HPP : Hid (p + (len - p) = len) := by rw [Hid]; omega
        have HJ : Hid (LL ++ l.drop p = udL zn l) := by rw [Hid, ← hLL]; exact HF.out
        rw [hLL] at hor
        clear hLL HGET
        by_cases hlp : p < len
        · obtain ⟨b, off, rfl, _⟩ := bs_someF HL.out (by omega)
          have ne2 : (cap = p) = False := by simp; omega
          have HBS : Hid (Bs wr (.slice (some ⟨b, off + p, none⟩) (len - p) (cap - p)) (l.drop p)) := (bs_cut HL.out p hlp).below hbr
          have HBR : Hid (Below w.heap.size w _) := hbr
          have hsz := hbr.size
          have HOR : Hid (Own _ w.heap.size _ LL) := hor
          clear hor hbr
          go_wp2_with (first | (at_builtin; refine wpList_append_bytes _ rfl (.tmp 44) (.tmp 49) 28 rfl i0 Try.underlying28 hi hi0 hi1 hi2 w.heap.size _ (.slice (some ⟨b, off + p, none⟩) (len - p) (cap - p)) LL (l.drop p) rfl rfl HOR.out HBS.out (by rw [HLN.out, HDL.out]; omega) w HBR.out hsz ?_; intro ao1 cap1 w1 ho1 hb1 _ _; rw [HJ.out, HLN.out, HDL.out, HPP.out] at ho1; have HO1 : Hid (Own w1 w.heap.size _ (udL zn l)) := ho1; have HB1 : Hid (Below w.heap.size w w1) := hb1; rw [HLN.out, HDL.out, HPP.out]; clear ho1 hb1))
          go_ret2
          exact ⟨_, rfl, HO1.out, HB1.out⟩
        · obtain rfl : p = len := by omega
          have HNL : Hid (l.drop p = []) := List.drop_of_length_le (by rw [HLL.out]; omega)
          rcases Nat.eq_zero_or_pos p with h9 | h9
          · subst h9
            have HBS : Hid (Bs wr (.slice ao 0 cap) (l.drop 0)) := by rw [HNL.out]; exact bs_noneF _ _ _ HAO.out
            have HBR : Hid (Below w.heap.size w _) := hbr
            have hsz := hbr.size
            have HOR : Hid (Own _ w.heap.size _ LL) := hor
            clear hor hbr
            go_wp2_with (first | (at_builtin; refine wpList_append_bytes _ rfl (.tmp 44) (.tmp 49) 28 rfl i0 Try.underlying28 hi hi0 hi1 hi2 w.heap.size _ (.slice ao 0 cap) LL (l.drop 0) rfl rfl HOR.out HBS.out (by rw [HLN.out, HDL.out]; omega) w HBR.out hsz ?_; intro ao1 cap1 w1 ho1 hb1 _ _; rw [HJ.out, HLN.out, HDL.out, HPP.out] at ho1; have HO1 : Hid (Own w1 w.heap.size _ (udL zn l)) := ho1; have HB1 : Hid (Below w.heap.size w w1) := hb1; rw [HLN.out, HDL.out, HPP.out]; clear ho1 hb1))
            go_ret2
            exact ⟨_, rfl, HO1.out, HB1.out⟩
          · obtain ⟨b, off, rfl, _⟩ := bs_someF HL.out h9
            have h8' : (p = 0) = False := by simp; omega
            by_cases h7 : cap = p
            · obtain rfl : p = cap := h7.symm
              have HBS : Hid (Bs wr (.slice (some ⟨b, off, none⟩) 0 0) (l.drop p)) := by rw [HNL.out]; exact bs_noneF _ _ _ (fun _ => rfl)
              have HBR : Hid (Below w.heap.size w _) := hbr
              have hsz := hbr.size
              have HOR : Hid (Own _ w.heap.size _ LL) := hor
              clear hor hbr
              go_wp2_with (first | (at_builtin; refine wpList_append_bytes _ rfl (.tmp 44) (.tmp 49) 28 rfl i0 Try.underlying28 hi hi0 hi1 hi2 w.heap.size _ (.slice (some ⟨b, off, none⟩) 0 0) LL (l.drop p) rfl rfl HOR.out HBS.out (by rw [HLN.out, HDL.out]; omega) w HBR.out hsz ?_; intro ao1 cap1 w1 ho1 hb1 _ _; rw [HJ.out, HLN.out, HDL.out, HPP.out] at ho1; have HO1 : Hid (Own w1 w.heap.size _ (udL zn l)) := ho1; have HB1 : Hid (Below w.heap.size w w1) := hb1; rw [HLN.out, HDL.out, HPP.out]; clear ho1 hb1))
              go_ret2
              exact ⟨_, rfl, HO1.out, HB1.out⟩
            · have h6 : (cap = p) = False := by simp; omega
              have HBS : Hid (Bs wr (.slice (some ⟨b, off + p, none⟩) 0 (cap - p)) (l.drop p)) := by rw [HNL.out]; exact bs_noneF _ _ _ (fun h => by cases h)
              have HBR : Hid (Below w.heap.size w _) := hbr
              have hsz := hbr.size
              have HOR : Hid (Own _ w.heap.size _ LL) := hor
              clear hor hbr
              go_wp2_with (first | (at_builtin; refine wpList_append_bytes _ rfl (.tmp 44) (.tmp 49) 28 rfl i0 Try.underlying28 hi hi0 hi1 hi2 w.heap.size _ (.slice (some ⟨b, off + p, none⟩) 0 (cap - p)) LL (l.drop p) rfl rfl HOR.out HBS.out (by rw [HLN.out, HDL.out]; omega) w HBR.out hsz ?_; intro ao1 cap1 w1 ho1 hb1 _ _; rw [HJ.out, HLN.out, HDL.out, HPP.out] at ho1; have HO1 : Hid (Own w1 w.heap.size _ (udL zn l)) := ho1; have HB1 : Hid (Below w.heap.size w w1) := hb1; rw [HLN.out, HDL.out, HPP.out]; clear ho1 hb1))
              go_ret2
              exact ⟨_, rfl, HO1.out, HB1.out⟩
  · refine Calls.mono (refUd_no z v w (by omega)) ?_
    rintro e w' ⟨rfl, rfl⟩
    exact ⟨_, by rw [wE_no (by omega)], by rw [wL, if_neg (by rw [wE_no (by omega)]; simp)]; exact Own.nil _ _, Below.refl _ _⟩
end Go.Proofs.Ytgodoogmbdgeoaa

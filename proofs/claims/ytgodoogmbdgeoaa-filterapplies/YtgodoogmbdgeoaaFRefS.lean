/-
  The document's Shuffle and Unshuffle. Conditions: lengths are such as memory bears.
-/
import Derived.Test.YtgodoogmbdgeoaaFTop
namespace Go.Proofs.Ytgodoogmbdgeoaa
open Go.RowKit Go.Shelf
set_option linter.unusedVariables false
set_option maxRecDepth 100000

def RfP (w : World) (er : Int) (R : List Int) (e : Ending) (w' : World) : Prop := ∃ x, e = .returned (.tuple #[x, .int .i64 er]) ∧ Own w' w.heap.size x R ∧ Below w.heap.size w w'
theorem rk_take {z n k i : Nat} {l : List Int} (h : i < n) : (rk z n k l).take (i + 1) = (rk z n k l).take i ++ [l.getD (i * z + k) 0] := by
  rw [List.take_add_one]
  congr 1
  simp [rk, h]
set_option maxHeartbeats 8000000 in
theorem refSh_no (z : Int) (v : Value) (w : World) (hz : z < 1 ∨ 8 < z) : Calls Try.prog 22 #[.int .i64 z, v] w fun e w' => e = .returned (.tuple #[.slice none 0 0, .int .i64 2]) ∧ w' = w := by
  rcases hz with h | h
  · go_enter Try.func22, Try.ntmps22
    go_wp2_with fail
    go_ret2
    exact ⟨rfl, rfl⟩
  · have h1 : ¬ z < 1 := by omega
    go_enter Try.func22, Try.ntmps22
    go_wp2_with fail
    go_ret2
    exact ⟨rfl, rfl⟩
set_option maxHeartbeats 16000000 in
theorem refSh_any (z : Int) (v : Value) (l : List Int) (w : World) (hl : Bs w v l) (hlb : l.length ≤ 140737488351232) :
    Calls Try.prog 22 #[.int .i64 z, v] w (RfP w (wE z) (wL z shL l)) := by
  by_cases hz : 1 ≤ z ∧ z ≤ 8
  · obtain ⟨i0, hi, hi0, hi1, hi2⟩ := info_parts Try.info5
    obtain ⟨zn, rfl⟩ : ∃ zn : Nat, z = (zn : Int) := ⟨z.toNat, by omega⟩
    have h1 : 1 ≤ zn := by omega
    have h8 : zn ≤ 8 := by omega
    have hwl : wL (zn : Int) shL l = shL zn l := by rw [wL, if_pos (wE_yes h1 h8)]; rfl
    rw [hwl, wE_yes h1 h8]
    have HF : Hid (rks zn (l.length / zn) zn l ++ l.drop (l.length / zn * zn) = shL zn l) := sh_ref zn l h1
    obtain ⟨ao, cap, rfl, hc, hn, _⟩ := id hl
    obtain ⟨len, hll⟩ : ∃ len, l.length = len := ⟨_, rfl⟩
    have HLL : Hid (l.length = len) := hll
    rw [hll] at hc hlb hl HF ⊢
    obtain ⟨n, hnl⟩ : ∃ n, len / zn = n := ⟨_, rfl⟩
    rw [hnl] at HF
    have hnz : n * zn ≤ len := by rw [← hnl]; exact Nat.div_mul_le_self _ _
    have hn8 : n ≤ len := by rw [← hnl]; exact Nat.div_le_self _ _
    obtain ⟨p, hp⟩ : ∃ p, n * zn = p := ⟨_, rfl⟩
    have HPL : Hid (∀ i r, i < n → r < zn → i * zn + r < len) := fun i r hi hr => by
      have := mix_lt hi hr
      omega
    have hql : IntKind.i64.wrap (Int.tdiv (len : Int) (zn : Int)) = (n : Int) := by rw [Int.tdiv_eq_ediv_of_nonneg (by omega), ← Int.natCast_ediv, hnl]; exact wrap_i64_in _ (by omega) (by omega)
    have hq : (len : Int) / (zn : Int) = (n : Int) := by rw [← Int.natCast_ediv, hnl]
    have e1 : IntKind.i64.wrap ((n : Int) * (zn : Int)) = (p : Int) := wrap_nat (by rw [← Int.natCast_mul, hp]) (by omega)
    have z1 : ¬ (zn : Int) < 1 := by omega
    have z2 : ¬ 8 < (zn : Int) := by omega
    have z3 : (zn : Int) ≠ 0 := by omega
    rw [hp] at HF hnz
    have HL : Hid (Bs w (.slice ao len cap) l) := hl
    have HAO : Hid (ao = none → cap = 0) := hn
    have HRL : Hid (∀ r, (rks zn n r l).length = r * n) := fun r => rks_len _ _ _ r
    have HRM : Hid (∀ r, r ≤ zn → r * n ≤ p) := fun r hr => by
      have := Nat.mul_le_mul_right n hr
      rw [← hp]; rw [Nat.mul_comm n zn]; exact this
    have hA : zn ≤ 140737488351232 := by omega
    have hC : n ≤ 140737488351232 := by omega
    have HPA : Hid (zn * n = p) := by rw [Hid, ← hp]; exact Nat.mul_comm _ _
    clear hl hz hwl hnl hn hp hll
    go_enter Try.func22, Try.ntmps22
    go_wp2_with fail
    go_loopw [7, 8] (fun v i wr => ∃ r : Nat, r ≤ zn ∧ i = .int .i64 r ∧ Own wr w.heap.size v (rks zn n r l) ∧ Below w.heap.size w wr) (fun _ i _ => zn - (intOf i).toNat)
    case atStart => exact ⟨0, Nat.zero_le _, rfl, Own.nil _ _, Below.refl _ _⟩
    case round =>
      obtain ⟨r, hrA, rfl, hor, hbr⟩ := hrel
      by_cases hlt : r < zn
      · have HOR : Hid (Own wr w.heap.size _ (rks zn n r l)) := hor
        have HBR : Hid (Below w.heap.size w wr) := hbr
        clear hor hbr
        go_wp2_with fail
        go_loopw [7, 9] (fun v i wi => ∃ i' : Nat, i' ≤ n ∧ i = .int .i64 i' ∧ Own wi w.heap.size v (rks zn n r l ++ (rk zn n r l).take i') ∧ Below w.heap.size w wi) (fun _ i _ => n - (intOf i).toNat)
        case atStart => exact ⟨0, Nat.zero_le _, rfl, by rw [List.take_zero, List.append_nil]; exact HOR.out, HBR.out⟩
        case round =>
          obtain ⟨i, hiC, rfl, hoi, hbi⟩ := hrel
          by_cases hlt2 : i < n
          · have hin := HPL.out i r hlt2 hlt
            obtain ⟨b, off, rfl, hcc⟩ := bs_someF HL.out (by omega)
            have hc1 := bel_cellF hbi (hcc _ hin)
            obtain ⟨q, hq1⟩ : ∃ q, i * zn = q := ⟨_, rfl⟩
            have e2 : IntKind.i64.wrap ((i : Int) * (zn : Int)) = (q : Int) := wrap_nat (by rw [← Int.natCast_mul, hq1]) (by omega)
            have HT : Hid ((rk zn n r l).take (i + 1) = (rk zn n r l).take i ++ [l.getD (i * zn + r) 0]) := rk_take hlt2
            rw [hq1] at hin hc1 HT
            obtain ⟨x, hx⟩ : ∃ x, l.getD (q + r) 0 = x := ⟨_, rfl⟩
            rw [hx] at hc1 HT
            have HOI : Hid (Own _ w.heap.size _ (rks zn n r l ++ (rk zn n r l).take i)) := hoi
            have HLN : Hid ((rks zn n r l ++ (rk zn n r l).take i).length + 1 ≤ p) := by
              have h5 := HRM.out (r + 1) hlt
              rw [Nat.add_mul, Nat.one_mul] at h5
              rw [Hid, List.length_append, HRL.out, List.length_take, rk_len]
              omega
            have HBI : Hid (Below w.heap.size w _) := hbi
            have hsz := hbi.size
            clear hx hq1 hoi hcc hbi
            obtain ⟨LL, hLL⟩ : ∃ LL, rks zn n r l ++ (rk zn n r l).take i = LL := ⟨_, rfl⟩
            have HT2 : Hid (LL ++ [x] = rks zn n r l ++ (rk zn n r l).take (i + 1)) := by rw [Hid, HT.out, ← hLL, List.append_assoc]
            rw [hLL] at HOI HLN
            clear hLL HT
            go_wp2_with (first | (at_builtin; refine wpList_append_bytes _ rfl (.tmp 30) (.tmp 39) 28 rfl i0 Try.underlying28 hi hi0 hi1 hi2 w.heap.size _ _ LL [x] rfl rfl (HOI.out.alloc _) (Bs.one _ _) (by have := HLN.out; simp only [List.length_cons, List.length_nil]; omega) w (HBI.out.alloc hsz _) (by simp; omega) ?_; intro ao1 cap1 w1 ho1 hb1 _ _; rw [HT2.out] at ho1; simp only [List.length_cons, List.length_nil, Nat.zero_add] at ho1; have HO1 : Hid (Own w1 w.heap.size _ (rks zn n r l ++ (rk zn n r l).take (i + 1))) := ho1; have HB1 : Hid (Below w.heap.size w w1) := hb1; clear ho1 hb1))
            go_roundw
            case rel => exact ⟨i + 1, by omega, by go_num, HO1.out, HB1.out⟩
            case measure => simp [intOf]; omega
          · obtain rfl : n = i := by omega
            rw [List.take_of_length_le (by rw [rk_len]; omega), ← rks_succ] at hoi
            have HOI : Hid (Own _ w.heap.size _ (rks zn n (r + 1) l)) := hoi
            have HBI : Hid (Below w.heap.size w _) := hbi
            clear hoi hbi
            go_wp2_with fail
            go_roundw
            case rel => exact ⟨r + 1, by omega, by go_num, HOI.out, HBI.out⟩
            case measure => simp [intOf]; omega
      · obtain rfl : zn = r := by omega
        obtain ⟨LL, hLL⟩ : ∃ LL, rks zn n zn l = LL := ⟨_, rfl⟩
        have HLN : Hid (LL.length = p) := by rw [Hid, ← hLL, HRL.out]; exact HPA.out
        have HDL : Hid ((l.drop p).length = len - p) := by rw [Hid, List.length_drop, HLL.out]
        have HPP : Hid (p + (len - p) = len) := by rw [Hid]; omega
        have HJ : Hid (LL ++ l.drop p = shL zn l) := by rw [Hid, ← hLL]; exact HF.out
        rw [hLL] at hor
        clear hLL
        by_cases hlp : p < len
        · obtain ⟨b, off, rfl, _⟩ := bs_someF HL.out (by omega)
          have ne2 : (cap = p) = False := by simp; omega
          have HBS : Hid (Bs wr (.slice (some ⟨b, off + p, none⟩) (len - p) (cap - p)) (l.drop p)) := (bs_cut HL.out p hlp).below hbr
          have HBR : Hid (Below w.heap.size w _) := hbr
          have hsz := hbr.size
          have HOR : Hid (Own _ w.heap.size _ LL) := hor
          clear hor hbr
          go_wp2_with (first | (at_builtin; refine wpList_append_bytes _ rfl (.tmp 41) (.tmp 46) 28 rfl i0 Try.underlying28 hi hi0 hi1 hi2 w.heap.size _ (.slice (some ⟨b, off + p, none⟩) (len - p) (cap - p)) LL (l.drop p) rfl rfl HOR.out HBS.out (by rw [HLN.out, HDL.out]; omega) w HBR.out hsz ?_; intro ao1 cap1 w1 ho1 hb1 _ _; rw [HJ.out, HLN.out, HDL.out, HPP.out] at ho1; have HO1 : Hid (Own w1 w.heap.size _ (shL zn l)) := ho1; have HB1 : Hid (Below w.heap.size w w1) := hb1; rw [HLN.out, HDL.out, HPP.out]; clear ho1 hb1))
          go_ret2
          exact ⟨_, rfl, HO1.out, HB1.out⟩
        · obtain rfl : p = len := by omega
          have HNL : Hid (l.drop p = []) := List.drop_of_length_le (by rw [HLL.out]; omega)
          rcases Nat.eq_zero_or_pos p with h9 | h9
          · subst h9
            have HBS : Hid (Bs wr (.slice ao 0 cap) (l.drop 0)) := by rw [HNL.out]; exact bs_noneF _ _ _ HAO.out
            have HBR : Hid (Below w.heap.size w _) := hbr
            have hsz := hbr.size
            have HOR : Hid (Own _ w.heap.size _ LL) := hor
            clear hor hbr
            go_wp2_with (first | (at_builtin; refine wpList_append_bytes _ rfl (.tmp 41) (.tmp 46) 28 rfl i0 Try.underlying28 hi hi0 hi1 hi2 w.heap.size _ (.slice ao 0 cap) LL (l.drop 0) rfl rfl HOR.out HBS.out (by rw [HLN.out, HDL.out]; omega) w HBR.out hsz ?_; intro ao1 cap1 w1 ho1 hb1 _ _; rw [HJ.out, HLN.out, HDL.out, HPP.out] at ho1; have HO1 : Hid (Own w1 w.heap.size _ (shL zn l)) := ho1; have HB1 : Hid (Below w.heap.size w w1) := hb1; rw [HLN.out, HDL.out, HPP.out]; clear ho1 hb1))
            go_ret2
            exact ⟨_, rfl, HO1.out, HB1.out⟩
          · obtain ⟨b, off, rfl, _⟩ := bs_someF HL.out h9
            have h8' : (p = 0) = False := by simp; omega
            by_cases h7 : cap = p
            · obtain rfl : p = cap := h7.symm
              have HBS : Hid (Bs wr (.slice (some ⟨b, off, none⟩) 0 0) (l.drop p)) := by rw [HNL.out]; exact bs_noneF _ _ _ (fun _ => rfl)
              have HBR : Hid (Below w.heap.size w _) := hbr
              have hsz := hbr.size
              have HOR : Hid (Own _ w.heap.size _ LL) := hor
              clear hor hbr
              go_wp2_with (first | (at_builtin; refine wpList_append_bytes _ rfl (.tmp 41) (.tmp 46) 28 rfl i0 Try.underlying28 hi hi0 hi1 hi2 w.heap.size _ (.slice (some ⟨b, off, none⟩) 0 0) LL (l.drop p) rfl rfl HOR.out HBS.out (by rw [HLN.out, HDL.out]; omega) w HBR.out hsz ?_; intro ao1 cap1 w1 ho1 hb1 _ _; rw [HJ.out, HLN.out, HDL.out, HPP.out] at ho1; have HO1 : Hid (Own w1 w.heap.size _ (shL zn l)) := ho1; have HB1 : Hid (Below w.heap.size w w1) := hb1; rw [HLN.out, HDL.out, HPP.out]; clear ho1 hb1))
              go_ret2
              exact ⟨_, rfl, HO1.out, HB1.out⟩
            · have h6 : (cap = p) = False := by simp; omega
              have HBS : Hid (Bs wr (.slice (some ⟨b, off + p, none⟩) 0 (cap - p)) (l.drop p)) := by rw [HNL.out]; exact bs_noneF _ _ _ (fun h => by cases h)
              have HBR : Hid (Below w.heap.size w _) := hbr
              have hsz := hbr.size
              have HOR : Hid (Own _ w.heap.size _ LL) := hor
              clear hor hbr
              go_wp2_with (first | (at_builtin; refine wpList_append_bytes _ rfl (.tmp 41) (.tmp 46) 28 rfl i0 Try.underlying28 hi hi0 hi1 hi2 w.heap.size _ (.slice (some ⟨b, off + p, none⟩) 0 (cap - p)) LL (l.drop p) rfl rfl HOR.out HBS.out (by rw [HLN.out, HDL.out]; omega) w HBR.out hsz ?_; intro ao1 cap1 w1 ho1 hb1 _ _; rw [HJ.out, HLN.out, HDL.out, HPP.out] at ho1; have HO1 : Hid (Own w1 w.heap.size _ (shL zn l)) := ho1; have HB1 : Hid (Below w.heap.size w w1) := hb1; rw [HLN.out, HDL.out, HPP.out]; clear ho1 hb1))
              go_ret2
              exact ⟨_, rfl, HO1.out, HB1.out⟩
  · refine Calls.mono (refSh_no z v w (by omega)) ?_
    rintro e w' ⟨rfl, rfl⟩
    exact ⟨_, by rw [wE_no (by omega)], by rw [wL, if_neg (by rw [wE_no (by omega)]; simp)]; exact Own.nil _ _, Below.refl _ _⟩
set_option maxHeartbeats 8000000 in
theorem refUn_no (z : Int) (v : Value) (w : World) (hz : z < 1 ∨ 8 < z) : Calls Try.prog 27 #[.int .i64 z, v] w fun e w' => e = .returned (.tuple #[.slice none 0 0, .int .i64 2]) ∧ w' = w := by
  rcases hz with h | h
  · go_enter Try.func27, Try.ntmps27
    go_wp2_with fail
    go_ret2
    exact ⟨rfl, rfl⟩
  · have h1 : ¬ z < 1 := by omega
    go_enter Try.func27, Try.ntmps27
    go_wp2_with fail
    go_ret2
    exact ⟨rfl, rfl⟩
set_option maxHeartbeats 16000000 in
theorem refUn_any (z : Int) (v : Value) (l : List Int) (w : World) (hl : Bs w v l) (hlb : l.length ≤ 140737488351232) :
    Calls Try.prog 27 #[.int .i64 z, v] w (RfP w (wE z) (wL z unL l)) := by
  by_cases hz : 1 ≤ z ∧ z ≤ 8
  · obtain ⟨i0, hi, hi0, hi1, hi2⟩ := info_parts Try.info5
    obtain ⟨zn, rfl⟩ : ∃ zn : Nat, z = (zn : Int) := ⟨z.toNat, by omega⟩
    have h1 : 1 ≤ zn := by omega
    have h8 : zn ≤ 8 := by omega
    have hwl : wL (zn : Int) unL l = unL zn l := by rw [wL, if_pos (wE_yes h1 h8)]; rfl
    rw [hwl, wE_yes h1 h8]
    have HF : Hid (rks (l.length / zn) zn (l.length / zn) l ++ l.drop (l.length / zn * zn) = unL zn l) := un_ref zn l h1
    obtain ⟨ao, cap, rfl, hc, hn, _⟩ := id hl
    obtain ⟨len, hll⟩ : ∃ len, l.length = len := ⟨_, rfl⟩
    have HLL : Hid (l.length = len) := hll
    rw [hll] at hc hlb hl HF ⊢
    obtain ⟨n, hnl⟩ : ∃ n, len / zn = n := ⟨_, rfl⟩
    rw [hnl] at HF
    have hnz : n * zn ≤ len := by rw [← hnl]; exact Nat.div_mul_le_self _ _
    have hn8 : n ≤ len := by rw [← hnl]; exact Nat.div_le_self _ _
    obtain ⟨p, hp⟩ : ∃ p, n * zn = p := ⟨_, rfl⟩
    have HPL : Hid (∀ i r, i < zn → r < n → i * n + r < len) := fun i r hi hr => by
      have := mix_lt hi hr
      rw [Nat.mul_comm zn n] at this; omega
    have hql : IntKind.i64.wrap (Int.tdiv (len : Int) (zn : Int)) = (n : Int) := by rw [Int.tdiv_eq_ediv_of_nonneg (by omega), ← Int.natCast_ediv, hnl]; exact wrap_i64_in _ (by omega) (by omega)
    have hq : (len : Int) / (zn : Int) = (n : Int) := by rw [← Int.natCast_ediv, hnl]
    have e1 : IntKind.i64.wrap ((n : Int) * (zn : Int)) = (p : Int) := wrap_nat (by rw [← Int.natCast_mul, hp]) (by omega)
    have z1 : ¬ (zn : Int) < 1 := by omega
    have z2 : ¬ 8 < (zn : Int) := by omega
    have z3 : (zn : Int) ≠ 0 := by omega
    rw [hp] at HF hnz
    have HL : Hid (Bs w (.slice ao len cap) l) := hl
    have HAO : Hid (ao = none → cap = 0) := hn
    have HRL : Hid (∀ r, (rks n zn r l).length = r * zn) := fun r => rks_len _ _ _ r
    have HRM : Hid (∀ r, r ≤ n → r * zn ≤ p) := fun r hr => by
      have := Nat.mul_le_mul_right zn hr
      rw [← hp]; exact this
    have hA : n ≤ 140737488351232 := by omega
    have hC : zn ≤ 140737488351232 := by omega
    have HPA : Hid (n * zn = p) := by rw [Hid, ← hp]
    clear hl hz hwl hnl hn hp hll
    go_enter Try.func27, Try.ntmps27
    go_wp2_with fail
    go_loopw [7, 8] (fun v i wr => ∃ r : Nat, r ≤ n ∧ i = .int .i64 r ∧ Own wr w.heap.size v (rks n zn r l) ∧ Below w.heap.size w wr) (fun _ i _ => n - (intOf i).toNat)
    case atStart => exact ⟨0, Nat.zero_le _, rfl, Own.nil _ _, Below.refl _ _⟩
    case round =>
      obtain ⟨r, hrA, rfl, hor, hbr⟩ := hrel
      by_cases hlt : r < n
      · have HOR : Hid (Own wr w.heap.size _ (rks n zn r l)) := hor
        have HBR : Hid (Below w.heap.size w wr) := hbr
        clear hor hbr
        go_wp2_with fail
        go_loopw [7, 9] (fun v i wi => ∃ i' : Nat, i' ≤ zn ∧ i = .int .i64 i' ∧ Own wi w.heap.size v (rks n zn r l ++ (rk n zn r l).take i') ∧ Below w.heap.size w wi) (fun _ i _ => zn - (intOf i).toNat)
        case atStart => exact ⟨0, Nat.zero_le _, rfl, by rw [List.take_zero, List.append_nil]; exact HOR.out, HBR.out⟩
        case round =>
          obtain ⟨i, hiC, rfl, hoi, hbi⟩ := hrel
          by_cases hlt2 : i < zn
          · have hin := HPL.out i r hlt2 hlt
            obtain ⟨b, off, rfl, hcc⟩ := bs_someF HL.out (by omega)
            have hc1 := bel_cellF hbi (hcc _ hin)
            obtain ⟨q, hq1⟩ : ∃ q, i * n = q := ⟨_, rfl⟩
            have e2 : IntKind.i64.wrap ((i : Int) * (n : Int)) = (q : Int) := wrap_nat (by rw [← Int.natCast_mul, hq1]) (by omega)
            have HT : Hid ((rk n zn r l).take (i + 1) = (rk n zn r l).take i ++ [l.getD (i * n + r) 0]) := rk_take hlt2
            rw [hq1] at hin hc1 HT
            obtain ⟨x, hx⟩ : ∃ x, l.getD (q + r) 0 = x := ⟨_, rfl⟩
            rw [hx] at hc1 HT
            have HOI : Hid (Own _ w.heap.size _ (rks n zn r l ++ (rk n zn r l).take i)) := hoi
            have HLN : Hid ((rks n zn r l ++ (rk n zn r l).take i).length + 1 ≤ p) := by
              have h5 := HRM.out (r + 1) hlt
              rw [Nat.add_mul, Nat.one_mul] at h5
              rw [Hid, List.length_append, HRL.out, List.length_take, rk_len]
              omega
            have HBI : Hid (Below w.heap.size w _) := hbi
            have hsz := hbi.size
            clear hx hq1 hoi hcc hbi
            obtain ⟨LL, hLL⟩ : ∃ LL, rks n zn r l ++ (rk n zn r l).take i = LL := ⟨_, rfl⟩
            have HT2 : Hid (LL ++ [x] = rks n zn r l ++ (rk n zn r l).take (i + 1)) := by rw [Hid, HT.out, ← hLL, List.append_assoc]
            rw [hLL] at HOI HLN
            clear hLL HT
            go_wp2_with (first | (at_builtin; refine wpList_append_bytes _ rfl (.tmp 30) (.tmp 39) 28 rfl i0 Try.underlying28 hi hi0 hi1 hi2 w.heap.size _ _ LL [x] rfl rfl (HOI.out.alloc _) (Bs.one _ _) (by have := HLN.out; simp only [List.length_cons, List.length_nil]; omega) w (HBI.out.alloc hsz _) (by simp; omega) ?_; intro ao1 cap1 w1 ho1 hb1 _ _; rw [HT2.out] at ho1; simp only [List.length_cons, List.length_nil, Nat.zero_add] at ho1; have HO1 : Hid (Own w1 w.heap.size _ (rks n zn r l ++ (rk n zn r l).take (i + 1))) := ho1; have HB1 : Hid (Below w.heap.size w w1) := hb1; clear ho1 hb1))
            go_roundw
            case rel => exact ⟨i + 1, by omega, by go_num, HO1.out, HB1.out⟩
            case measure => simp [intOf]; omega
          · obtain rfl : zn = i := by omega
            rw [List.take_of_length_le (by rw [rk_len]; omega), ← rks_succ] at hoi
            have HOI : Hid (Own _ w.heap.size _ (rks n zn (r + 1) l)) := hoi
            have HBI : Hid (Below w.heap.size w _) := hbi
            clear hoi hbi
            go_wp2_with fail
            go_roundw
            case rel => exact ⟨r + 1, by omega, by go_num, HOI.out, HBI.out⟩
            case measure => simp [intOf]; omega
      · obtain rfl : n = r := by omega
        obtain ⟨LL, hLL⟩ : ∃ LL, rks n zn n l = LL := ⟨_, rfl⟩
        have HLN : Hid (LL.length = p) := by rw [Hid, ← hLL, HRL.out]; exact HPA.out
        have HDL : Hid ((l.drop p).length = len - p) := by rw [Hid, List.length_drop, HLL.out]
        have HPP : Hid (p + (len - p) = len) := by rw [Hid]; omega
        have HJ : Hid (LL ++ l.drop p = unL zn l) := by rw [Hid, ← hLL]; exact HF.out
        rw [hLL] at hor
        clear hLL
        by_cases hlp : p < len
        · obtain ⟨b, off, rfl, _⟩ := bs_someF HL.out (by omega)
          have ne2 : (cap = p) = False := by simp; omega
          have HBS : Hid (Bs wr (.slice (some ⟨b, off + p, none⟩) (len - p) (cap - p)) (l.drop p)) := (bs_cut HL.out p hlp).below hbr
          have HBR : Hid (Below w.heap.size w _) := hbr
          have hsz := hbr.size
          have HOR : Hid (Own _ w.heap.size _ LL) := hor
          clear hor hbr
          go_wp2_with (first | (at_builtin; refine wpList_append_bytes _ rfl (.tmp 41) (.tmp 46) 28 rfl i0 Try.underlying28 hi hi0 hi1 hi2 w.heap.size _ (.slice (some ⟨b, off + p, none⟩) (len - p) (cap - p)) LL (l.drop p) rfl rfl HOR.out HBS.out (by rw [HLN.out, HDL.out]; omega) w HBR.out hsz ?_; intro ao1 cap1 w1 ho1 hb1 _ _; rw [HJ.out, HLN.out, HDL.out, HPP.out] at ho1; have HO1 : Hid (Own w1 w.heap.size _ (unL zn l)) := ho1; have HB1 : Hid (Below w.heap.size w w1) := hb1; rw [HLN.out, HDL.out, HPP.out]; clear ho1 hb1))
          go_ret2
          exact ⟨_, rfl, HO1.out, HB1.out⟩
        · obtain rfl : p = len := by omega
          have HNL : Hid (l.drop p = []) := List.drop_of_length_le (by rw [HLL.out]; omega)
          rcases Nat.eq_zero_or_pos p with h9 | h9
          · subst h9
            have HBS : Hid (Bs wr (.slice ao 0 cap) (l.drop 0)) := by rw [HNL.out]; exact bs_noneF _ _ _ HAO.out
            have HBR : Hid (Below w.heap.size w _) := hbr
            have hsz := hbr.size
            have HOR : Hid (Own _ w.heap.size _ LL) := hor
            clear hor hbr
            go_wp2_with (first | (at_builtin; refine wpList_append_bytes _ rfl (.tmp 41) (.tmp 46) 28 rfl i0 Try.underlying28 hi hi0 hi1 hi2 w.heap.size _ (.slice ao 0 cap) LL (l.drop 0) rfl rfl HOR.out HBS.out (by rw [HLN.out, HDL.out]; omega) w HBR.out hsz ?_; intro ao1 cap1 w1 ho1 hb1 _ _; rw [HJ.out, HLN.out, HDL.out, HPP.out] at ho1; have HO1 : Hid (Own w1 w.heap.size _ (unL zn l)) := ho1; have HB1 : Hid (Below w.heap.size w w1) := hb1; rw [HLN.out, HDL.out, HPP.out]; clear ho1 hb1))
            go_ret2
            exact ⟨_, rfl, HO1.out, HB1.out⟩
          · obtain ⟨b, off, rfl, _⟩ := bs_someF HL.out h9
            have h8' : (p = 0) = False := by simp; omega
            by_cases h7 : cap = p
            · obtain rfl : p = cap := h7.symm
              have HBS : Hid (Bs wr (.slice (some ⟨b, off, none⟩) 0 0) (l.drop p)) := by rw [HNL.out]; exact bs_noneF _ _ _ (fun _ => rfl)
              have HBR : Hid (Below w.heap.size w _) := hbr
              have hsz := hbr.size
              have HOR : Hid (Own _ w.heap.size _ LL) := hor
              clear hor hbr
              go_wp2_with (first | (at_builtin; refine wpList_append_bytes _ rfl (.tmp 41) (.tmp 46) 28 rfl i0 Try.underlying28 hi hi0 hi1 hi2 w.heap.size _ (.slice (some ⟨b, off, none⟩) 0 0) LL (l.drop p) rfl rfl HOR.out HBS.out (by rw [HLN.out, HDL.out]; omega) w HBR.out hsz ?_; intro ao1 cap1 w1 ho1 hb1 _ _; rw [HJ.out, HLN.out, HDL.out, HPP.out] at ho1; have HO1 : Hid (Own w1 w.heap.size _ (unL zn l)) := ho1; have HB1 : Hid (Below w.heap.size w w1) := hb1; rw [HLN.out, HDL.out, HPP.out]; clear ho1 hb1))
              go_ret2
              exact ⟨_, rfl, HO1.out, HB1.out⟩
            · have h6 : (cap = p) = False := by simp; omega
              have HBS : Hid (Bs wr (.slice (some ⟨b, off + p, none⟩) 0 (cap - p)) (l.drop p)) := by rw [HNL.out]; exact bs_noneF _ _ _ (fun h => by cases h)
              have HBR : Hid (Below w.heap.size w _) := hbr
              have hsz := hbr.size
              have HOR : Hid (Own _ w.heap.size _ LL) := hor
              clear hor hbr
              go_wp2_with (first | (at_builtin; refine wpList_append_bytes _ rfl (.tmp 41) (.tmp 46) 28 rfl i0 Try.underlying28 hi hi0 hi1 hi2 w.heap.size _ (.slice (some ⟨b, off + p, none⟩) 0 (cap - p)) LL (l.drop p) rfl rfl HOR.out HBS.out (by rw [HLN.out, HDL.out]; omega) w HBR.out hsz ?_; intro ao1 cap1 w1 ho1 hb1 _ _; rw [HJ.out, HLN.out, HDL.out, HPP.out] at ho1; have HO1 : Hid (Own w1 w.heap.size _ (unL zn l)) := ho1; have HB1 : Hid (Below w.heap.size w w1) := hb1; rw [HLN.out, HDL.out, HPP.out]; clear ho1 hb1))
              go_ret2
              exact ⟨_, rfl, HO1.out, HB1.out⟩
  · refine Calls.mono (refUn_no z v w (by omega)) ?_
    rintro e w' ⟨rfl, rfl⟩
    exact ⟨_, by rw [wE_no (by omega)], by rw [wL, if_neg (by rw [wE_no (by omega)]; simp)]; exact Own.nil _ _, Below.refl _ _⟩
end Go.Proofs.Ytgodoogmbdgeoaa

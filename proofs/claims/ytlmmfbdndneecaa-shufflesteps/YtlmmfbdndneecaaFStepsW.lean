/-
  Numbers that rise by one step have, by differences, all numbers but the first one alike: the law's walk. No conditions.
-/
import Derived.Test.YtlmmfbdndneecaaFBackW
import Derived.Test.YtlmmfbdndneecaaFCount
namespace Go.Proofs.Ytlmmfbdndneecaa
open Go.RowKit Go.Shelf
set_option linter.unusedVariables false
set_option maxRecDepth 100000

theorem n40_of {a0 : Int} (h : (Lit.int .u64 a0).wf = true) : ∃ k : Nat, k < 40 ∧ a0.tmod 40 = (k : Int) ∧ wrap64 (k : Int) = (k : Int) := by
  have h0 : 0 ≤ a0 := by simp [Lit.wf, IntKind.min, IntKind.max, IntKind.bits, IntKind.signed] at h; omega
  refine ⟨(a0 % 40).toNat, by omega, ?_, ?_⟩
  · rw [Int.tmod_eq_emod_of_nonneg h0]; omega
  · unfold wrap64; omega
theorem u64_wf {n : Int} (h : (Lit.int .u64 n).wf = true) : 0 ≤ n ∧ n < 18446744073709551616 := by
  simp [Lit.wf, IntKind.min, IntKind.max, IntKind.bits, IntKind.signed] at h
  exact ⟨by omega, by omega⟩
theorem fr_slice {w : World} {lo : Nat} {x : Value} {l : List Int} (h : Fr w lo x l) : ∃ ao, x = .slice ao l.length l.length ∧ Bs w (.slice ao l.length l.length) l := by
  rcases h with ⟨rfl, rfl⟩ | ⟨g, hg, rfl, hr⟩
  · exact ⟨none, rfl, Bs.nil w⟩
  · exact ⟨_, rfl, hr.whole⟩
theorem riN_bd (f s : Int) (j : Nat) : 0 ≤ riN f s j ∧ riN f s j < 18446744073709551616 := m64_bd _
set_option maxHeartbeats 32000000 in
theorem shuffleSteps_walk (a0 f s a3 : Int) (w : World) (h0 : (Lit.int .u64 a0).wf = true) (hf : (Lit.int .u64 f).wf = true) (hs : (Lit.int .u64 s).wf = true) (h3 : (Lit.int .u64 a3).wf = true) :
    Calls Try.prog 7 #[.int .u64 a0, .int .u64 f, .int .u64 s, .int .u64 a3] w fun e w' => e = .returned (.bool true) ∧ Below w.heap.size w w' := by
  obtain ⟨i0, hi, hi0, hi1, hi2⟩ := info_parts Try.info5
  obtain ⟨z, y, h1, h8, hm1, hm2, hm3⟩ := wid_of h0
  obtain ⟨n, hn, hn1, hn2⟩ := n40_of h3
  have hfb := u64_wf hf
  have HS0 : Hid (riN f s 0 = f) := by
    have := Int.emod_eq_of_lt hfb.1 hfb.2
    rw [Hid, riN]; simp; exact this
  have HH1 : Hid (1 ≤ z) := h1
  have hz8 := h8
  clear h0 h3 hf hs
  go_enter Try.func7, Try.ntmps7
  go_wp2_with fail
  simp only [hm2, hm3]
  go_loopw [11, 12, 13] (fun v u i wr => ∃ k : Nat, k ≤ n ∧ i = .int .i64 k ∧ u = .int .u64 (riN f s k) ∧ Own wr w.heap.size v (stL f s z k) ∧ Below w.heap.size w wr) (fun _ _ i _ => n - (intOf i).toNat)
  case atStart => exact ⟨0, Nat.zero_le _, rfl, by rw [HS0.out], Own.nil _ _, Below.refl _ _⟩
  case round =>
    obtain ⟨k, hk, rfl, rfl, hor, hbr⟩ := hrel
    by_cases hlt : k < n
    · have HOR : Hid (Own wr w.heap.size _ (stL f s z k)) := hor
      have HBR : Hid (Below w.heap.size w wr) := hbr
      have hub := riN_bd f s k
      have HNX : Hid (stL f s z (k + 1) = stL f s z k ++ digs (riN f s k) z) := rowN_succ _ _ _
      have hwn : IntKind.u64.wrap (riN f s k + s) = riN f s (k + 1) := by rw [wrap_u64]; exact riN_next f s k
      have HLN : Hid ((stL f s z k).length ≤ 320) := by
        rw [Hid, stL_len]
        have : k * z ≤ 40 * 8 := Nat.mul_le_mul (by omega) h8
        omega
      obtain ⟨u, hu⟩ : ∃ u, riN f s k = u := ⟨_, rfl⟩
      rw [hu] at hub hwn HNX ⊢
      obtain ⟨LL, hLL⟩ : ∃ LL, stL f s z k = LL := ⟨_, rfl⟩
      rw [hLL] at HOR HLN HNX
      clear hor hbr hu hLL
      obtain ⟨hu0, hu1⟩ := hub
      go_wp2_with fail
      go_loopw [11, 14] (fun v i wi => ∃ d : Nat, d ≤ z ∧ i = .int .i64 d ∧ Own wi w.heap.size v (LL ++ digs u d) ∧ Below w.heap.size w wi) (fun _ i _ => z - (intOf i).toNat)
      case atStart => exact ⟨0, Nat.zero_le _, rfl, by rw [show digs u 0 = [] from rfl, List.append_nil]; exact HOR.out, HBR.out⟩
      case round =>
        obtain ⟨d, hdz, rfl, hoi, hbi⟩ := hrel
        by_cases hlt2 : d < z
        · have hw8 : IntKind.i64.wrap (8 * (d : Int)) = 8 * d := wrap_i64_in _ (by omega) (by omega)
          have HOI : Hid (Own _ w.heap.size _ (LL ++ digs u d)) := hoi
          have HBI : Hid (Below w.heap.size w _) := hbi
          have hsz := hbi.size
          have HT : Hid (LL ++ digs u (d + 1) = LL ++ digs u d ++ [qd u d % 256]) := by rw [Hid, digs, List.append_assoc]
          have HQ : Hid (u / 2 ^ (8 * d) % 256 = qd u d % 256) := by rw [Hid, qd, pow_256]
          have HLN2 : Hid ((LL ++ digs u d).length ≤ 330) := by have := HLN.out; rw [Hid, List.length_append, digs_length]; omega
          obtain ⟨L2, hL2⟩ : ∃ L2, LL ++ digs u d = L2 := ⟨_, rfl⟩
          rw [hL2] at HOI HT HLN2
          clear hoi hbi hL2
          go_wp2_with (first | (at_builtin; refine wpList_append_bytes _ rfl (.tmp 37) (.tmp 44) 22 rfl i0 Try.underlying22 hi hi0 hi1 hi2 w.heap.size _ _ L2 [u / 2 ^ (8 * d) % 256] rfl rfl (HOI.out.alloc _) (Bs.one _ _) (by have := HLN2.out; simp only [List.length_cons, List.length_nil]; omega) w (HBI.out.alloc hsz _) (by simp; omega) ?_; intro ao1 cap1 w1 ho1 hb1 _ _; rw [HQ.out, ← HT.out] at ho1; simp only [List.length_cons, List.length_nil, Nat.zero_add] at ho1; have HO1 : Hid (Own w1 w.heap.size _ (LL ++ digs u (d + 1))) := ho1; have HB1 : Hid (Below w.heap.size w w1) := hb1; clear ho1 hb1))
          go_roundw
          case rel => exact ⟨d + 1, by omega, by go_num, HO1.out, HB1.out⟩
          case measure => simp [intOf]; omega
        · obtain rfl : z = d := by omega
          rw [← HNX.out] at hoi
          have HOI : Hid (Own _ w.heap.size _ (stL f s z (k + 1))) := hoi
          have HBI : Hid (Below w.heap.size w _) := hbi
          clear hoi hbi
          go_wp2_with fail
          go_roundw
          case rel => exact ⟨k + 1, by omega, by go_num, by go_num, HOI.out, HBI.out⟩
          case measure => simp [intOf]; omega
    · obtain rfl : n = k := by omega
      have HB0 : Hid (Below w.heap.size w wr) := hbr
      have hbs := hor.bs
      obtain ⟨ao, cap, rfl, _⟩ := id hbs
      have hby : Byt (stL f s z n) := byt_rowN _ _ _
      have hln : (stL f s z n).length ≤ 320 := by
        rw [stL_len]
        have : n * z ≤ 40 * 8 := Nat.mul_le_mul (by omega) h8
        omega
      have HD : Hid (Calls Try.prog 16 #[.int .i64 (z : Int), .slice ao (stL f s z n).length cap] wr (ShP wr 0 (deL z (stL f s z n)))) := by
        have := delta_any (z : Int) _ _ wr hbs hby (by omega)
        rwa [wE_yes h1 h8, wL_yes h1 h8] at this
      obtain ⟨len, hlen⟩ : ∃ len, (stL f s z n).length = len := ⟨_, rfl⟩
      have hlk : len = n * z := by rw [← hlen, stL_len]
      have HAT : Hid (∀ i, i < len → (deL z (stL f s z n)).getD i 0 = qd (if i < z then f else s) (i % z) % 256) := fun i hi => st_at h1 h8 (by omega)
      have HDL : Hid ((deL z (stL f s z n)).length = len) := by rw [Hid, deL_len, hlen]
      rw [hlen] at HD hln hbs ⊢
      obtain ⟨DL, hDL⟩ : ∃ DL, deL z (stL f s z n) = DL := ⟨_, rfl⟩
      rw [hDL] at HD HAT HDL
      clear hor hbr hbs hby hlk hDL hlen
      go_wp2_with fail
      refine Calls.mono HD.out ?_
      rintro e w2 ⟨x2, rfl, hx2, hb2⟩
      have HB2 : Hid (Below w.heap.size w w2) := HB0.out.trans (hb2.mono HB0.out.size)
      obtain ⟨ao2, rfl, hbs2⟩ := fr_slice hx2
      rw [HDL.out] at hbs2 ⊢
      have HX2 : Hid (Bs w2 (.slice ao2 len len) DL) := hbs2
      clear hx2 hb2 hbs2
      go_wp2_with fail
      go_loopw [17] (fun i wr => ∃ j : Nat, j ≤ len ∧ i = .int .i64 j ∧ Below w2.heap.size w2 wr) (fun i _ => len - (intOf i).toNat)
      case atStart => exact ⟨0, Nat.zero_le _, rfl, Below.refl _ _⟩
      case round =>
        obtain ⟨j, hj, rfl, hbj⟩ := hrel
        by_cases hlt2 : j < len
        · obtain ⟨b, off, rfl, hcc⟩ := bs_some HX2.out (by omega)
          have hc1 := bel_cell hbj (hcc j hlt2)
          rw [HAT.out j hlt2] at hc1
          have HBJ : Hid (Below w2.heap.size w2 _) := hbj
          obtain ⟨r, hr⟩ : ∃ r, j % z = r := ⟨_, rfl⟩
          have hrz : r < z := by rw [← hr]; exact Nat.mod_lt _ (by omega)
          have hrm : Int.tmod (j : Int) (z : Int) = (r : Int) := by rw [Int.tmod_eq_emod_of_nonneg (by omega), ← Int.natCast_emod, hr]
          have hre : (j : Int) % (z : Int) = (r : Int) := by rw [← Int.natCast_emod, hr]
          have hw8 : IntKind.i64.wrap (8 * (r : Int)) = 8 * r := wrap_i64_in _ (by omega) (by omega)
          have hz3 : (z : Int) ≠ 0 := by omega
          rw [hr] at hc1
          clear hcc hbj hr
          by_cases hjz : j < z
          · rw [if_pos hjz, qd, ← pow_256] at hc1
            clear HAT
            go_wp2_with fail
            go_region
            go_wp2_with fail
            go_roundw
            case rel => exact ⟨j + 1, by omega, by go_num, bel_drew HBJ.out⟩
            case measure => simp [intOf]; omega
          · rw [if_neg hjz, qd, ← pow_256] at hc1
            clear HAT
            go_wp2_with fail
            go_region
            go_wp2_with fail
            go_roundw
            case rel => exact ⟨j + 1, by omega, by go_num, bel_drew HBJ.out⟩
            case measure => simp [intOf]; omega
        · have HBZ0 : Hid (Below w.heap.size w _) := HB2.out.trans (hbj.mono HB2.out.size)
          clear hbj HAT
          go_wp2_with (go_at_call 15; refine (lives14_any _).mono ?_; rintro e w11 ⟨rfl, hb11⟩; have HB11 : Hid (Below w.heap.size w w11) := HBZ0.out.trans (hb11.mono HBZ0.out.size); clear hb11)
          go_ret
          exact ⟨rfl, HB11.out⟩
end Go.Proofs.Ytlmmfbdndneecaa

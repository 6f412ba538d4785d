/-
  The walk of the law CheckBursts: true for all bytes, every place and every burst. Conditions: lengths within the machine's bounds; the table stands as the program's text lays it.
-/
import Derived.Test.YtdpjoldabnkboabDoorPlace
import Derived.Test.YtdpjoldabnkboabDoorBurst
namespace Go.Proofs.YtdpjoldabnkboabDoor
open Go.ChangeShapes Go.WideShapes Go.ChangeAt Go.RowKit
set_option linter.unusedVariables false

theorem bit_at (u j : Nat) (hu : u < 4294967296) : (bits .and .u32 ((u : Int) / 2 ^ j) 1 == 1) = u.testBit j := by
  have e : (u : Int) / 2 ^ j = ((u / 2 ^ j : Nat) : Int) := by simp
  have hd : u / 2 ^ j ≤ u := Nat.div_le_self _ _
  have hb : bits .and .u32 ((u / 2 ^ j : Nat) : Int) 1 = (((u / 2 ^ j).testBit 0).toNat : Int) := by
    have e := u32_and_nat (u / 2 ^ j) 1 (by omega) (by decide)
    rw [show ((1 : Nat) : Int) = 1 from rfl] at e
    rw [e, Nat.and_one_is_mod, Nat.testBit_zero]
    rcases Nat.mod_two_eq_zero_or_one (u / 2 ^ j) with h | h <;> simp [h]
  rw [e, hb, Nat.testBit_div_two_pow, Nat.zero_add]
  cases u.testBit j <;> rfl

set_option maxHeartbeats 4000000 in
theorem checkBursts_walk (v0 : Value) (l0 : List Int) (a1 a2 : Int) (w : World) (hT : Tab w) (b0 : Bs w v0 l0) (y0 : Byt l0) (z0 : l0.length ≤ 140737488351232) (w1 : (Lit.int .i64 a1).wf = true) (w2 : (Lit.int .u32 a2).wf = true) :
    Calls Tryd.prog 3 #[v0, .int .i64 a1, .int .u32 a2] w fun e w' => e = .returned (.bool true) ∧ Below w.heap.size w w' := by
  have ha := bounds_i64 w1
  have hu := bounds_u32 w2
  clear w1 w2
  obtain ⟨u, rfl⟩ := Int.eq_ofNat_of_zero_le hu.1
  have hu32 : u < 4294967296 := by omega
  have HB : Hid (Bs w v0 l0) := b0
  have HT : Hid (Tab w) := hT
  obtain ⟨n, hn⟩ : ∃ n, l0.length = n := ⟨_, rfl⟩
  have HN : Hid (l0.length = n) := hn
  obtain ⟨k, hk, hk1, hk2, hk3⟩ := place_any a1 (8 * (n + 4)) (by omega)
  have hkc : ((8 * (n + 4) : Nat) : Int) = 8 * ((n : Int) + 4) := by omega
  rw [hkc] at hk1 hk2 hk3
  have hSeal := seal_any v0 l0 w b0 z0 y0 hT
  rw [hn] at hSeal z0
  have HSE : Hid _ := hSeal
  have HSL : Hid ((sealN l0).length = n + 4) := by show _ = _; rw [sealN_length, hn]
  have HYS : Hid (Byt (sealN l0)) := byt_seal y0
  obtain ⟨ao, cap, rfl, hc, _, _⟩ := b0
  rw [hn] at HB HSE hc ⊢
  clear hSeal hT hn hkc
  go_enter Tryd.func3, Tryd.ntmps3
  go_wp2_with fail
  refine Calls.mono HSE.out ?_
  rintro e w1 ⟨rfl, hr1, hb1⟩
  have HR1 : Hid (Row w1 w.heap.size (sealN l0)) := hr1
  have HB1 : Hid (Below w.heap.size w w1) := hb1
  clear hr1 hb1
  go_wp2
  go_loopw [10, 11] (fun t i wr => ∃ (j : Nat) (M : List Int), j ≤ 32 ∧ k + j ≤ 8 * (n + 4) ∧ i = .int .i64 j ∧ t = .bool (anyB u j) ∧ Row wr w.heap.size M ∧ Burst (sealN l0) M u k j ∧ Below w.heap.size w wr) (fun _ i _ => 32 - (intOf i).toNat)
  case atStart => exact ⟨0, sealN l0, by omega, by omega, rfl, rfl, HR1.out, burst_start _ _ _ HYS.out, HB1.out⟩
  case round =>
    obtain ⟨j, M, hj, hkj, rfl, rfl, hrr, hbu, hbr⟩ := hrel
    have HRR : Hid (Row wr w.heap.size M) := hrr
    have HBU : Hid (Burst (sealN l0) M u k j) := hbu
    have HBR : Hid (Below w.heap.size w wr) := hbr
    have hML : M.length = n + 4 := by rw [hbu.1, HSL.out]
    have HML : Hid (M.length = n + 4) := hML
    clear hbu hbr hML
    by_cases hlt : j < 32 ∧ k + j < 8 * (n + 4)
    · obtain ⟨hl1, hl2⟩ := hlt
      have hba := bit_at u j hu32
      cases hbb : u.testBit j
      · rw [hbb] at hba
        have HNX : Hid (anyB u (j + 1) = anyB u j) := by show _ = _; rw [anyB_next, hbb]; simp
        have HB2 : Hid (Burst (sealN l0) M u k (j + 1)) := burst_skip HBU.out hbb
        clear hbb hrr
        go_wp2
        go_roundw
        case rel => exact ⟨j + 1, M, by omega, by omega, by go_num, by rw [HNX.out], HRR.out, HB2.out, HBR.out⟩
        case measure => simp [intOf]; omega
      · rw [hbb] at hba
        have HNX : Hid (anyB u (j + 1) = true) := by show _ = _; rw [anyB_next, hbb]; simp
        have hq : (k + j) / 8 < M.length := by rw [HML.out]; omega
        have hc1 := hrr.cell (i := (k + j) / 8) hq
        have hf1 := hrr.free ((k + j) / 8)
        have hxb := HBU.out.2.1 ((k + j) / 8)
        obtain ⟨x, hxe⟩ : ∃ x : Nat, (x : Int) = M.getD ((k + j) / 8) 0 := ⟨(M.getD ((k + j) / 8) 0).toNat, by omega⟩
        rw [← hxe] at hc1 hxb
        have HB2 : Hid (Burst (sealN l0) (M.set ((k + j) / 8) ((x ^^^ 2 ^ ((k + j) % 8) : Nat) : Int)) u k (j + 1)) := burst_flip HBU.out hbb x hq hxe (by omega)
        clear hbb hrr hxe hq
        obtain ⟨q, hqe⟩ : ∃ q, q = (k + j) / 8 := ⟨_, rfl⟩
        obtain ⟨r, hre⟩ : ∃ r, r = (k + j) % 8 := ⟨_, rfl⟩
        have hr8 : r < 8 := by omega
        have hqn : q < n + 4 := by omega
        have hq1 : ((k : Int) + (j : Int)).tdiv 8 = (q : Int) := by rw [Int.tdiv_eq_ediv_of_nonneg (by omega)]; omega
        have hr1 : ((k : Int) + (j : Int)).tmod 8 = (r : Int) := by rw [Int.tmod_eq_emod_of_nonneg (by omega)]; omega
        rw [← hqe] at hc1 hf1 HB2
        rw [← hre] at HB2
        clear hqe hre
        have HV : Hid (bits .xor .u8 (x : Int) (2 ^ r % 256) = ((x ^^^ 2 ^ r : Nat) : Int)) := by
          show _ = _
          have hp : 2 ^ r < 2 ^ 8 := Nat.pow_lt_pow_right (by decide) hr8
          have e : (2 : Int) ^ r % 256 = ((2 ^ r : Nat) : Int) := by
            have e1 : ((2 ^ r : Nat) : Int) = (2 : Int) ^ r := by simp
            have h1 : (0 : Int) ≤ (2 : Int) ^ r := Int.le_of_lt (Int.pow_pos (by decide))
            have h2 : (2 : Int) ^ r < 256 := by have := Int.ofNat_lt.2 hp; rw [e1] at this; exact this
            rw [e1, Int.emod_eq_of_lt h1 h2]
          rw [e]
          exact u8_xor_nat _ _ (by omega) (by omega)
        go_wp2
        go_roundw
        case rel =>
          rw [HV.out]
          exact ⟨j + 1, M.set q _, by omega, by omega, by go_num, by rw [HNX.out], HRR.out.set q _, HB2.out, HBR.out.grown (grown_set (World.grownBy.refl _ _) _ _) HBR.out.size (fun i hi => by simp at hi; omega)⟩
        case measure => simp [intOf]; omega
    · have HT2 : Hid (Tab wr) := HT.out.below HBR.out
      have hU := unseal_any _ M wr HRR.out.whole (by rw [HML.out]; omega) HBU.out.2.1 HT2.out
      rw [HML.out] at hU
      have HL2 : Hid (Bs wr (.slice ao n cap) l0) := HB.out.below HBR.out
      clear hrr
      cases hab : anyB u j
      · have hM := HBU.out.2.2.2 hab
        rw [hM, unErr_seal, unList_seal] at hU
        have HU : Hid _ := hU
        clear hU hM
        by_cases h32 : j = 32
        · subst h32
          go_wp2_with fail
          refine Calls.mono HU.out ?_
          rintro e w5 ⟨x5, rfl, ho5, hb5⟩
          have hs5 := str_run ho5.bs
          have hs6 := str_run (HL2.out.below hb5)
          have HB5 : Hid (Below wr.heap.size wr w5) := hb5
          clear ho5 hb5
          go_wp2_with (go_at_call 6; refine (lives2_any _ (HT2.out.below HB5.out)).mono ?_; rintro e w6 ⟨rfl, hb6⟩)
          go_ret
          exact ⟨rfl, HBR.out.trans ((HB5.out.trans (hb6.mono HB5.out.size)).mono HBR.out.size)⟩
        · have hkj2 : k + j = 8 * (n + 4) := by omega
          have hdd : (decide ((k : Int) + (j : Int) < 8 * ((n : Int) + 4))) = false := by simp; omega
          go_wp2_with fail
          refine Calls.mono HU.out ?_
          rintro e w5 ⟨x5, rfl, ho5, hb5⟩
          have hs5 := str_run ho5.bs
          have hs6 := str_run (HL2.out.below hb5)
          have HB5 : Hid (Below wr.heap.size wr w5) := hb5
          clear ho5 hb5
          go_wp2_with (go_at_call 6; refine (lives2_any _ (HT2.out.below HB5.out)).mono ?_; rintro e w6 ⟨rfl, hb6⟩)
          go_ret
          exact ⟨rfl, HBR.out.trans ((HB5.out.trans (hb6.mono HB5.out.size)).mono HBR.out.size)⟩
      · have hE := burst_told HBU.out hj (by rw [HN.out]; omega) hab
        rw [hE, unList_bad hE] at hU
        have HU : Hid _ := hU
        clear hU hE
        by_cases h32 : j = 32
        · subst h32
          go_wp2_with fail
          refine Calls.mono HU.out ?_
          rintro e w5 ⟨x5, rfl, ho5, hb5⟩
          obtain ⟨ao5, cap5, rfl, hle5, _⟩ := ho5.opened
          have HB5 : Hid (Below wr.heap.size wr w5) := hb5
          clear ho5 hb5
          go_wp2_with (go_at_call 6; refine (lives2_any _ (HT2.out.below HB5.out)).mono ?_; rintro e w6 ⟨rfl, hb6⟩)
          go_ret
          exact ⟨rfl, HBR.out.trans ((HB5.out.trans (hb6.mono HB5.out.size)).mono HBR.out.size)⟩
        · have hkj2 : k + j = 8 * (n + 4) := by omega
          have hdd : (decide ((k : Int) + (j : Int) < 8 * ((n : Int) + 4))) = false := by simp; omega
          go_wp2_with fail
          refine Calls.mono HU.out ?_
          rintro e w5 ⟨x5, rfl, ho5, hb5⟩
          obtain ⟨ao5, cap5, rfl, hle5, _⟩ := ho5.opened
          have HB5 : Hid (Below wr.heap.size wr w5) := hb5
          clear ho5 hb5
          go_wp2_with (go_at_call 6; refine (lives2_any _ (HT2.out.below HB5.out)).mono ?_; rintro e w6 ⟨rfl, hb6⟩)
          go_ret
          exact ⟨rfl, HBR.out.trans ((HB5.out.trans (hb6.mono HB5.out.size)).mono HBR.out.size)⟩
end Go.Proofs.YtdpjoldabnkboabDoor

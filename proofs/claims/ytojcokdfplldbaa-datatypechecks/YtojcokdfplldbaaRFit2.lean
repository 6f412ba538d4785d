/-
  The document's Fits and fits. Conditions: widths of 1 to 8.
-/
import Derived.Test.YtojcokdfplldbaaRFits
namespace Go.Proofs.Ytojcokdfplldbaa
open Go.RowKit Go.Shelf
set_option linter.unusedVariables false
set_option maxRecDepth 100000

theorem div_pow (u : Int) (i : Nat) : u / 256 ^ i / 256 = u / 256 ^ (i + 1) := by
  rw [Int.pow_succ, Int.ediv_ediv_of_nonneg (Int.pow_nonneg (by omega))]
set_option maxHeartbeats 4000000 in
theorem refFits_any (u : Int) (m : Nat) (w : World) (h0 : 0 ≤ u) (h1 : u < 18446744073709551616) (hm : m ≤ 8) :
    Calls Try.prog 94 #[.int .u64 u, .int .i64 (m : Int)] w fun e w' => e = .returned (.bool (decide (u / 256 ^ m = 0))) ∧ w' = w := by
  go_enter Try.func94, Try.ntmps94
  go_wp2_with fail
  go_loopw [0, 5] (fun x y wr => ∃ (i : Nat) (z : Int), i ≤ m ∧ x = .int .u64 z ∧ y = .int .i64 (i : Int) ∧ Hid (z = u / 256 ^ i) ∧ 0 ≤ z ∧ z < 18446744073709551616 ∧ wr = w) (fun _ y _ => m - (intOf y).toNat)
  case atStart => exact ⟨0, u, Nat.zero_le _, rfl, by simp, by rw [Hid]; simp, h0, h1, rfl⟩
  case round =>
    obtain ⟨i, z, hin, rfl, rfl, HZ, hz0, hz1, rfl⟩ := hrel
    by_cases hlt : i < m
    · have hzz : 0 ≤ z / 256 ∧ z / 256 < 18446744073709551616 := by omega
      have hwr : IntKind.u64.wrap (z / 256) = z / 256 := by rw [IntKind.wrap_u64]; omega
      have HZ2 : Hid (z / 256 = u / 256 ^ (i + 1)) := by rw [Hid, HZ.out]; exact div_pow u i
      go_wp2_with fail
      go_roundw
      case rel => exact ⟨i + 1, z / 256, hlt, rfl, by go_num, HZ2.out, hzz.1, hzz.2, by trivial⟩
      case measure => simp [intOf]; omega
    · obtain rfl : i = m := by omega
      have HE : Hid (decide (u / 256 ^ i = 0) = (z == 0)) := by rw [Hid, HZ.out]; rfl
      go_wp2_with fail
      go_ret
      exact ⟨by rw [HE.out]; rfl, rfl⟩
theorem fit_u {v wd : Int} (h1 : 1 ≤ wd) (h : 0 ≤ v) : decide (v / 256 ^ wd.toNat = 0) = fitV 2 wd v := by
  rw [fitV, if_pos rfl, show (2 : Int) ^ (8 * wd.toNat) = 256 ^ wd.toNat by rw [Int.pow_mul]; rfl, Bool.eq_iff_iff, decide_eq_true_iff, decide_eq_true_iff]
  have hp : (0 : Int) < 256 ^ wd.toNat := Int.pow_pos (by decide)
  constructor
  · intro h2
    refine ⟨h, ?_⟩
    have := Int.lt_ediv_add_one_mul_self v hp
    rw [h2] at this
    simpa using this
  · intro h2
    exact Int.ediv_eq_zero_of_lt h h2.2
set_option maxHeartbeats 16000000 in
theorem reffits_any (v c wd : Int) (b : Bool) (fa : Option Addr) (fn fc : Nat) (da : Option Addr) (dn dc : Nat) (ba : Option Addr) (bn bc : Nat) (na : Option Addr) (nn nc : Nat) (w : World) (hv : I64 v) (h1 : 1 ≤ wd) (h2 : wd ≤ 8) :
    Calls Try.prog 81 #[.int .i64 v, .agg #[.int .i64 c, .int .i64 wd, .bool b, .slice fa fn fc, .slice da dn dc, .slice ba bn bc, .slice na nn nc]] w fun e w' => e = .returned (.bool (fitV c wd v)) ∧ Below w.heap.size w w' := by
  obtain ⟨hv1, hv2⟩ := hv
  obtain ⟨m, hm⟩ : ∃ m : Nat, wd = m := ⟨wd.toNat, by omega⟩
  subst hm
  obtain ⟨w1, hw1, hb1, hs1, c0, c1, c2, c3, c4, c5, c6⟩ := bx_made w c (m : Int) b (.slice fa fn fc) (.slice da dn dc) (.slice ba bn bc) (.slice na nn nc)
  have HB1 : Hid (Below w.heap.size w w1) := hb1
  clear hb1 hs1 c2 c3 c4 c5 c6
  by_cases hc : c = 2
  · subst hc
    by_cases h0 : 0 ≤ v
    · have d0 : decide (0 ≤ v) = true := decide_eq_true h0
      have hwu : IntKind.u64.wrap v = v := by rw [IntKind.wrap_u64]; omega
      have HF : Hid (∀ w', Calls Try.prog 94 #[.int .u64 v, .int .i64 (m : Int)] w' fun e w2 => e = .returned (.bool (fitV 2 m v)) ∧ w2 = w') := fun w' => by
        have := refFits_any v m w' h0 (by omega) (by omega)
        rw [show decide (v / 256 ^ m = 0) = fitV 2 m v from fit_u (wd := (m : Int)) h1 h0] at this
        exact this
      go_enter Try.func81, Try.ntmps81
      go_wp2_with (go_at_call 94; refine Calls.mono (HF.out _) ?_; rintro e w5 ⟨rfl, hw5⟩; obtain rfl := hw5.symm)
      go_ret
      exact ⟨rfl, HB1.out⟩
    · have d0 : decide (0 ≤ v) = false := decide_eq_false h0
      have HE : Hid (fitV 2 m v = false) := by rw [Hid, fitV, if_pos rfl]; exact decide_eq_false (fun h => h0 h.1)
      go_enter Try.func81, Try.ntmps81
      go_wp2_with fail
      go_ret
      exact ⟨by rw [HE.out]; rfl, HB1.out⟩
  · have hc' : ¬ c = 2 := hc
    by_cases h8 : m = 8
    · subst h8
      have HE : Hid (fitV c ((8 : Nat) : Int) v = true) := by rw [Hid, fitV, if_neg hc]; exact decide_eq_true (by show -9223372036854775808 ≤ v ∧ v < 9223372036854775808; omega)
      go_enter Try.func81, Try.ntmps81
      go_wp2_with fail
      go_ret
      exact ⟨by rw [HE.out]; rfl, (Below.refl _ _).alloc (Nat.le_refl _) _⟩
    · have h8' : ¬ (m : Int) = 8 := by omega
      have h8w : IntKind.i64.wrap (8 * (m : Int)) = 8 * (m : Int) := wrap_i64_inD _ (by omega) (by omega)
      have HX1 : Hid (w1.cell? ⟨w.heap.size, 1, none⟩ = some (.int .i64 (m : Int))) := c1
      go_enter Try.func81, Try.ntmps81
      go_wp2_with fail
      go_loopw [5, 6] (fun x y wr => ∃ (i : Nat) (z : Int), 1 ≤ i ∧ i ≤ 8 * m ∧ x = .int .i64 z ∧ y = .int .i64 (i : Int) ∧ Hid (z = 2 ^ (i - 1)) ∧ wr = w1) (fun _ y _ => 8 * m - (intOf y).toNat)
      case atStart => exact ⟨1, 1, Nat.le_refl _, by omega, rfl, by simp, by rw [Hid]; rfl, rfl⟩
      case round =>
        obtain ⟨i, z, hi1, hi2, rfl, rfl, HZ, rfl⟩ := hrel
        have c1 := HX1.out
        have hz : 0 < z ∧ z ≤ 36028797018963968 := by
          rw [HZ.out]
          refine ⟨Int.pow_pos (by decide), ?_⟩
          have h5 : (2 : Nat) ^ (i - 1) ≤ 36028797018963968 := Nat.le_trans (Nat.pow_le_pow_right (by decide) (show i - 1 ≤ 55 by omega)) (by decide)
          have h6 : ((2 ^ (i - 1) : Nat) : Int) ≤ ((36028797018963968 : Nat) : Int) := Int.ofNat_le.2 h5
          rw [Int.natCast_pow] at h6
          exact h6
        obtain ⟨hz1, hz3⟩ := hz
        by_cases hlt : i < 8 * m
        · have hli : (i : Int) < 8 * (m : Int) := by omega
          have hwr : IntKind.i64.wrap (2 * z) = 2 * z := wrap_i64_inD _ (by omega) (by omega)
          have HZ2 : Hid (2 * z = 2 ^ (i + 1 - 1)) := by
            rw [Hid, HZ.out, show i + 1 - 1 = (i - 1) + 1 by omega, Int.pow_succ, Int.mul_comm]
          go_wp2_with fail
          go_roundw
          case rel => exact ⟨i + 1, 2 * z, by omega, by omega, rfl, by go_num, HZ2.out, by trivial⟩
          case measure => simp [intOf]; omega
        · obtain rfl : i = 8 * m := by omega
          have hli : ¬ ((8 * m : Nat) : Int) < 8 * (m : Int) := by omega
          have hneg : IntKind.i64.wrap (-z) = -z := wrap_i64_inD _ (by omega) (by omega)
          have HE : Hid (fitV c m v = decide (-z ≤ v ∧ v < z)) := by rw [Hid, fitV, if_neg hc, HZ.out, Int.toNat_natCast]
          by_cases g1 : -z ≤ v
          · have g1' : decide (-z ≤ v) = true := decide_eq_true g1
            have HE2 : Hid (fitV c m v = decide (v < z)) := by rw [Hid, HE.out]; simp [g1]
            go_wp2_with fail
            go_ret
            exact ⟨by rw [HE2.out]; rfl, HB1.out⟩
          · have g1' : decide (-z ≤ v) = false := decide_eq_false g1
            have HE2 : Hid (fitV c m v = false) := by rw [Hid, HE.out]; exact decide_eq_false (fun h => g1 h.1)
            go_wp2_with fail
            go_ret
            exact ⟨by rw [HE2.out]; rfl, HB1.out⟩
end Go.Proofs.Ytojcokdfplldbaa

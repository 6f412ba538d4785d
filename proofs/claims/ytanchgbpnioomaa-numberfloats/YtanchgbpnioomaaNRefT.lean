/-
  The document's Trunc and Nan walked. No conditions but that the arguments fit their kinds.
-/
import Derived.Test.YtanchgbpnioomaaNRef
namespace Go.Proofs.Ytanchgbpnioomaa
open Go.RowKit Ieee
set_option linter.unusedVariables false
set_option maxRecDepth 100000
set_option maxHeartbeats 1000000

theorem within_all (minus : Bool) (size : Int) (great : Bool) (w : Int) (s : Bool) (W : World) (h0 : 0 ≤ size) (hs : size < 18446744073709551616) (h1 : 1 ≤ w) (h2 : w ≤ 8) :
    Calls Try.prog 28 #[.bool minus, .int .u64 size, .bool great, .int .i64 w, .bool s] W fun e w' => e = .returned (.int .u64 (wiV minus size great w s)) ∧ w' = W := by
  by_cases hz : minus = true ∧ s = false ∧ great = false ∧ size = 0
  · obtain ⟨rfl, rfl, rfl, rfl⟩ := hz
    have HV : Hid (wiV true 0 false w false = 0) := by
      show clV (-0) w false = 0
      rcases wOk_eight h1 h2 with rfl | rfl | rfl | rfl | rfl | rfl | rfl | rfl <;> decide
    go_enter Try.func28, Try.ntmps28
    go_wp2
    go_ret
    exact ⟨ret_int HV.out.symm, rfl⟩
  · refine within_any minus size great w s W h0 hs (fun a b c => ?_) h1 h2
    by_cases h : size = 0
    · exact absurd ⟨a, b, c, h⟩ hz
    · omega
theorem apart_any (b n : Int) (W : World) (h0 : 0 ≤ b) (h1 : b < 18446744073709551616) (h : n = 8 ∨ (n = 4 ∧ b < 4294967296)) :
    Calls Try.prog 34 #[.int .u64 b, .int .i64 n] W fun e w' => e = .returned (.tuple #[.int .i64 (kindN ((fmt n).read b.toNat)), .bool ((fmt n).read b.toNat).neg, .int .u64 (wholeN ((fmt n).read b.toNat)), .int .i64 (scaleN ((fmt n).read b.toNat))]) ∧ Below W.heap.size W w' := by
  rcases h with rfl | ⟨rfl, h⟩
  · exact apart8 b W h0 h1
  · exact apart4 b W h0 h

theorem refTrunc_no (b n w : Int) (s : Bool) (W : World) (h : (n ≠ 4 ∧ n ≠ 8) ∨ w < 1 ∨ 8 < w) :
    Calls Try.prog 15 #[.int .u64 b, .int .i64 n, .int .i64 w, .bool s] W fun e w' => e = .returned (.tuple #[.int .u64 0, .int .i64 2]) ∧ w' = W := by
  by_cases h4 : n = 4
  · subst h4
    by_cases hw : w < 1
    · clear h
      go_enter Try.func15, Try.ntmps15
      go_wp2
      go_ret2
      exact ⟨rfl, rfl⟩
    · have h8 : 8 < w := by omega
      clear h
      go_enter Try.func15, Try.ntmps15
      go_wp2
      go_ret2
      exact ⟨rfl, rfl⟩
  · by_cases h8 : n = 8
    · subst h8
      by_cases hw : w < 1
      · clear h
        go_enter Try.func15, Try.ntmps15
        go_wp2
        go_ret2
        exact ⟨rfl, rfl⟩
      · have h8 : 8 < w := by omega
        clear h
        go_enter Try.func15, Try.ntmps15
        go_wp2
        go_ret2
        exact ⟨rfl, rfl⟩
    · clear h
      go_enter Try.func15, Try.ntmps15
      go_wp2
      go_ret2
      exact ⟨rfl, rfl⟩
theorem refTrunc_big (b w : Int) (s : Bool) (W : World) (h1 : 1 ≤ w) (h2 : w ≤ 8) (hb : 4294967296 ≤ b) :
    Calls Try.prog 15 #[.int .u64 b, .int .i64 4, .int .i64 w, .bool s] W fun e w' => e = .returned (.tuple #[.int .u64 0, .int .i64 3]) ∧ w' = W := by
  go_enter Try.func15, Try.ntmps15
  go_wp2_with (go_at_call 33; refine (power_any _ _ (by decide) (by decide)).mono ?_; rintro e w' ⟨rfl, rfl⟩)
  go_ret2
  exact ⟨rfl, rfl⟩

/-- What stands ahead of the point. -/
theorem whole_up {m : Nat} {e : Int} (h0 : 0 ≤ e) : szM m e / kilo = m * 2 ^ e.toNat := by
  rw [← cut_size m e (by omega), show (-e).toNat = 0 from by omega, Nat.pow_zero, Nat.div_one]
theorem whole_down {m : Nat} {e : Int} (h0 : e < 0) (h1 : -1074 ≤ e) : szM m e / kilo = m / 2 ^ (-e).toNat := by
  rw [← cut_size m e h1, show e.toNat = 0 from by omega, Nat.pow_zero, Nat.mul_one]
theorem great_size {m : Nat} {e : Int} (hm : 0 < m) (hmt : m < 18446744073709551616) (hg : 64 < (len2 m : Int) + e) : 18446744073709551616 ≤ szM m e / kilo := by
  have hl := len2_le m hmt
  have e1 : len2 m = m.log2 + 1 := if_neg (by omega)
  rw [whole_up (by omega)]
  have h1 := Nat.log2_self_le (n := m) (by omega)
  have h2 : 2 ^ m.log2 * 2 ^ e.toNat ≤ m * 2 ^ e.toNat := Nat.mul_le_mul_right _ h1
  rw [← Nat.pow_add] at h2
  have h3 : 2 ^ 64 ≤ 2 ^ (m.log2 + e.toNat) := Nat.pow_le_pow_right (by decide) (by omega)
  omega
theorem small_size {m : Nat} {e : Int} (h0 : 0 ≤ e) (hg : (len2 m : Int) + e ≤ 64) (hm : 0 < m) : m * 2 ^ e.toNat < 18446744073709551616 := by
  have e1 : len2 m = m.log2 + 1 := if_neg (by omega)
  have h1 : m < 2 ^ (m.log2 + 1) := Nat.lt_log2_self
  have h2 : m * 2 ^ e.toNat < 2 ^ (m.log2 + 1) * 2 ^ e.toNat := Nat.mul_lt_mul_of_pos_right h1 (two_pos _)
  rw [← Nat.pow_add] at h2
  have h3 : 2 ^ (m.log2 + 1 + e.toNat) ≤ 2 ^ 64 := Nat.pow_le_pow_right (by decide) (by omega)
  omega
theorem wi_great {t s : Bool} {w q : Int} (h1 : 1 ≤ w) (h2 : w ≤ 8) (hq : 18446744073709551616 ≤ q) : wiV t 0 true w s = clV (if t then -q else q) w s := by
  obtain ⟨a, b, c, d⟩ := hi_top s h1 h2
  cases t
  · show hiW w s = clV q w s
    rw [clV_pos (by omega) h1 h2]; omega
  · show loW w s % 2 ^ (8 * w).toNat = clV (-q) w s
    unfold clV; congr 1; omega
theorem wi_small {t s : Bool} {w q : Int} (h1 : 1 ≤ w) (h2 : w ≤ 8) (hq : 0 ≤ q) : wiV t q false w s = clV (if t then -q else q) w s := by
  cases t
  · show min q (hiW w s) = clV q w s
    rw [clV_pos hq h1 h2]
  · rfl
theorem sg_if (t : Bool) (q : Nat) : sg t q = if t then -(q : Int) else (q : Int) := rfl

theorem refTrunc_nan (b n w : Int) (s t : Bool) (W : World) (h : n = 8 ∨ (n = 4 ∧ b < 4294967296)) (h1 : 1 ≤ w) (h2 : w ≤ 8)
    (HA : Hid (∀ W, Calls Try.prog 34 #[.int .u64 b, .int .i64 n] W fun e w' => e = .returned (.tuple #[.int .i64 2, .bool t, .int .u64 0, .int .i64 0]) ∧ Below W.heap.size W w')) :
    Calls Try.prog 15 #[.int .u64 b, .int .i64 n, .int .i64 w, .bool s] W fun e w' => e = .returned (.tuple #[.int .u64 0, .int .i64 0]) ∧ Below W.heap.size W w' := by
  have HMT : Hid (0 < 18446744073709551616) := (by decide : 0 < 18446744073709551616)
  rcases h with rfl | ⟨rfl, h⟩
  · skip
    go_enter Try.func15, Try.ntmps15
    go_wp2_with (first | (go_at_call 33; refine (power_any _ _ (by omega) (by omega)).mono ?_; rintro e w' ⟨rfl, rfl⟩) | (go_at_call 34; refine Calls.mono (HA.out _) ?_; rintro e w' ⟨rfl, hb⟩) | (go_at_call 35; refine (length_any _ _ HMT.out).mono ?_; rintro e w' ⟨rfl, rfl⟩) | (go_at_call 28; refine (within_all _ _ _ _ _ _ (by omega) (by omega) h1 h2).mono ?_; rintro e w' ⟨rfl, rfl⟩))
    go_ret2
    exact ⟨rfl, by assumption⟩
  · skip
    go_enter Try.func15, Try.ntmps15
    go_wp2_with (first | (go_at_call 33; refine (power_any _ _ (by omega) (by omega)).mono ?_; rintro e w' ⟨rfl, rfl⟩) | (go_at_call 34; refine Calls.mono (HA.out _) ?_; rintro e w' ⟨rfl, hb⟩) | (go_at_call 35; refine (length_any _ _ HMT.out).mono ?_; rintro e w' ⟨rfl, rfl⟩) | (go_at_call 28; refine (within_all _ _ _ _ _ _ (by omega) (by omega) h1 h2).mono ?_; rintro e w' ⟨rfl, rfl⟩))
    go_ret2
    exact ⟨rfl, by assumption⟩

theorem refTrunc_inf (b n w : Int) (s t : Bool) (W : World) (h : n = 8 ∨ (n = 4 ∧ b < 4294967296)) (h1 : 1 ≤ w) (h2 : w ≤ 8)
    (HA : Hid (∀ W, Calls Try.prog 34 #[.int .u64 b, .int .i64 n] W fun e w' => e = .returned (.tuple #[.int .i64 1, .bool t, .int .u64 0, .int .i64 0]) ∧ Below W.heap.size W w')) :
    Calls Try.prog 15 #[.int .u64 b, .int .i64 n, .int .i64 w, .bool s] W fun e w' => e = .returned (.tuple #[.int .u64 (wiV t 0 true w s), .int .i64 0]) ∧ Below W.heap.size W w' := by
  have HMT : Hid (0 < 18446744073709551616) := (by decide : 0 < 18446744073709551616)
  rcases h with rfl | ⟨rfl, h⟩
  · skip
    go_enter Try.func15, Try.ntmps15
    go_wp2_with (first | (go_at_call 33; refine (power_any _ _ (by omega) (by omega)).mono ?_; rintro e w' ⟨rfl, rfl⟩) | (go_at_call 34; refine Calls.mono (HA.out _) ?_; rintro e w' ⟨rfl, hb⟩) | (go_at_call 35; refine (length_any _ _ HMT.out).mono ?_; rintro e w' ⟨rfl, rfl⟩) | (go_at_call 28; refine (within_all _ _ _ _ _ _ (by omega) (by omega) h1 h2).mono ?_; rintro e w' ⟨rfl, rfl⟩))
    go_ret2
    exact ⟨rfl, by assumption⟩
  · skip
    go_enter Try.func15, Try.ntmps15
    go_wp2_with (first | (go_at_call 33; refine (power_any _ _ (by omega) (by omega)).mono ?_; rintro e w' ⟨rfl, rfl⟩) | (go_at_call 34; refine Calls.mono (HA.out _) ?_; rintro e w' ⟨rfl, hb⟩) | (go_at_call 35; refine (length_any _ _ HMT.out).mono ?_; rintro e w' ⟨rfl, rfl⟩) | (go_at_call 28; refine (within_all _ _ _ _ _ _ (by omega) (by omega) h1 h2).mono ?_; rintro e w' ⟨rfl, rfl⟩))
    go_ret2
    exact ⟨rfl, by assumption⟩

/-- A number: too great, with nothing behind the point, or with something. -/
theorem refTrunc_great (b n w : Int) (s t : Bool) (m : Nat) (e : Int) (W : World) (h : n = 8 ∨ (n = 4 ∧ b < 4294967296)) (h1 : 1 ≤ w) (h2 : w ≤ 8) (HMT : Hid (m < 18446744073709551616)) (he0 : -1074 ≤ e) (he1 : e ≤ 971) (hm : 0 < m) (hl0 : (len2 m : Int) ≤ 64) (hg : 64 < (len2 m : Int) + e)
    (HA : Hid (∀ W, Calls Try.prog 34 #[.int .u64 b, .int .i64 n] W fun e' w' => e' = .returned (.tuple #[.int .i64 0, .bool t, .int .u64 (m : Int), .int .i64 e]) ∧ Below W.heap.size W w')) :
    Calls Try.prog 15 #[.int .u64 b, .int .i64 n, .int .i64 w, .bool s] W fun e' w' => e' = .returned (.tuple #[.int .u64 (wiV t 0 true w s), .int .i64 0]) ∧ Below W.heap.size W w' := by
  rcases h with rfl | ⟨rfl, h⟩
  · skip
    go_enter Try.func15, Try.ntmps15
    go_wp2_with (first | (go_at_call 33; refine (power_any _ _ (by omega) (by omega)).mono ?_; rintro e w' ⟨rfl, rfl⟩) | (go_at_call 34; refine Calls.mono (HA.out _) ?_; rintro e w' ⟨rfl, hb⟩) | (go_at_call 35; refine (length_any _ _ HMT.out).mono ?_; rintro e w' ⟨rfl, rfl⟩) | (go_at_call 28; refine (within_all _ _ _ _ _ _ (by omega) (by omega) h1 h2).mono ?_; rintro e w' ⟨rfl, rfl⟩))
    go_ret2
    exact ⟨rfl, by assumption⟩
  · skip
    go_enter Try.func15, Try.ntmps15
    go_wp2_with (first | (go_at_call 33; refine (power_any _ _ (by omega) (by omega)).mono ?_; rintro e w' ⟨rfl, rfl⟩) | (go_at_call 34; refine Calls.mono (HA.out _) ?_; rintro e w' ⟨rfl, hb⟩) | (go_at_call 35; refine (length_any _ _ HMT.out).mono ?_; rintro e w' ⟨rfl, rfl⟩) | (go_at_call 28; refine (within_all _ _ _ _ _ _ (by omega) (by omega) h1 h2).mono ?_; rintro e w' ⟨rfl, rfl⟩))
    go_ret2
    exact ⟨rfl, by assumption⟩

theorem refTrunc_low (b n w : Int) (s t : Bool) (m : Nat) (e : Int) (W : World) (h : n = 8 ∨ (n = 4 ∧ b < 4294967296)) (h1 : 1 ≤ w) (h2 : w ≤ 8) (HMT : Hid (m < 18446744073709551616)) (he0 : -1074 ≤ e) (he1 : e ≤ -64) (hl0 : (len2 m : Int) ≤ 64)
    (HA : Hid (∀ W, Calls Try.prog 34 #[.int .u64 b, .int .i64 n] W fun e' w' => e' = .returned (.tuple #[.int .i64 0, .bool t, .int .u64 (m : Int), .int .i64 e]) ∧ Below W.heap.size W w')) :
    Calls Try.prog 15 #[.int .u64 b, .int .i64 n, .int .i64 w, .bool s] W fun e' w' => e' = .returned (.tuple #[.int .u64 (wiV t 0 false w s), .int .i64 0]) ∧ Below W.heap.size W w' := by
  rcases h with rfl | ⟨rfl, h⟩
  · skip
    go_enter Try.func15, Try.ntmps15
    go_wp2_with (first | (go_at_call 33; refine (power_any _ _ (by omega) (by omega)).mono ?_; rintro e w' ⟨rfl, rfl⟩) | (go_at_call 34; refine Calls.mono (HA.out _) ?_; rintro e w' ⟨rfl, hb⟩) | (go_at_call 35; refine (length_any _ _ HMT.out).mono ?_; rintro e w' ⟨rfl, rfl⟩) | (go_at_call 28; refine (within_all _ _ _ _ _ _ (by omega) (by omega) h1 h2).mono ?_; rintro e w' ⟨rfl, rfl⟩))
    go_ret2
    exact ⟨rfl, by assumption⟩
  · skip
    go_enter Try.func15, Try.ntmps15
    go_wp2_with (first | (go_at_call 33; refine (power_any _ _ (by omega) (by omega)).mono ?_; rintro e w' ⟨rfl, rfl⟩) | (go_at_call 34; refine Calls.mono (HA.out _) ?_; rintro e w' ⟨rfl, hb⟩) | (go_at_call 35; refine (length_any _ _ HMT.out).mono ?_; rintro e w' ⟨rfl, rfl⟩) | (go_at_call 28; refine (within_all _ _ _ _ _ _ (by omega) (by omega) h1 h2).mono ?_; rintro e w' ⟨rfl, rfl⟩))
    go_ret2
    exact ⟨rfl, by assumption⟩

theorem refTrunc_mid (b n w : Int) (s t : Bool) (m : Nat) (e p q : Int) (W : World) (h : n = 8 ∨ (n = 4 ∧ b < 4294967296)) (h1 : 1 ≤ w) (h2 : w ≤ 8) (HMT : Hid (m < 18446744073709551616)) (he0 : -64 < e) (he1 : e < 0) (hl0 : (len2 m : Int) ≤ 64)
    (hp : (2 : Int) ^ (-e).toNat = p) (hp0 : ¬ p = 0) (hpp : 0 < p) (hq : (m : Int) / p = q) (hq0 : 0 ≤ q) (hq1 : q < 18446744073709551616)
    (HA : Hid (∀ W, Calls Try.prog 34 #[.int .u64 b, .int .i64 n] W fun e' w' => e' = .returned (.tuple #[.int .i64 0, .bool t, .int .u64 (m : Int), .int .i64 e]) ∧ Below W.heap.size W w')) :
    Calls Try.prog 15 #[.int .u64 b, .int .i64 n, .int .i64 w, .bool s] W fun e' w' => e' = .returned (.tuple #[.int .u64 (wiV t q false w s), .int .i64 0]) ∧ Below W.heap.size W w' := by
  rcases h with rfl | ⟨rfl, h⟩
  · skip
    go_enter Try.func15, Try.ntmps15
    go_wp2_with (first | (go_at_call 33; refine (power_any _ _ (by omega) (by omega)).mono ?_; rintro e w' ⟨rfl, rfl⟩) | (go_at_call 34; refine Calls.mono (HA.out _) ?_; rintro e w' ⟨rfl, hb⟩) | (go_at_call 35; refine (length_any _ _ HMT.out).mono ?_; rintro e w' ⟨rfl, rfl⟩) | (go_at_call 28; refine (within_all _ _ _ _ _ _ (by omega) (by omega) h1 h2).mono ?_; rintro e w' ⟨rfl, rfl⟩))
    go_ret2
    exact ⟨rfl, by assumption⟩
  · skip
    go_enter Try.func15, Try.ntmps15
    go_wp2_with (first | (go_at_call 33; refine (power_any _ _ (by omega) (by omega)).mono ?_; rintro e w' ⟨rfl, rfl⟩) | (go_at_call 34; refine Calls.mono (HA.out _) ?_; rintro e w' ⟨rfl, hb⟩) | (go_at_call 35; refine (length_any _ _ HMT.out).mono ?_; rintro e w' ⟨rfl, rfl⟩) | (go_at_call 28; refine (within_all _ _ _ _ _ _ (by omega) (by omega) h1 h2).mono ?_; rintro e w' ⟨rfl, rfl⟩))
    go_ret2
    exact ⟨rfl, by assumption⟩
theorem refTrunc_up (b n w : Int) (s t : Bool) (m : Nat) (e : Int) (W : World) (h : n = 8 ∨ (n = 4 ∧ b < 4294967296)) (h1 : 1 ≤ w) (h2 : w ≤ 8) (HMT : Hid (m < 18446744073709551616)) (he0 : 0 ≤ e) (he1 : e ≤ 971) (hm : 0 < m) (hl0 : (len2 m : Int) ≤ 64) (hg : (len2 m : Int) + e ≤ 64) (HZ : Hid (m * 2 ^ e.toNat < 18446744073709551616))
    (HA : Hid (∀ W, Calls Try.prog 34 #[.int .u64 b, .int .i64 n] W fun e' w' => e' = .returned (.tuple #[.int .i64 0, .bool t, .int .u64 (m : Int), .int .i64 e]) ∧ Below W.heap.size W w')) :
    Calls Try.prog 15 #[.int .u64 b, .int .i64 n, .int .i64 w, .bool s] W fun e' w' => e' = .returned (.tuple #[.int .u64 (wiV t ((m * 2 ^ e.toNat : Nat) : Int) false w s), .int .i64 0]) ∧ Below W.heap.size W w' := by
  rcases h with rfl | ⟨rfl, h⟩
  · skip
    go_enter Try.func15, Try.ntmps15
    go_wp2_with (first | (go_at_call 33; refine (power_any _ _ (by omega) (by omega)).mono ?_; rintro e w' ⟨rfl, rfl⟩) | (go_at_call 34; refine Calls.mono (HA.out _) ?_; rintro e w' ⟨rfl, hb⟩) | (go_at_call 35; refine (length_any _ _ HMT.out).mono ?_; rintro e w' ⟨rfl, rfl⟩) | (go_at_call 28; refine (within_all _ _ _ _ _ _ (by omega) (by omega) h1 h2).mono ?_; rintro e w' ⟨rfl, rfl⟩))
    go_loop [15, 16] (fun v i => ∃ k : Nat, k ≤ e.toNat ∧ i = .int .i64 (k : Int) ∧ v = .int .u64 ((m * 2 ^ k : Nat) : Int)) (fun _ i => e.toNat - (intOf i).toNat)
    case atStart => exact ⟨0, Nat.zero_le _, rfl, by simp⟩
    case round =>
      obtain ⟨k, hk, rfl, rfl⟩ := hrel
      by_cases hlt : k < e.toNat
      · have hki : (k : Int) < e := by omega
        have HX : Hid (2 * ((m * 2 ^ k : Nat) : Int) = ((m * 2 ^ (k + 1) : Nat) : Int)) := by
          show _ = _
          rw [Nat.pow_succ, ← Nat.mul_assoc]; omega
        have hle : m * 2 ^ (k + 1) ≤ m * 2 ^ e.toNat := Nat.mul_le_mul_left _ (Nat.pow_le_pow_right (by decide) hlt)
        have hx1 : 2 * ((m * 2 ^ k : Nat) : Int) < 18446744073709551616 := by rw [HX.out]; have := HZ.out; omega
        have hx0 : 0 ≤ ((m * 2 ^ k : Nat) : Int) := Int.natCast_nonneg _
        clear hle
        generalize ((m * 2 ^ k : Nat) : Int) = X at *
        go_wp2
        go_round
        case rel => exact ⟨k + 1, by omega, by go_num, by rw [← HX.out]⟩
        case measure => simp [intOf]; omega
      · have ek : k = e.toNat := by omega
        have hki : ¬ (k : Int) < e := by omega
        have hx1 : ((m * 2 ^ k : Nat) : Int) < 18446744073709551616 := by have := HZ.out; rw [ek]; omega
        have hx0 : 0 ≤ ((m * 2 ^ k : Nat) : Int) := Int.natCast_nonneg _
        have HX : Hid (((m * 2 ^ k : Nat) : Int) = ((m * 2 ^ e.toNat : Nat) : Int)) := by show _ = _; rw [ek]
        generalize ((m * 2 ^ k : Nat) : Int) = X at *
        go_wp2_with (first | (go_at_call 33; refine (power_any _ _ (by omega) (by omega)).mono ?_; rintro e w' ⟨rfl, rfl⟩) | (go_at_call 34; refine Calls.mono (HA.out _) ?_; rintro e w' ⟨rfl, hb⟩) | (go_at_call 35; refine (length_any _ _ HMT.out).mono ?_; rintro e w' ⟨rfl, rfl⟩) | (go_at_call 28; refine (within_all _ _ _ _ _ _ (by omega) (by omega) h1 h2).mono ?_; rintro e w' ⟨rfl, rfl⟩))
        go_ret2
        exact ⟨by rw [← HX.out]; rfl, by assumption⟩
  · skip
    go_enter Try.func15, Try.ntmps15
    go_wp2_with (first | (go_at_call 33; refine (power_any _ _ (by omega) (by omega)).mono ?_; rintro e w' ⟨rfl, rfl⟩) | (go_at_call 34; refine Calls.mono (HA.out _) ?_; rintro e w' ⟨rfl, hb⟩) | (go_at_call 35; refine (length_any _ _ HMT.out).mono ?_; rintro e w' ⟨rfl, rfl⟩) | (go_at_call 28; refine (within_all _ _ _ _ _ _ (by omega) (by omega) h1 h2).mono ?_; rintro e w' ⟨rfl, rfl⟩))
    go_loop [15, 16] (fun v i => ∃ k : Nat, k ≤ e.toNat ∧ i = .int .i64 (k : Int) ∧ v = .int .u64 ((m * 2 ^ k : Nat) : Int)) (fun _ i => e.toNat - (intOf i).toNat)
    case atStart => exact ⟨0, Nat.zero_le _, rfl, by simp⟩
    case round =>
      obtain ⟨k, hk, rfl, rfl⟩ := hrel
      by_cases hlt : k < e.toNat
      · have hki : (k : Int) < e := by omega
        have HX : Hid (2 * ((m * 2 ^ k : Nat) : Int) = ((m * 2 ^ (k + 1) : Nat) : Int)) := by
          show _ = _
          rw [Nat.pow_succ, ← Nat.mul_assoc]; omega
        have hle : m * 2 ^ (k + 1) ≤ m * 2 ^ e.toNat := Nat.mul_le_mul_left _ (Nat.pow_le_pow_right (by decide) hlt)
        have hx1 : 2 * ((m * 2 ^ k : Nat) : Int) < 18446744073709551616 := by rw [HX.out]; have := HZ.out; omega
        have hx0 : 0 ≤ ((m * 2 ^ k : Nat) : Int) := Int.natCast_nonneg _
        clear hle
        generalize ((m * 2 ^ k : Nat) : Int) = X at *
        go_wp2
        go_round
        case rel => exact ⟨k + 1, by omega, by go_num, by rw [← HX.out]⟩
        case measure => simp [intOf]; omega
      · have ek : k = e.toNat := by omega
        have hki : ¬ (k : Int) < e := by omega
        have hx1 : ((m * 2 ^ k : Nat) : Int) < 18446744073709551616 := by have := HZ.out; rw [ek]; omega
        have hx0 : 0 ≤ ((m * 2 ^ k : Nat) : Int) := Int.natCast_nonneg _
        have HX : Hid (((m * 2 ^ k : Nat) : Int) = ((m * 2 ^ e.toNat : Nat) : Int)) := by show _ = _; rw [ek]
        generalize ((m * 2 ^ k : Nat) : Int) = X at *
        go_wp2_with (first | (go_at_call 33; refine (power_any _ _ (by omega) (by omega)).mono ?_; rintro e w' ⟨rfl, rfl⟩) | (go_at_call 34; refine Calls.mono (HA.out _) ?_; rintro e w' ⟨rfl, hb⟩) | (go_at_call 35; refine (length_any _ _ HMT.out).mono ?_; rintro e w' ⟨rfl, rfl⟩) | (go_at_call 28; refine (within_all _ _ _ _ _ _ (by omega) (by omega) h1 h2).mono ?_; rintro e w' ⟨rfl, rfl⟩))
        go_ret2
        exact ⟨by rw [← HX.out]; rfl, by assumption⟩
end Go.Proofs.Ytanchgbpnioomaa

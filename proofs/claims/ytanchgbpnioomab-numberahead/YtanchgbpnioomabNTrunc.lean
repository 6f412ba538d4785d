/-
  Walks of number's Trunc, Widen, Narrow, Float, FloatUint and Nan. No conditions but that the arguments fit their kinds.
-/
import Derived.Test.YtanchgbpnioomabNFloat
namespace Go.Proofs.Ytanchgbpnioomab
open Go.RowKit Ieee
set_option linter.unusedVariables false
set_option maxRecDepth 100000
set_option maxHeartbeats 1000000

theorem floatOf4 (b : Int) (W : World) (h0 : 0 ≤ b) (h1 : b < 4294967296) : Calls Try.prog 25 #[.int .u64 b, .int .i64 4] W fun e w' => ∃ x, e = .returned (.tuple #[.float .f64 x, .int .i64 0]) ∧ Same (single.read b.toNat) x ∧ Below W.heap.size W w' := by
  have hx := x_from32
  have hw : IntKind.u32.wrap b = b := by simp [IntKind.wrap, IntKind.bits, IntKind.signed]; omega
  obtain ⟨x, W', hc, hs, hn, hb⟩ := conv_wide b.toNat W
  have HS : Hid (Same (single.read b.toNat) x) := hs
  have HB : Hid (Below W.heap.size W W') := hb
  clear hs hn hb
  go_enter Try.func25, Try.ntmps25
  go_wp2
  go_ret2
  exact ⟨x, rfl, HS.out, HB.out⟩

/-- The order of a word against a constant. -/
theorem ord_to {x c : Nat} {s t : Bool} {m n : Nat} {e j : Int} (h : double.read x = .number s m e) (he : -1074 ≤ e) (hc : double.read c = .number t n j) (hj : -1074 ≤ j) :
    FloatKind.f64.format.order x c = some (compare (sg s (szM m e)) (sg t (szM n j))) := by
  show Datum.order (double.read x) (double.read c) = _
  rw [h, hc]; exact order_num s t m n e j he hj
theorem cmp_lt {a b : Int} (h : a < b) : compare a b = .lt := by simp only [compare, compareOfLessAndEq, h, if_true]
theorem cmp_eq {a b : Int} (h : a = b) : compare a b = .eq := by simp only [compare, compareOfLessAndEq, h, if_true, Int.lt_irrefl, if_false]
theorem cmp_gt {a b : Int} (h : b < a) : compare a b = .gt := by
  simp only [compare, compareOfLessAndEq]
  rw [if_neg (by omega), if_neg (by omega)]
theorem cut_neg (x : Nat) (m : Nat) (e : Int) (W : World) (h : double.read x = .number true m e) (he : -1074 ≤ e) :
    Calls Try.prog 26 #[.float .f64 x] W fun r w' => r = .returned (.int .i64 (max (-9223372036854775808) (-((szM m e / kilo : Nat) : Int)))) ∧ w' = W := by
  have hc := ord_to (c := 14114281232179134464) h he (t := true) (n := 4503599627370496) (j := 11) (by decide +kernel) (by decide)
  have e1 : szM 4503599627370496 11 = 9223372036854775808 * kilo := by decide +kernel
  rw [e1] at hc
  have hk := kilo_pos
  have hti : (FloatKind.f64.decode x).toInt .zero = some (-((szM m e / kilo : Nat) : Int)) := by
    show (double.read x).toInt .zero = _
    rw [h]; exact toInt_num true m e he
  generalize szM m e = M at *
  by_cases hlt : 9223372036854775808 * kilo < M
  · have hq : 9223372036854775808 ≤ M / kilo := (Nat.le_div_iff_mul_le hk).2 (by omega)
    have HQ : Hid ((-9223372036854775808 : Int) = max (-9223372036854775808) (-((M / kilo : Nat) : Int))) := by show _ = _; generalize M / kilo = q at hq; omega
    have ho : FloatKind.f64.format.order x 14114281232179134464 = some .lt := by
      rw [hc, cmp_lt]; unfold sg; simp only [if_true]; omega
    clear hc hq hlt hti
    go_enter Try.func26, Try.ntmps26
    go_wp2
    go_ret
    exact ⟨ret_int HQ.out, rfl⟩
  · have hq : M / kilo ≤ 9223372036854775808 := by
      have := Nat.div_le_div_right (c := kilo) (Nat.le_of_not_lt hlt)
      rwa [Nat.mul_div_cancel _ hk] at this
    have HQ : Hid (-((M / kilo : Nat) : Int) = max (-9223372036854775808) (-((M / kilo : Nat) : Int))) := by show _ = _; generalize M / kilo = q at hq; omega
    have ho : ∃ o, FloatKind.f64.format.order x 14114281232179134464 = some o ∧ (some o == some Ordering.lt) = false := by
      rw [hc]
      by_cases heq : M = 9223372036854775808 * kilo
      · refine ⟨_, rfl, ?_⟩
        rw [cmp_eq (by rw [heq])]; rfl
      · refine ⟨_, rfl, ?_⟩
        rw [cmp_gt (by unfold sg; simp only [if_true]; omega)]; rfl
    obtain ⟨o, ho, hol⟩ := ho
    have hv : floatToIntVal .f64 x .i64 = some (-((M / kilo : Nat) : Int)) := by
      unfold floatToIntVal
      rw [hti]
      simp only
      rw [if_pos]
      generalize M / kilo = q at hq
      constructor
      · show (-9223372036854775808 : Int) ≤ _; omega
      · show _ ≤ (9223372036854775807 : Int); omega
    have hcv := run_convert_float_int (P := Try.prog) W 23 3 .f64 .i64 x _ (by rw [Try.underlying23]; rfl) Try.underlying3 hv
    clear hc hq hlt hti hv
    go_enter Try.func26, Try.ntmps26
    go_wp2
    go_ret
    exact ⟨ret_int HQ.out, rfl⟩

theorem ord_inf {x c : Nat} {s t : Bool} {n : Nat} {j : Int} (h : double.read x = .infinity s) (hc : double.read c = .number t n j) :
    FloatKind.f64.format.order x c = some (if s then .lt else .gt) := by
  show Datum.order (double.read x) (double.read c) = _
  rw [h, hc]; rfl
theorem cut_negInf (x : Nat) (W : World) (h : double.read x = .infinity true) :
    Calls Try.prog 26 #[.float .f64 x] W fun r w' => r = .returned (.int .i64 (-9223372036854775808)) ∧ w' = W := by
  have ho : FloatKind.f64.format.order x 14114281232179134464 = some .lt := ord_inf h (t := true) (n := 4503599627370496) (j := 11) (by decide +kernel)
  go_enter Try.func26, Try.ntmps26
  go_wp2
  go_ret
  exact ⟨rfl, rfl⟩
theorem cut_posInf (x : Nat) (W : World) (h : double.read x = .infinity false) :
    Calls Try.prog 28 #[.float .f64 x] W fun r w' => r = .returned (.int .u64 18446744073709551615) ∧ w' = W := by
  have ho : FloatKind.f64.format.order x 4895412794951729152 = some .gt := ord_inf h (t := false) (n := 4503599627370496) (j := 12) (by decide +kernel)
  go_enter Try.func28, Try.ntmps28
  go_wp2
  go_ret
  exact ⟨rfl, rfl⟩
theorem sg_div {s : Bool} {M : Nat} (h : 0 ≤ sg s M) : sg s (M / kilo) = ((M / kilo : Nat) : Int) := by
  cases s
  · rfl
  · have : M = 0 := by unfold sg at h; simp only [if_true] at h; omega
    subst this; rw [Nat.zero_div]; rfl
theorem sg_pos {s : Bool} {M : Nat} (h : 0 ≤ sg s M) : sg s M = (M : Int) := by
  cases s
  · rfl
  · have : M = 0 := by unfold sg at h; simp only [if_true] at h; omega
    subst this; rfl
theorem cut_pos (x : Nat) (s : Bool) (m : Nat) (e : Int) (W : World) (h : double.read x = .number s m e) (he : -1074 ≤ e) (hs : 0 ≤ sg s (szM m e)) :
    Calls Try.prog 28 #[.float .f64 x] W fun r w' => r = .returned (.int .u64 (min ((szM m e / kilo : Nat) : Int) 18446744073709551615)) ∧ w' = W := by
  have hc := ord_to (c := 4895412794951729152) h he (t := false) (n := 4503599627370496) (j := 12) (by decide +kernel) (by decide)
  have e1 : szM 4503599627370496 12 = 18446744073709551616 * kilo := by decide +kernel
  rw [e1, sg_pos hs] at hc
  have hk := kilo_pos
  have hti : (FloatKind.f64.decode x).toInt .zero = some ((szM m e / kilo : Nat) : Int) := by
    show (double.read x).toInt .zero = _
    rw [h, toInt_num s m e he, sg_div hs]
  generalize szM m e = M at *
  by_cases hlt : M < 18446744073709551616 * kilo
  · have hq : M / kilo < 18446744073709551616 := (Nat.div_lt_iff_lt_mul hk).2 hlt
    have HQ : Hid (((M / kilo : Nat) : Int) = min ((M / kilo : Nat) : Int) 18446744073709551615) := by show _ = _; generalize M / kilo = q at hq; omega
    have ho : FloatKind.f64.format.order x 4895412794951729152 = some .lt := by
      rw [hc, cmp_lt]; unfold sg; simp only [Bool.false_eq_true, if_false]; omega
    have hv : floatToIntVal .f64 x .u64 = some ((M / kilo : Nat) : Int) := by
      unfold floatToIntVal
      rw [hti]
      simp only
      rw [if_pos]
      generalize M / kilo = q at hq
      constructor
      · show (0 : Int) ≤ _; omega
      · show _ ≤ (18446744073709551615 : Int); omega
    have hcv := run_convert_float_int (P := Try.prog) W 23 22 .f64 .u64 x _ (by rw [Try.underlying23]; rfl) Try.underlying22 hv
    clear hc hq hlt hti hv
    go_enter Try.func28, Try.ntmps28
    go_wp2
    go_ret
    exact ⟨ret_int HQ.out, rfl⟩
  · have hq : 18446744073709551616 ≤ M / kilo := (Nat.le_div_iff_mul_le hk).2 (by omega)
    have HQ : Hid ((18446744073709551615 : Int) = min ((M / kilo : Nat) : Int) 18446744073709551615) := by show _ = _; generalize M / kilo = q at hq; omega
    have ho : FloatKind.f64.format.order x 4895412794951729152 = some .gt ∨ FloatKind.f64.format.order x 4895412794951729152 = some .eq := by
      rw [hc]
      by_cases heq : M = 18446744073709551616 * kilo
      · right; rw [cmp_eq (by rw [heq]; rfl)]
      · left; rw [cmp_gt (by unfold sg; simp only [Bool.false_eq_true, if_false]; omega)]
    clear hc hq hlt hti
    rcases ho with ho | ho
    · go_enter Try.func28, Try.ntmps28
      go_wp2
      go_ret
      exact ⟨ret_int HQ.out, rfl⟩
    · go_enter Try.func28, Try.ntmps28
      go_wp2
      go_ret
      exact ⟨ret_int HQ.out, rfl⟩

/-- What a float becomes as an integer. -/
def trV (d : Datum) (w : Int) (s : Bool) : Int :=
  match d with
  | .nan _ _ => 0
  | .infinity t => if t then loW w s % 2 ^ (8 * w).toNat else hiW w s
  | .number t m e => clV (sg t (szM m e / kilo)) w s
theorem hi_top {w : Int} (s : Bool) (h1 : 1 ≤ w) (h2 : w ≤ 8) : hiW w s ≤ 18446744073709551615 ∧ 0 ≤ hiW w s ∧ -9223372036854775808 ≤ loW w s ∧ loW w s ≤ 0 := by
  rcases wOk_eight h1 h2 with rfl | rfl | rfl | rfl | rfl | rfl | rfl | rfl <;> cases s <;> decide
theorem cl_low {n w : Int} (s : Bool) (h1 : 1 ≤ w) (h2 : w ≤ 8) (h : n ≤ 0) : clV (max (-9223372036854775808) n) w s = clV n w s := by
  obtain ⟨a, b, c, d⟩ := hi_top s h1 h2
  unfold clV; congr 1; omega
theorem cl_inf {w : Int} (s : Bool) (h1 : 1 ≤ w) (h2 : w ≤ 8) : clV (-9223372036854775808) w s = loW w s % 2 ^ (8 * w).toNat := by
  obtain ⟨a, b, c, d⟩ := hi_top s h1 h2
  unfold clV; congr 1; omega
theorem cl_high {n w : Int} (s : Bool) (h1 : 1 ≤ w) (h2 : w ≤ 8) (h : 0 ≤ n) : min (min n 18446744073709551615) (hiW w s) = clV n w s := by
  obtain ⟨a, b, c, d⟩ := hi_top s h1 h2
  rw [clV_pos h h1 h2]; omega

theorem floatOf_any (b n : Int) (W : World) (h0 : 0 ≤ b) (h : n = 8 ∨ (n = 4 ∧ b < 4294967296)) : Calls Try.prog 25 #[.int .u64 b, .int .i64 n] W fun e w' => ∃ x, e = .returned (.tuple #[.float .f64 x, .int .i64 0]) ∧ Same ((fmt n).read b.toNat) x ∧ Below W.heap.size W w' := by
  rcases h with rfl | ⟨rfl, h⟩
  · exact (floatOf8 b W).mono fun e w' ⟨h1, h2⟩ => ⟨_, h1, Same.self _, by rw [h2]; exact Below.refl _ _⟩
  · exact floatOf4 b W h0 h
theorem trunc_no (b n w : Int) (s : Bool) (W : World) (h : w < 1 ∨ 8 < w) :
    Calls Try.prog 17 #[.int .u64 b, .int .i64 n, .int .i64 w, .bool s] W fun e w' => e = .returned (.tuple #[.int .u64 0, .int .i64 2]) ∧ w' = W := by
  have hw : wOk w = false := by unfold wOk; simp; omega
  go_enter Try.func17, Try.ntmps17
  go_wp2_with (go_at_call 24; refine (isWidth_any _ _).mono ?_; rintro e w' ⟨rfl, rfl⟩)
  go_ret2
  exact ⟨rfl, rfl⟩
theorem trunc_from (b n w : Int) (s : Bool) (W : World) (h1 : 1 ≤ w) (h2 : w ≤ 8) (h4 : n ≠ 4) (h8 : n ≠ 8) :
    Calls Try.prog 17 #[.int .u64 b, .int .i64 n, .int .i64 w, .bool s] W fun e w' => e = .returned (.tuple #[.int .u64 0, .int .i64 2]) ∧ w' = W := by
  have hw : wOk w = true := by unfold wOk; simp; omega
  go_enter Try.func17, Try.ntmps17
  go_wp2_with (first | (go_at_call 24; refine (isWidth_any _ _).mono ?_; rintro e w' ⟨rfl, rfl⟩) | (go_at_call 25; refine (floatOf_no _ _ _ h4 h8).mono ?_; rintro e w' ⟨rfl, rfl⟩))
  go_ret2
  exact ⟨rfl, rfl⟩
theorem trunc_big (b w : Int) (s : Bool) (W : World) (h1 : 1 ≤ w) (h2 : w ≤ 8) (hb : 4294967296 ≤ b) :
    Calls Try.prog 17 #[.int .u64 b, .int .i64 4, .int .i64 w, .bool s] W fun e w' => e = .returned (.tuple #[.int .u64 0, .int .i64 3]) ∧ w' = W := by
  have hw : wOk w = true := by unfold wOk; simp; omega
  go_enter Try.func17, Try.ntmps17
  go_wp2_with (first | (go_at_call 24; refine (isWidth_any _ _).mono ?_; rintro e w' ⟨rfl, rfl⟩) | (go_at_call 25; refine (floatOf_big _ _ hb).mono ?_; rintro e w' ⟨rfl, rfl⟩))
  go_ret2
  exact ⟨rfl, rfl⟩
theorem read_zero : double.read 0 = .number false 0 (-1074) := by decide +kernel
theorem ord_zero {x : Nat} {s : Bool} {m : Nat} {e : Int} (h : double.read x = .number s m e) (he : -1074 ≤ e) : FloatKind.f64.format.order x 0 = some (compare (sg s (szM m e)) 0) := by
  have h1 := ord_to h he read_zero (by decide)
  have h2 : sg false (szM 0 (-1074)) = 0 := by decide
  rw [h2] at h1; exact h1
theorem same_low {m : Nat} {e : Int} {x : Nat} (h : Same (.number true m e) x) (hn : sg true (szM m e) < 0) :
    ∃ m' e', Hid (double.read x = .number true m' e' ∧ -1074 ≤ e' ∧ szM m' e' / kilo = szM m e / kilo) ∧ nan8 x = false ∧ FloatKind.f64.format.order x 0 = some .lt := by
  obtain ⟨m', e', h1, h2, h3⟩ := h
  refine ⟨m', e', ⟨h1, h2, by rw [h3]⟩, by unfold nan8; rw [h1]; rfl, ?_⟩
  rw [ord_zero h1 h2, h3, cmp_lt hn]
theorem same_high {t : Bool} {m : Nat} {e : Int} {x : Nat} (h : Same (.number t m e) x) (hn : 0 ≤ sg t (szM m e)) :
    ∃ m' e', Hid (double.read x = .number t m' e' ∧ -1074 ≤ e' ∧ szM m' e' / kilo = szM m e / kilo ∧ 0 ≤ sg t (szM m' e')) ∧ nan8 x = false ∧ (FloatKind.f64.format.order x 0 == some .lt) = false := by
  obtain ⟨m', e', h1, h2, h3⟩ := h
  refine ⟨m', e', ⟨h1, h2, by rw [h3], by rw [h3]; exact hn⟩, by unfold nan8; rw [h1]; rfl, ?_⟩
  rw [ord_zero h1 h2, h3]
  by_cases h0 : sg t (szM m e) = 0
  · rw [cmp_eq h0]; rfl
  · rw [cmp_gt (by omega)]; rfl
theorem trunc_yes (b n w : Int) (s : Bool) (W : World) (h0 : 0 ≤ b) (h : n = 8 ∨ (n = 4 ∧ b < 4294967296)) (h1 : 1 ≤ w) (h2 : w ≤ 8) :
    Calls Try.prog 17 #[.int .u64 b, .int .i64 n, .int .i64 w, .bool s] W fun e w' => e = .returned (.tuple #[.int .u64 (trV ((fmt n).read b.toNat) w s), .int .i64 0]) ∧ Below W.heap.size W w' := by
  have hw : wOk w = true := by unfold wOk; simp; omega
  have HF : Hid (∀ W, Calls Try.prog 25 #[.int .u64 b, .int .i64 n] W fun e w' => ∃ x, e = .returned (.tuple #[.float .f64 x, .int .i64 0]) ∧ Same ((fmt n).read b.toNat) x ∧ Below W.heap.size W w') := fun W => floatOf_any b n W h0 h
  clear h0 h
  cases hd : (fmt n).read b.toNat with
  | nan t f =>
    rw [hd] at HF
    have HV : Hid ((0 : Int) = trV (.nan t f) w s) := rfl
    go_enter Try.func17, Try.ntmps17
    go_wp2_with (first | (go_at_call 24; refine (isWidth_any _ _).mono ?_; rintro e w' ⟨rfl, rfl⟩) | (go_at_call 25; refine Calls.mono (HF.out _) ?_; rintro e w' ⟨x, rfl, hs, hb⟩; have hn : nan8 x = true := hs; clear hs) | (go_at_call 23; refine (isNaN_any _ _).mono ?_; rintro e w' ⟨rfl, rfl⟩))
    go_ret2
    exact ⟨rfl, by assumption⟩
  | infinity t =>
    rw [hd] at HF
    have HV1 : Hid (clV (-9223372036854775808) w s = loW w s % 2 ^ (8 * w).toNat) := cl_inf s h1 h2
    have HV2 : Hid (min 18446744073709551615 (hiW w s) = hiW w s) := by have := hi_top s h1 h2; show _ = _; omega
    cases t
    · go_enter Try.func17, Try.ntmps17
      go_wp2_with (first | (go_at_call 24; refine (isWidth_any _ _).mono ?_; rintro e w' ⟨rfl, rfl⟩) | (go_at_call 25; refine Calls.mono (HF.out _) ?_; rintro e w' ⟨x, rfl, hs, hb⟩; have HI : Hid (double.read x = .infinity false) := hs; have hn : nan8 x = false := (by unfold nan8; rw [HI.out]; rfl); have ho : FloatKind.f64.format.order x 0 = some .gt := ord_inf HI.out read_zero; clear hs) | (go_at_call 23; refine (isNaN_any _ _).mono ?_; rintro e w' ⟨rfl, rfl⟩) | (go_at_call 28; refine (cut_posInf _ _ HI.out).mono ?_; rintro e w' ⟨rfl, rfl⟩) | (go_at_call 27; refine (clampUint_yes _ _ _ _ h1 h2).mono ?_; rintro e w' ⟨rfl, rfl⟩))
      go_ret2
      exact ⟨ret_two HV2.out rfl, by assumption⟩
    · go_enter Try.func17, Try.ntmps17
      go_wp2_with (first | (go_at_call 24; refine (isWidth_any _ _).mono ?_; rintro e w' ⟨rfl, rfl⟩) | (go_at_call 25; refine Calls.mono (HF.out _) ?_; rintro e w' ⟨x, rfl, hs, hb⟩; have HI : Hid (double.read x = .infinity true) := hs; have hn : nan8 x = false := (by unfold nan8; rw [HI.out]; rfl); have ho : FloatKind.f64.format.order x 0 = some .lt := ord_inf HI.out read_zero; clear hs) | (go_at_call 23; refine (isNaN_any _ _).mono ?_; rintro e w' ⟨rfl, rfl⟩) | (go_at_call 26; refine (cut_negInf _ _ HI.out).mono ?_; rintro e w' ⟨rfl, rfl⟩) | (go_at_call 21; refine (clamp_yes _ _ _ _ (by decide) (by decide) h1 h2).mono ?_; rintro e w' ⟨rfl, rfl⟩))
      go_ret2
      exact ⟨ret_two HV1.out rfl, by assumption⟩
  | number t m e =>
    rw [hd] at HF
    by_cases hneg : sg t (szM m e) < 0
    · have ht : t = true := by
        cases t
        · unfold sg at hneg; simp only [Bool.false_eq_true, if_false] at hneg; omega
        · rfl
      subst ht
      obtain ⟨q, hq⟩ : ∃ q, szM m e / kilo = q := ⟨_, rfl⟩
      have HV : Hid (clV (max (-9223372036854775808) (-(q : Int))) w s = trV (.number true m e) w s) := by
        show _ = clV (sg true (szM m e / kilo)) w s
        rw [cl_low s h1 h2 (by omega), hq]; rfl
      have hl1 : -9223372036854775808 ≤ max (-9223372036854775808) (-(q : Int)) := by omega
      have hl2 : max (-9223372036854775808) (-(q : Int)) < 9223372036854775808 := by omega
      have HS : Hid (∀ x, Same (.number true m e) x → ∃ m' e', Hid (double.read x = .number true m' e' ∧ -1074 ≤ e' ∧ szM m' e' / kilo = q) ∧ nan8 x = false ∧ FloatKind.f64.format.order x 0 = some .lt) := fun x hx => by
        rw [← hq]; exact same_low hx hneg
      obtain ⟨cut, hcut⟩ : ∃ cut : Int, max (-9223372036854775808) (-(q : Int)) = cut := ⟨_, rfl⟩
      have HC : Hid (max (-9223372036854775808) (-(q : Int)) = cut) := hcut
      rw [hcut] at HV hl1 hl2
      clear hneg hq hd hcut
      go_enter Try.func17, Try.ntmps17
      go_wp2_with (first | (go_at_call 24; refine (isWidth_any _ _).mono ?_; rintro e w' ⟨rfl, rfl⟩) | (go_at_call 25; refine Calls.mono (HF.out _) ?_; rintro e w' ⟨x, rfl, hs, hb⟩; obtain ⟨m', e', HI, hn, ho⟩ := HS.out x hs; clear hs) | (go_at_call 23; refine (isNaN_any _ _).mono ?_; rintro e w' ⟨rfl, rfl⟩) | (go_at_call 26; refine (cut_neg _ _ _ _ HI.out.1 HI.out.2.1).mono ?_; rw [HI.out.2.2, HC.out]; rintro e w' ⟨rfl, rfl⟩) | (go_at_call 21; refine (clamp_yes _ _ _ _ hl1 hl2 h1 h2).mono ?_; rintro e w' ⟨rfl, rfl⟩))
      go_ret2
      exact ⟨ret_two HV.out rfl, by assumption⟩
    · obtain ⟨q, hq⟩ : ∃ q, szM m e / kilo = q := ⟨_, rfl⟩
      have HV : Hid (min (min (q : Int) 18446744073709551615) (hiW w s) = trV (.number t m e) w s) := by
        show _ = clV (sg t (szM m e / kilo)) w s
        rw [cl_high s h1 h2 (by omega), sg_div (by omega), hq]
      have HS : Hid (∀ x, Same (.number t m e) x → ∃ m' e', Hid (double.read x = .number t m' e' ∧ -1074 ≤ e' ∧ szM m' e' / kilo = q ∧ 0 ≤ sg t (szM m' e')) ∧ nan8 x = false ∧ (FloatKind.f64.format.order x 0 == some .lt) = false) := fun x hx => by
        rw [← hq]; exact same_high hx (by omega)
      obtain ⟨cut, hcut⟩ : ∃ cut : Int, min (q : Int) 18446744073709551615 = cut := ⟨_, rfl⟩
      have HC : Hid (min (q : Int) 18446744073709551615 = cut) := hcut
      rw [hcut] at HV
      clear hneg hq hd hcut
      go_enter Try.func17, Try.ntmps17
      go_wp2_with (first | (go_at_call 24; refine (isWidth_any _ _).mono ?_; rintro e w' ⟨rfl, rfl⟩) | (go_at_call 25; refine Calls.mono (HF.out _) ?_; rintro e w' ⟨x, rfl, hs, hb⟩; obtain ⟨m', e', HI, hn, ho⟩ := HS.out x hs; clear hs) | (go_at_call 23; refine (isNaN_any _ _).mono ?_; rintro e w' ⟨rfl, rfl⟩) | (go_at_call 28; refine (cut_pos _ _ _ _ _ HI.out.1 HI.out.2.1 HI.out.2.2.2).mono ?_; rw [HI.out.2.2.1, HC.out]; rintro e w' ⟨rfl, rfl⟩) | (go_at_call 27; refine (clampUint_yes _ _ _ _ h1 h2).mono ?_; rintro e w' ⟨rfl, rfl⟩))
      go_ret2
      exact ⟨ret_two HV.out rfl, by assumption⟩
end Go.Proofs.Ytanchgbpnioomab

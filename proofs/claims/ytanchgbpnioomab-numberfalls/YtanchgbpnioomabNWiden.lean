/-
  Walks of number's Widen, Narrow, Float, FloatUint and Nan, and of the laws' own examples. No conditions but that the arguments fit their kinds.
-/
import Derived.Test.YtanchgbpnioomabNTrunc
namespace Go.Proofs.Ytanchgbpnioomab
open Go.RowKit Ieee
set_option linter.unusedVariables false
set_option maxRecDepth 100000
set_option maxHeartbeats 1000000

/-- A float of 4 bytes as one of 8. -/
def wdV (b : Nat) : Nat := match single.read b with | .nan _ _ => 9221120237041090560 | d => double.write d
/-- A float of 8 bytes as one of 4. -/
def nwV (b : Nat) : Nat := match double.read b with | .nan _ _ => 2143289344 | d => single.write d

theorem same_nan4 {b x : Nat} (h : Same (single.read b) x) : nan8 x = nan4 b := by
  unfold nan4
  cases hd : single.read b with
  | nan s t => rw [hd] at h; exact h
  | infinity s => rw [hd] at h; unfold nan8; rw [show double.read x = .infinity s from h]; try rfl
  | number s m e => rw [hd] at h; obtain ⟨m', e', h1, _⟩ := h; unfold nan8; rw [h1]; try rfl
theorem widen_any (b : Int) (W : World) (h0 : 0 ≤ b) (h1 : b < 4294967296) : Calls Try.prog 12 #[.int .u32 b] W fun e w' => e = .returned (.int .u64 (wdV b.toNat : Nat)) ∧ Below W.heap.size W w' := by
  have hx := x_from32
  have hy := x_bits64
  obtain ⟨x, W', hc, hs, hn, hb⟩ := conv_wide b.toNat W
  have HB : Hid (Below W.heap.size W W') := hb
  have hnn := same_nan4 hs
  cases h4 : nan4 b.toNat with
  | true =>
    have hn8 : nan8 x = true := by rw [hnn, h4]
    have HV : Hid (9221120237041090560 = (wdV b.toNat : Int)) := by
      show _ = _
      unfold wdV nan4 at *
      cases hd : single.read b.toNat with
      | nan s t => rfl
      | infinity s => rw [hd] at h4; cases h4
      | number s m e => rw [hd] at h4; cases h4
    clear hs hn hb hnn h4
    go_enter Try.func12, Try.ntmps12
    go_wp2_with (first | (go_at_call 23; refine (isNaN_any _ _).mono ?_; rintro e w' ⟨rfl, rfl⟩))
    go_ret
    exact ⟨ret_int HV.out, HB.out⟩
  | false =>
    have hn8 : nan8 x = false := by rw [hnn, h4]
    have HV : Hid ((x : Int) = (wdV b.toNat : Int)) := by
      show _ = _
      rw [(hn h4).2]
      unfold wdV nan4 at *
      cases hd : single.read b.toNat with
      | nan s t => rw [hd] at h4; cases h4
      | infinity s => rfl
      | number s m e => rfl
    clear hs hn hb hnn h4
    go_enter Try.func12, Try.ntmps12
    go_wp2_with (first | (go_at_call 23; refine (isNaN_any _ _).mono ?_; rintro e w' ⟨rfl, rfl⟩))
    go_ret
    exact ⟨ret_int HV.out, HB.out⟩

theorem andNot_top (b : Nat) (hb : b < 18446744073709551616) : bits .andNot .u64 (b : Int) 9223372036854775808 = ((b % 9223372036854775808 : Nat) : Int) := by
  have := u64_andNot (b : Int) 9223372036854775808 (by omega) (by omega) (by decide) (by decide)
  rw [this, Int.toNat_natCast]
  rw [show (18446744073709551615 - (9223372036854775808 : Int).toNat) = 2 ^ 63 - 1 from by decide, Nat.and_two_pow_sub_one_eq_mod]
theorem abs_any (b : Nat) (W : World) (hb : b < 18446744073709551616) : Calls Try.prog 19 #[.float .f64 b] W fun e w' => e = .returned (.float .f64 (b % 9223372036854775808)) ∧ w' = W := by
  have hx := x_from64
  have hy := x_bits64
  have ha := andNot_top b hb
  have ht : ((b % 9223372036854775808 : Nat) : Int).toNat = b % 9223372036854775808 := Int.toNat_natCast _
  generalize b % 9223372036854775808 = c at *
  go_enter Try.func19, Try.ntmps19
  go_wp2
  go_ret
  exact ⟨rfl, rfl⟩

/-- 2^128 - 2^103: what is as great as that is rounded to an infinite float of 4 bytes. -/
theorem great_rg {M : Nat} (h : szM 33554431 103 ≤ M) : rg single M = single.infRung := by
  have h1 := rg_mono single h
  have h2 : rg single (szM 33554431 103) = single.infRung := by decide +kernel
  have h3 : rg single M ≤ single.infRung := Nat.min_le_right ..
  omega
theorem small_rg {M : Nat} (h : M < szM 33554431 103) : rg single M < single.infRung := by
  have h1 := rg_mono single (Nat.le_sub_one_of_lt h)
  have h2 : rg single (szM 33554431 103 - 1) < single.infRung := by decide +kernel
  omega
theorem read_tooGreat : double.read 5183643170835005440 = .number false (33554431 * 2 ^ 28) 75 := by decide +kernel
theorem sz_tooGreat : szM (33554431 * 2 ^ 28) 75 = szM 33554431 103 := by decide +kernel

/-- The word without its sign. -/
theorem read_abs_num {b : Nat} {s : Bool} {m : Nat} {e : Int} (h : double.read b = .number s m e) : double.read (b % 9223372036854775808) = .number false m e := by
  have e1 : (b % 9223372036854775808) / 9223372036854775808 % 2 = 0 := by omega
  have e2 : (b % 9223372036854775808) % 9223372036854775808 = b % 9223372036854775808 := Nat.mod_mod _ _
  unfold Format.read at h ⊢
  simp only [double_sw, e1, e2] at h ⊢
  split at h
  · rename_i hh; cases h; rw [if_pos hh]; rfl
  · rename_i hh; rw [if_neg hh]
    split at h
    · rename_i hh; cases h; rw [if_pos hh]; rfl
    · split at h <;> cases h
theorem read_abs_inf {b : Nat} {s : Bool} (h : double.read b = .infinity s) : double.read (b % 9223372036854775808) = .infinity false := by
  have e1 : (b % 9223372036854775808) / 9223372036854775808 % 2 = 0 := by omega
  have e2 : (b % 9223372036854775808) % 9223372036854775808 = b % 9223372036854775808 := Nat.mod_mod _ _
  unfold Format.read at h ⊢
  simp only [double_sw, e1, e2] at h ⊢
  split at h
  · cases h
  · rename_i hh; rw [if_neg hh]
    split at h
    · cases h
    · rename_i hh; rw [if_neg hh]
      split at h
      · rename_i hh; rw [if_pos hh]; rfl
      · cases h
/-- The sign of a word. -/
theorem read_sign {b : Nat} {s : Bool} (h : (double.read b).neg = s) : (b / 9223372036854775808 % 2 == 1) = s := by
  rw [← h]
  unfold Format.read
  simp only [double_sw]
  split
  · rfl
  · split
    · rfl
    · split <;> rfl

theorem narrow_inf (c : Nat) (s : Bool) (W : World) (hb : c < 18446744073709551616) (hn : nan8 c = false) (hs : (double.read c).neg = s)
    (ho : FloatKind.f64.format.order (c % 9223372036854775808) 5183643170835005440 = some .gt ∨ FloatKind.f64.format.order (c % 9223372036854775808) 5183643170835005440 = some .eq) :
    Calls Try.prog 10 #[.int .u64 (c : Int)] W fun e w' => e = .returned (.int .u32 (single.word s single.infRung : Nat)) ∧ w' = W := by
  have hx := x_from64
  have ht : (c : Int).toNat = c := Int.toNat_natCast c
  have hq : (c : Int) / 9223372036854775808 = if s then 1 else 0 := by
    have := read_sign hs
    cases s <;> simp at this ⊢ <;> omega
  have HQ : Hid ((c : Int) / 9223372036854775808 = if s then 1 else 0) := hq
  clear hs hq
  rcases ho with ho | ho
  all_goals
    go_enter Try.func10, Try.ntmps10
    go_wp2_with (first | (go_at_call 23; refine (isNaN_any _ _).mono ?_; rintro e w' ⟨rfl, rfl⟩) | (go_at_call 19; refine (abs_any _ _ hb).mono ?_; rintro e w' ⟨rfl, rfl⟩))
    go_ret
    refine ⟨ret_int ?_, rfl⟩
    rw [HQ.out]
    cases s <;> decide
theorem narrow_num (c : Nat) (s : Bool) (m : Nat) (e : Int) (W : World) (hb : c < 18446744073709551616) (hd : double.read c = .number s m e) (hl : szM m e < szM 33554431 103) :
    Calls Try.prog 10 #[.int .u64 (c : Int)] W fun r w' => r = .returned (.int .u32 (single.nearest s m e : Nat)) ∧ w' = W := by
  have hp := (read_place _ (.inr rfl) c hd).1
  have hx := x_from64
  have hy := x_bits32
  have ht : (c : Int).toNat = c := Int.toNat_natCast c
  have hn : nan8 c = false := by unfold nan8; rw [hd]; rfl
  have ho : FloatKind.f64.format.order (c % 9223372036854775808) 5183643170835005440 = some .lt := by
    rw [ord_to (read_abs_num hd) hp read_tooGreat (by decide), sz_tooGreat]
    refine congrArg some (cmp_lt ?_)
    unfold sg; simp only [Bool.false_eq_true, if_false]; omega
  have e1 : single.nearest s m e = single.word s (rg single (szM m e)) := nearest_eq single (.inl rfl) s m e hp
  have hv : floatToFloatBits .f64 c .f32 = some (single.nearest s m e) := by
    have hdd : FloatKind.f64.decode c = .number s m e := hd
    unfold floatToFloatBits
    rw [if_neg (by decide), hdd]
    simp only
    rw [if_neg]
    · rfl
    · obtain ⟨m', e', h1, _⟩ := word_read_num single (.inl rfl) s _ (small_rg hl)
      have hd2 : FloatKind.f32.decode (FloatKind.f32.encode (.number s m e)) = .number s m' e' := by
        show single.read (single.nearest s m e) = _
        rw [e1]; exact h1
      rw [hd2]; simp [Datum.isInfinity]
  have hc := run_convert_float_float (P := Try.prog) W 23 25 .f64 .f32 c _ (by rw [Try.underlying23]; rfl) Try.underlying25 hv
  generalize single.nearest s m e = r at *
  clear hd hl e1 hv hp
  go_enter Try.func10, Try.ntmps10
  go_wp2_with (first | (go_at_call 23; refine (isNaN_any _ _).mono ?_; rintro e w' ⟨rfl, rfl⟩) | (go_at_call 19; refine (abs_any _ _ hb).mono ?_; rintro e w' ⟨rfl, rfl⟩))
  go_ret
  exact ⟨rfl, rfl⟩
theorem narrow_nan (c : Nat) (W : World) (hn : nan8 c = true) :
    Calls Try.prog 10 #[.int .u64 (c : Int)] W fun r w' => r = .returned (.int .u32 2143289344) ∧ w' = W := by
  have hx := x_from64
  have ht : (c : Int).toNat = c := Int.toNat_natCast c
  go_enter Try.func10, Try.ntmps10
  go_wp2_with (first | (go_at_call 23; refine (isNaN_any _ _).mono ?_; rintro e w' ⟨rfl, rfl⟩))
  go_ret
  exact ⟨rfl, rfl⟩
theorem narrow_any (c : Nat) (W : World) (hb : c < 18446744073709551616) :
    Calls Try.prog 10 #[.int .u64 (c : Int)] W fun r w' => r = .returned (.int .u32 (nwV c : Nat)) ∧ w' = W := by
  unfold nwV
  cases hd : double.read c with
  | nan s t => exact narrow_nan c W (by unfold nan8; rw [hd]; rfl)
  | infinity s =>
    refine narrow_inf c s W hb (by unfold nan8; rw [hd]; rfl) (by rw [hd]; rfl) (.inl ?_)
    exact ord_inf (read_abs_inf hd) read_tooGreat
  | number s m e =>
    have hp := (read_place _ (.inr rfl) c hd).1
    by_cases hl : szM m e < szM 33554431 103
    · exact narrow_num c s m e W hb hd hl
    · have e1 : single.nearest s m e = single.word s (rg single (szM m e)) := nearest_eq single (.inl rfl) s m e hp
      show Calls Try.prog 10 #[.int .u64 (c : Int)] W fun r w' => r = .returned (.int .u32 (single.nearest s m e : Nat)) ∧ w' = W
      rw [e1, great_rg (Nat.le_of_not_lt hl)]
      refine narrow_inf c s W hb (by unfold nan8; rw [hd]; rfl) (by rw [hd]; rfl) ?_
      rw [ord_to (read_abs_num hd) hp read_tooGreat (by decide), sz_tooGreat]
      by_cases heq : szM m e = szM 33554431 103
      · right; rw [heq]; exact congrArg some (cmp_eq rfl)
      · left; refine congrArg some (cmp_gt ?_); unfold sg; simp only [Bool.false_eq_true, if_false]; omega

theorem float4_any (n : Int) (W : World) : Calls Try.prog 14 #[.int .i64 n, .int .i64 4] W fun e w' => e = .returned (.tuple #[.int .u64 (single.nearest (n < 0) n.natAbs 0 : Nat), .int .i64 0]) ∧ w' = W := by
  have hy := x_bits32
  have hl : single.nearest (n < 0) n.natAbs 0 < 4294967296 := single.nearest_lt _ _ _
  have hf : floatOfInt .f32 n = single.nearest (n < 0) n.natAbs 0 := rfl
  generalize single.nearest (n < 0) n.natAbs 0 = r at *
  have hw : IntKind.u64.wrap (r : Int) = r := by simp [IntKind.wrap, IntKind.bits, IntKind.signed]; omega
  go_enter Try.func14, Try.ntmps14
  go_wp2
  go_ret2
  exact ⟨rfl, rfl⟩
theorem float8_any (n : Int) (W : World) : Calls Try.prog 14 #[.int .i64 n, .int .i64 8] W fun e w' => e = .returned (.tuple #[.int .u64 (double.nearest (n < 0) n.natAbs 0 : Nat), .int .i64 0]) ∧ w' = W := by
  have hy := x_bits64
  have hf : floatOfInt .f64 n = double.nearest (n < 0) n.natAbs 0 := rfl
  generalize double.nearest (n < 0) n.natAbs 0 = r at *
  go_enter Try.func14, Try.ntmps14
  go_wp2
  go_ret2
  exact ⟨rfl, rfl⟩
theorem float_no (n w : Int) (W : World) (h4 : w ≠ 4) (h8 : w ≠ 8) : Calls Try.prog 14 #[.int .i64 n, .int .i64 w] W fun e w' => e = .returned (.tuple #[.int .u64 0, .int .i64 2]) ∧ w' = W := by
  go_enter Try.func14, Try.ntmps14
  go_wp2
  go_ret2
  exact ⟨rfl, rfl⟩
theorem floatU4_any (n : Int) (W : World) : Calls Try.prog 15 #[.int .u64 n, .int .i64 4] W fun e w' => e = .returned (.tuple #[.int .u64 (single.nearest (n < 0) n.natAbs 0 : Nat), .int .i64 0]) ∧ w' = W := by
  have hy := x_bits32
  have hl : single.nearest (n < 0) n.natAbs 0 < 4294967296 := single.nearest_lt _ _ _
  have hf : floatOfInt .f32 n = single.nearest (n < 0) n.natAbs 0 := rfl
  generalize single.nearest (n < 0) n.natAbs 0 = r at *
  have hw : IntKind.u64.wrap (r : Int) = r := by simp [IntKind.wrap, IntKind.bits, IntKind.signed]; omega
  go_enter Try.func15, Try.ntmps15
  go_wp2
  go_ret2
  exact ⟨rfl, rfl⟩
theorem floatU8_any (n : Int) (W : World) : Calls Try.prog 15 #[.int .u64 n, .int .i64 8] W fun e w' => e = .returned (.tuple #[.int .u64 (double.nearest (n < 0) n.natAbs 0 : Nat), .int .i64 0]) ∧ w' = W := by
  have hy := x_bits64
  have hf : floatOfInt .f64 n = double.nearest (n < 0) n.natAbs 0 := rfl
  generalize double.nearest (n < 0) n.natAbs 0 = r at *
  go_enter Try.func15, Try.ntmps15
  go_wp2
  go_ret2
  exact ⟨rfl, rfl⟩
theorem floatU_no (n w : Int) (W : World) (h4 : w ≠ 4) (h8 : w ≠ 8) : Calls Try.prog 15 #[.int .u64 n, .int .i64 w] W fun e w' => e = .returned (.tuple #[.int .u64 0, .int .i64 2]) ∧ w' = W := by
  go_enter Try.func15, Try.ntmps15
  go_wp2
  go_ret2
  exact ⟨rfl, rfl⟩

theorem nan_no (b n : Int) (W : World) (h4 : n ≠ 4) (h8 : n ≠ 8) : Calls Try.prog 20 #[.int .u64 b, .int .i64 n] W fun e w' => e = .returned (.tuple #[.bool false, .int .i64 2]) ∧ w' = W := by
  have hz : nan8 0 = false := by decide +kernel
  go_enter Try.func20, Try.ntmps20
  go_wp2_with (first | (go_at_call 25; refine (floatOf_no _ _ _ h4 h8).mono ?_; rintro e w' ⟨rfl, rfl⟩) | (go_at_call 23; refine (isNaN_any _ _).mono ?_; rintro e w' ⟨rfl, rfl⟩))
  go_ret2
  exact ⟨rfl, rfl⟩
theorem nan_big (b : Int) (W : World) (h : 4294967296 ≤ b) : Calls Try.prog 20 #[.int .u64 b, .int .i64 4] W fun e w' => e = .returned (.tuple #[.bool false, .int .i64 3]) ∧ w' = W := by
  have hz : nan8 0 = false := by decide +kernel
  go_enter Try.func20, Try.ntmps20
  go_wp2_with (first | (go_at_call 25; refine (floatOf_big _ _ h).mono ?_; rintro e w' ⟨rfl, rfl⟩) | (go_at_call 23; refine (isNaN_any _ _).mono ?_; rintro e w' ⟨rfl, rfl⟩))
  go_ret2
  exact ⟨rfl, rfl⟩
theorem same_nan {d : Datum} {x : Nat} (h : Same d x) : nan8 x = d.isNaN := by
  cases d with
  | nan s t => exact h
  | infinity s => unfold nan8; rw [show double.read x = .infinity s from h]
  | number s m e => obtain ⟨m', e', h1, _⟩ := h; unfold nan8; rw [h1]; rfl
theorem nan_yes (b n : Int) (W : World) (h0 : 0 ≤ b) (h : n = 8 ∨ (n = 4 ∧ b < 4294967296)) : Calls Try.prog 20 #[.int .u64 b, .int .i64 n] W fun e w' => e = .returned (.tuple #[.bool ((fmt n).read b.toNat).isNaN, .int .i64 0]) ∧ Below W.heap.size W w' := by
  have HF : Hid (∀ W, Calls Try.prog 25 #[.int .u64 b, .int .i64 n] W fun e w' => ∃ x, e = .returned (.tuple #[.float .f64 x, .int .i64 0]) ∧ Same ((fmt n).read b.toNat) x ∧ Below W.heap.size W w') := fun W => floatOf_any b n W h0 h
  clear h0 h
  generalize (fmt n).read b.toNat = d at *
  go_enter Try.func20, Try.ntmps20
  go_wp2_with (first | (go_at_call 25; refine Calls.mono (HF.out _) ?_; rintro e w' ⟨x, rfl, hs, hb⟩; have hn := same_nan hs; clear hs) | (go_at_call 23; refine (isNaN_any _ _).mono ?_; rintro e w' ⟨rfl, rfl⟩))
  go_ret2
  exact ⟨rfl, by assumption⟩

theorem lives_c1 (W : World) : Calls Try.prog 21 #[.int .i64 300, .int .i64 1, .bool false] W fun e w' => e = .returned (.tuple #[.int .u64 255, .int .i64 0]) ∧ w' = W :=
  clamp_yes 300 1 false W (by decide) (by decide) (by decide) (by decide)
theorem lives_c2 (W : World) : Calls Try.prog 21 #[.int .i64 (-300), .int .i64 1, .bool true] W fun e w' => e = .returned (.tuple #[.int .u64 128, .int .i64 0]) ∧ w' = W :=
  clamp_yes (-300) 1 true W (by decide) (by decide) (by decide) (by decide)
theorem lives_f0 : single.nearest false 16777217 0 = 1266679808 := by decide +kernel
theorem lives_f1 (W : World) : Calls Try.prog 14 #[.int .i64 16777217, .int .i64 4] W fun e w' => e = .returned (.tuple #[.int .u64 1266679808, .int .i64 0]) ∧ w' = W := by
  have h := float4_any 16777217 W
  have e : single.nearest (decide ((16777217 : Int) < 0)) (16777217 : Int).natAbs 0 = 1266679808 := lives_f0
  rw [e] at h; exact h
theorem lives_w0 : single.read 4290772993 = .nan true 4194305 := by decide +kernel
theorem lives_w1 (W : World) : Calls Try.prog 12 #[.int .u32 4290772993] W fun e w' => e = .returned (.int .u64 9221120237041090560) ∧ Below W.heap.size W w' := by
  have h := widen_any 4290772993 W (by decide) (by decide)
  have e : wdV (4290772993 : Int).toNat = 9221120237041090560 := by
    show wdV 4290772993 = _
    unfold wdV; rw [lives_w0]
  rw [e] at h; exact h
theorem lives_any (W : World) : Calls Try.prog 16 #[] W fun e w' => e = .returned (.bool true) ∧ Below W.heap.size W w' := by
  go_enter Try.func16, Try.ntmps16
  go_wp2_with fail
  refine (lives_c1 _).mono ?_
  rintro e w' ⟨rfl, rfl⟩
  go_wp2_with fail
  refine (lives_c2 _).mono ?_
  rintro e w' ⟨rfl, rfl⟩
  go_wp2_with (first | (go_at_call 14; refine (lives_f1 _).mono ?_; rintro e w' ⟨rfl, rfl⟩) | (go_at_call 12; refine (lives_w1 _).mono ?_; rintro e w' ⟨rfl, hb⟩))
  go_ret
  exact ⟨rfl, by assumption⟩
end Go.Proofs.Ytanchgbpnioomab

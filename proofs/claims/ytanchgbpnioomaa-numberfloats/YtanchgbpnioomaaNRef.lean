/-
  Walks of the document's length, shifted, Apart and Round. No conditions but that the arguments fit their kinds.
-/
import Derived.Test.YtanchgbpnioomaaNWithin
import Derived.Test.YtanchgbpnioomaaNWiden
import Derived.Deep.QuietTactic
import Derived.BigQuiet
namespace Go.Proofs.Ytanchgbpnioomaa
open Go.RowKit Ieee
set_option linter.unusedVariables false
set_option maxRecDepth 100000
set_option maxHeartbeats 1000000

/-- How many digits to the base 2. -/
def len2 (u : Nat) : Nat := if u = 0 then 0 else u.log2 + 1
theorem len2_half (u : Nat) (h : u ≠ 0) : len2 u = len2 (u / 2) + 1 := by
  unfold len2
  rw [if_neg h]
  by_cases h1 : u / 2 = 0
  · rw [if_pos h1]
    have : u = 1 := by omega
    subst this; rfl
  · rw [if_neg h1]
    have := Nat.log2_def u
    rw [this, if_pos (by omega)]
theorem len2_le (u : Nat) (h : u < 18446744073709551616) : len2 u ≤ 64 := by
  unfold len2
  split
  · omega
  · rename_i h0
    have := (Nat.log2_lt h0 (k := 64)).2 h
    omega

theorem length_any (u : Nat) (W : World) (hu : u < 18446744073709551616) :
    Calls Try.prog 35 #[.int .u64 (u : Int)] W fun e w' => e = .returned (.int .i64 (len2 u : Nat)) ∧ w' = W := by
  have hl := len2_le u hu
  go_enter Try.func35, Try.ntmps35
  go_wp2
  go_loop [0, 3] (fun v i => ∃ x k : Nat, x < 18446744073709551616 ∧ k + len2 x = len2 u ∧ v = .int .u64 (x : Int) ∧ i = .int .i64 (k : Int)) (fun v _ => (intOf v).toNat)
  case atStart => exact ⟨u, 0, hu, by omega, rfl, rfl⟩
  case round =>
    obtain ⟨x, k, hx, hk, rfl, rfl⟩ := hrel
    by_cases h0 : 0 < x
    · have h2 := len2_half x (by omega)
      have hk2 : Hid (k + 1 + len2 (x / 2) = len2 u) := by show _ = _; omega
      have hk3 : (k : Int) < 64 := by omega
      have HL : Hid (len2 u ≤ 64) := hl
      have HH : Hid (((x : Int) / 2) = ((x / 2 : Nat) : Int)) := by show _ = _; omega
      clear hl hk h2
      go_wp2
      go_round
      case rel => exact ⟨x / 2, k + 1, by omega, hk2.out, by rw [HH.out], by go_num⟩
      case measure => simp [intOf]; omega
    · have e : x = 0 := by omega
      have e2 : Hid (k = len2 u) := by show _ = _; rw [e] at hk; have : len2 0 = 0 := rfl; omega
      have hx0 : (x : Int) = 0 := by omega
      clear hk hl hx h0 e
      go_wp2
      go_ret
      exact ⟨by rw [← e2.out]; rfl, rfl⟩

/-- The half of a power. -/
theorem rne_over (u n : Nat) (hu : u < 18446744073709551616) (hn : 64 < n) : rne u n = 0 := by
  have h1 : 2 ^ 65 ≤ 2 ^ n := Nat.pow_le_pow_right (by decide) (by omega)
  have h2 : (2 : Nat) ^ 65 = 36893488147419103232 := by decide
  unfold rne
  rw [Nat.div_eq_of_lt (by omega), Nat.mod_eq_of_lt (by omega), if_neg (by omega)]
theorem rne_half (u n : Nat) (hn : 0 < n) : rne u n = u / 2 ^ n + (if 2 ^ (n - 1) < u % 2 ^ n ∨ (u % 2 ^ n = 2 ^ (n - 1) ∧ u / 2 ^ n % 2 = 1) then 1 else 0) := by
  have h : 2 ^ n = 2 * 2 ^ (n - 1) := by
    conv => lhs; rw [show n = (n - 1) + 1 from by omega, Nat.pow_succ, Nat.mul_comm]
  unfold rne
  congr 1
  by_cases hc : 2 ^ (n - 1) < u % 2 ^ n ∨ (u % 2 ^ n = 2 ^ (n - 1) ∧ u / 2 ^ n % 2 = 1)
  · rw [if_pos hc, if_pos (by omega)]
  · rw [if_neg hc, if_neg (by omega)]

theorem shifted_over (u n : Int) (W : World) (hn : 64 < n) :
    Calls Try.prog 45 #[.int .u64 u, .int .i64 n] W fun e w' => e = .returned (.int .u64 0) ∧ w' = W := by
  go_enter Try.func45, Try.ntmps45
  go_wp2
  go_ret
  exact ⟨rfl, rfl⟩
theorem shifted_64 (u : Nat) (W : World) (hu : u < 18446744073709551616) :
    Calls Try.prog 45 #[.int .u64 (u : Int), .int .i64 64] W fun e w' => e = .returned (.int .u64 (rne u 64 : Nat)) ∧ w' = W := by
  have hr : rne u 64 = if 9223372036854775808 < u then 1 else 0 := by
    rw [rne_half u 64 (by decide)]
    rw [show (2 : Nat) ^ 64 = 18446744073709551616 from by decide, show (2 : Nat) ^ (64 - 1) = 9223372036854775808 from by decide, Nat.div_eq_of_lt hu, Nat.mod_eq_of_lt hu]
    split <;> split <;> omega
  by_cases hgt : 9223372036854775808 < u
  · rw [if_pos hgt] at hr
    have HR : Hid (1 = ((rne u 64 : Nat) : Int)) := by show _ = _; rw [hr]; rfl
    have hgi : (9223372036854775808 : Int) < u := by omega
    clear hr hgt
    go_enter Try.func45, Try.ntmps45
    go_wp2_with (go_at_call 33; refine (power_any _ _ (by decide) (by decide)).mono ?_; rintro e w' ⟨rfl, rfl⟩)
    go_ret
    exact ⟨ret_int HR.out, rfl⟩
  · rw [if_neg hgt] at hr
    have HR : Hid (0 = ((rne u 64 : Nat) : Int)) := by show _ = _; rw [hr]; rfl
    have hgi : (u : Int) ≤ 9223372036854775808 := by omega
    clear hr hgt
    go_enter Try.func45, Try.ntmps45
    go_wp2_with (go_at_call 33; refine (power_any _ _ (by decide) (by decide)).mono ?_; rintro e w' ⟨rfl, rfl⟩)
    all_goals (go_ret; exact ⟨ret_int HR.out, rfl⟩)
theorem below_drewN (W : World) (k : Nat) : Below W.heap.size W (W.drewN k) := ⟨rfl, rfl, rfl, Nat.le_refl _, fun _ _ => rfl⟩
theorem shifted_core (u n p h q r : Int) (W : World) (hpi : (2 : Int) ^ n.toNat = p) (hhi : (2 : Int) ^ (n.toNat - 1) = h) (hn0 : 0 < n) (hn1 : n < 64) (hp : ¬ p = 0) (hpp : 0 < p) (hq : u / p = q) (hr : u % p = r) (hq0 : 0 ≤ q) (hq2 : q < 9223372036854775808) (hu0 : 0 ≤ u) (hu1 : u < 18446744073709551616) :
    Calls Try.prog 45 #[.int .u64 u, .int .i64 n] W fun e w' => e = .returned (.int .u64 (if h < r ∨ (r = h ∧ q % 2 = 1) then q + 1 else q)) ∧ Below W.heap.size W w' := by
  by_cases c1 : h < r
  · rw [if_pos (.inl c1)]
    go_enter Try.func45, Try.ntmps45
    go_wp2
    go_quiet ((go_at_call 33; exact Calls.quiet_of_same (power_any _ _ (by omega) (by omega))))
    go_wp2
    go_ret
    first | exact ⟨rfl, below_drewN _ _⟩ | exact ⟨ret_int hq, below_drewN _ _⟩
  · by_cases c2 : r = h
    · have hqq : q % 2 = 0 ∨ q % 2 = 1 := by omega
      rcases hqq with c3 | c3
      · rw [if_neg (by omega)]
        go_enter Try.func45, Try.ntmps45
        go_wp2
        go_quiet ((go_at_call 33; exact Calls.quiet_of_same (power_any _ _ (by omega) (by omega))))
        go_wp2
        go_ret
        first | exact ⟨rfl, below_drewN _ _⟩ | exact ⟨ret_int hq, below_drewN _ _⟩
      · rw [if_pos (.inr ⟨c2, c3⟩)]
        go_enter Try.func45, Try.ntmps45
        go_wp2
        go_quiet ((go_at_call 33; exact Calls.quiet_of_same (power_any _ _ (by omega) (by omega))))
        go_wp2
        go_ret
        first | exact ⟨rfl, below_drewN _ _⟩ | exact ⟨ret_int hq, below_drewN _ _⟩
    · rw [if_neg (by omega)]
      go_enter Try.func45, Try.ntmps45
      go_wp2
      go_quiet ((go_at_call 33; exact Calls.quiet_of_same (power_any _ _ (by omega) (by omega))))
      go_wp2
      go_ret
      first | exact ⟨rfl, below_drewN _ _⟩ | exact ⟨ret_int hq, below_drewN _ _⟩
theorem shifted_any (u n : Nat) (W : World) (hu : u < 18446744073709551616) (h0 : 0 < n) :
    Calls Try.prog 45 #[.int .u64 (u : Int), .int .i64 (n : Int)] W fun e w' => e = .returned (.int .u64 (rne u n : Nat)) ∧ Below W.heap.size W w' := by
  by_cases h64 : n < 64
  · have h2n : (2 : Nat) ^ n = 2 * 2 ^ (n - 1) := by
      conv => lhs; rw [show n = (n - 1) + 1 from by omega, Nat.pow_succ, Nat.mul_comm]
    have hp1 := two_pos (n - 1)
    have hp := two_pos n
    have hc : ((2 : Int) ^ n) = ((2 ^ n : Nat) : Int) := by simp
    have hc1 : ((2 : Int) ^ (n - 1)) = ((2 ^ (n - 1) : Nat) : Int) := by simp
    have hqb : u / 2 ^ n ≤ u / 2 := Nat.div_le_div_left (by omega) (by decide)
    have hqb2 : u / 2 ^ n < 9223372036854775808 := by omega
    have := shifted_core (u : Int) (n : Int) ((2 ^ n : Nat) : Int) ((2 ^ (n - 1) : Nat) : Int) ((u / 2 ^ n : Nat) : Int) ((u % 2 ^ n : Nat) : Int) W
      (by rw [Int.toNat_natCast]; exact hc) (by rw [Int.toNat_natCast]; exact hc1) (by omega) (by omega) (by omega) (by omega)
      (Int.natCast_ediv _ _).symm (Int.natCast_emod _ _).symm (Int.natCast_nonneg _) (Int.ofNat_lt.2 hqb2) (by omega) (by omega)
    refine this.mono fun e w' ⟨he, hb⟩ => ⟨?_, hb⟩
    rw [he, rne_half u n h0]
    refine ret_int ?_
    generalize u / 2 ^ n = q
    generalize u % 2 ^ n = r
    generalize 2 ^ (n - 1) = h
    split <;> split <;> omega
  · by_cases h65 : n = 64
    · subst h65
      exact (shifted_64 u W hu).mono fun e w' ⟨he, hb⟩ => ⟨he, by rw [hb]; exact Below.refl _ _⟩
    · refine (shifted_over (u : Int) (n : Int) W (by omega)).mono fun e w' ⟨he, hb⟩ => ⟨?_, by rw [hb]; exact Below.refl _ _⟩
      rw [he, rne_over u n hu (by omega)]; rfl

/-- What is told of a float. -/
def kindN : Datum → Int | .number .. => 0 | .infinity _ => 1 | .nan .. => 2
def wholeN : Datum → Nat | .number _ m _ => m | _ => 0
def scaleN : Datum → Int | .number _ _ e => e | _ => 0
theorem results_tmp4 {fn : Func} {t u v y : Tmp} (h : fn.results = #[.tmp t, .tmp u, .tmp v, .tmp y]) (tmps : Array Value) (P : Program) (w : World) :
    (results fn tmps).run P w = .ok (.tuple #[tmps.getD t undef, tmps.getD u undef, tmps.getD v undef, tmps.getD y undef]) w := by
  simp [results, h]
theorem ret_four {a a' : Int} {b b' : Bool} {c c' d d' : Int} (h1 : a = a') (h2 : b = b') (h3 : c = c') (h4 : d = d') :
    Ending.returned (.tuple #[.int .i64 a, .bool b, .int .u64 c, .int .i64 d]) = .returned (.tuple #[.int .i64 a', .bool b', .int .u64 c', .int .i64 d']) := by rw [h1, h2, h3, h4]
theorem read_parts8 (b : Int) (h0 : 0 ≤ b) (h1 : b < 18446744073709551616) (f x s : Int) (hf : b % 4503599627370496 = f) (hx : b / 4503599627370496 % 2048 = x) (hs : b / 9223372036854775808 % 2 = s) :
    double.read b.toNat = if x = 2047 then (if f = 0 then .infinity (s == 1) else .nan (s == 1) f.toNat) else if x = 0 then .number (s == 1) f.toNat (-1074) else .number (s == 1) (4503599627370496 + f).toNat (-1074 + x - 1) := by
  have es : (b.toNat / 9223372036854775808 % 2 == 1) = (s == 1) := by
    by_cases hh : s = 1
    · rw [hh]; simp; omega
    · have : s = 0 := by omega
      rw [this]; simp; omega
  have er : (b.toNat % 9223372036854775808 : Nat) = (x * 4503599627370496 + f).toNat := by omega
  unfold Format.read
  simp only [double_bin, double_inf, double_sw, double_lp, es, er]
  by_cases c1 : x = 0
  · have e3 : (x * 4503599627370496 + f).toNat = f.toNat := by omega
    rw [if_pos (by omega), if_neg (by omega), if_pos c1, e3]
  · rw [if_neg (by omega)]
    by_cases c2 : x = 2047
    · rw [if_neg (by omega), if_pos c2]
      by_cases c3 : f = 0
      · rw [if_pos (by omega), if_pos c3]
      · have e3 : (x * 4503599627370496 + f).toNat - 9218868437227405312 = f.toNat := by omega
        rw [if_neg (by omega), if_neg c3, e3]
    · have e3 : 4503599627370496 + (x * 4503599627370496 + f).toNat % 4503599627370496 = (4503599627370496 + f).toNat := by omega
      have e4 : (-1074 : Int) + (((x * 4503599627370496 + f).toNat / 4503599627370496 - 1 : Nat) : Int) = -1074 + x - 1 := by omega
      rw [if_pos (by omega), if_neg c2, if_neg c1, e3, e4]
theorem apart8 (b : Int) (W : World) (h0 : 0 ≤ b) (h1 : b < 18446744073709551616) :
    Calls Try.prog 34 #[.int .u64 b, .int .i64 8] W fun e w' => e = .returned (.tuple #[.int .i64 (kindN (double.read b.toNat)), .bool (double.read b.toNat).neg, .int .u64 (wholeN (double.read b.toNat)), .int .i64 (scaleN (double.read b.toNat))]) ∧ Below W.heap.size W w' := by
  obtain ⟨f, hf⟩ : ∃ f, b % 4503599627370496 = f := ⟨_, rfl⟩
  obtain ⟨x, hx⟩ : ∃ x, b / 4503599627370496 % 2048 = x := ⟨_, rfl⟩
  obtain ⟨s, hs⟩ : ∃ s, b / 9223372036854775808 % 2 = s := ⟨_, rfl⟩
  have HR : Hid _ := read_parts8 b h0 h1 f x s hf hx hs
  have hx0 : 0 ≤ x := by omega
  have hx1 : x < 2048 := by omega
  have hf0 : 0 ≤ f := by omega
  have hf1 : f < 4503599627370496 := by omega
  generalize double.read b.toNat = d at *
  have hxi : x < 9223372036854775808 := by omega
  by_cases c2 : x = 2047
  · by_cases c3 : f = 0
    · have HD : Hid (d = .infinity (s == 1)) := by show _ = _; rw [HR.out, if_pos c2, if_pos c3]
      rw [HD.out]
      clear HR HD
      go_enter Try.func34, Try.ntmps34
      go_wp2_with (go_at_call 33; refine (power_any _ _ (by decide) (by decide)).mono ?_; rintro e w' ⟨rfl, rfl⟩)
      go_quiet ((go_at_call 33; exact Calls.quiet_of_same (power_any _ _ (by decide) (by decide))))
      go_wp2_with (go_at_call 33; refine (power_any _ _ (by decide) (by decide)).mono ?_; rintro e w' ⟨rfl, rfl⟩)
      try simp only [Exit.inBlock, Exit.then]
      refine bodyPost_ret (results_tmp4 rfl _ _ _) rfl ?_
      exact ⟨rfl, below_drewN _ _⟩
    · have HD : Hid (d = .nan (s == 1) f.toNat) := by show _ = _; rw [HR.out, if_pos c2, if_neg c3]
      rw [HD.out]
      clear HR HD
      go_enter Try.func34, Try.ntmps34
      go_wp2_with (go_at_call 33; refine (power_any _ _ (by decide) (by decide)).mono ?_; rintro e w' ⟨rfl, rfl⟩)
      go_quiet ((go_at_call 33; exact Calls.quiet_of_same (power_any _ _ (by decide) (by decide))))
      go_wp2_with (go_at_call 33; refine (power_any _ _ (by decide) (by decide)).mono ?_; rintro e w' ⟨rfl, rfl⟩)
      try simp only [Exit.inBlock, Exit.then]
      refine bodyPost_ret (results_tmp4 rfl _ _ _) rfl ?_
      exact ⟨rfl, below_drewN _ _⟩
  · by_cases c1 : x = 0
    · have HD : Hid (d = .number (s == 1) f.toNat (-1074)) := by show _ = _; rw [HR.out, if_neg c2, if_pos c1]
      rw [HD.out]
      clear HR HD
      go_enter Try.func34, Try.ntmps34
      go_wp2_with (go_at_call 33; refine (power_any _ _ (by decide) (by decide)).mono ?_; rintro e w' ⟨rfl, rfl⟩)
      go_quiet ((go_at_call 33; exact Calls.quiet_of_same (power_any _ _ (by decide) (by decide))))
      go_wp2_with (go_at_call 33; refine (power_any _ _ (by decide) (by decide)).mono ?_; rintro e w' ⟨rfl, rfl⟩)
      try simp only [Exit.inBlock, Exit.then]
      refine bodyPost_ret (results_tmp4 rfl _ _ _) rfl ?_
      exact ⟨ret_four rfl rfl (by show f = (f.toNat : Int); omega) rfl, below_drewN _ _⟩
    · have HD : Hid (d = .number (s == 1) (4503599627370496 + f).toNat (-1074 + x - 1)) := by show _ = _; rw [HR.out, if_neg c2, if_neg c1]
      rw [HD.out]
      clear HR HD
      go_enter Try.func34, Try.ntmps34
      go_wp2_with (go_at_call 33; refine (power_any _ _ (by decide) (by decide)).mono ?_; rintro e w' ⟨rfl, rfl⟩)
      go_quiet ((go_at_call 33; exact Calls.quiet_of_same (power_any _ _ (by decide) (by decide))))
      go_wp2_with (go_at_call 33; refine (power_any _ _ (by decide) (by decide)).mono ?_; rintro e w' ⟨rfl, rfl⟩)
      try simp only [Exit.inBlock, Exit.then]
      refine bodyPost_ret (results_tmp4 rfl _ _ _) rfl ?_
      exact ⟨ret_four rfl rfl (by show 4503599627370496 + f = ((4503599627370496 + f).toNat : Int); omega) rfl, below_drewN _ _⟩
theorem read_parts4 (b : Int) (h0 : 0 ≤ b) (h1 : b < 4294967296) (f x s : Int) (hf : b % 8388608 = f) (hx : b / 8388608 % 256 = x) (hs : b / 2147483648 % 2 = s) :
    single.read b.toNat = if x = 255 then (if f = 0 then .infinity (s == 1) else .nan (s == 1) f.toNat) else if x = 0 then .number (s == 1) f.toNat (-149) else .number (s == 1) (8388608 + f).toNat (-149 + x - 1) := by
  have es : (b.toNat / 2147483648 % 2 == 1) = (s == 1) := by
    by_cases hh : s = 1
    · rw [hh]; simp; omega
    · have : s = 0 := by omega
      rw [this]; simp; omega
  have er : (b.toNat % 2147483648 : Nat) = (x * 8388608 + f).toNat := by omega
  unfold Format.read
  simp only [single_bin, single_inf, single_sw, single_lp, es, er]
  by_cases c1 : x = 0
  · have e3 : (x * 8388608 + f).toNat = f.toNat := by omega
    rw [if_pos (by omega), if_neg (by omega), if_pos c1, e3]
  · rw [if_neg (by omega)]
    by_cases c2 : x = 255
    · rw [if_neg (by omega), if_pos c2]
      by_cases c3 : f = 0
      · rw [if_pos (by omega), if_pos c3]
      · have e3 : (x * 8388608 + f).toNat - 2139095040 = f.toNat := by omega
        rw [if_neg (by omega), if_neg c3, e3]
    · have e3 : 8388608 + (x * 8388608 + f).toNat % 8388608 = (8388608 + f).toNat := by omega
      have e4 : (-149 : Int) + (((x * 8388608 + f).toNat / 8388608 - 1 : Nat) : Int) = -149 + x - 1 := by omega
      rw [if_pos (by omega), if_neg c2, if_neg c1, e3, e4]
theorem apart4 (b : Int) (W : World) (h0 : 0 ≤ b) (h1 : b < 4294967296) :
    Calls Try.prog 34 #[.int .u64 b, .int .i64 4] W fun e w' => e = .returned (.tuple #[.int .i64 (kindN (single.read b.toNat)), .bool (single.read b.toNat).neg, .int .u64 (wholeN (single.read b.toNat)), .int .i64 (scaleN (single.read b.toNat))]) ∧ Below W.heap.size W w' := by
  obtain ⟨f, hf⟩ : ∃ f, b % 8388608 = f := ⟨_, rfl⟩
  obtain ⟨x, hx⟩ : ∃ x, b / 8388608 % 256 = x := ⟨_, rfl⟩
  obtain ⟨s, hs⟩ : ∃ s, b / 2147483648 % 2 = s := ⟨_, rfl⟩
  have HR : Hid _ := read_parts4 b h0 h1 f x s hf hx hs
  have hx0 : 0 ≤ x := by omega
  have hx1 : x < 256 := by omega
  have hf0 : 0 ≤ f := by omega
  have hf1 : f < 8388608 := by omega
  generalize single.read b.toNat = d at *
  have hxi : x < 9223372036854775808 := by omega
  by_cases c2 : x = 255
  · by_cases c3 : f = 0
    · have HD : Hid (d = .infinity (s == 1)) := by show _ = _; rw [HR.out, if_pos c2, if_pos c3]
      rw [HD.out]
      clear HR HD
      go_enter Try.func34, Try.ntmps34
      go_wp2_with (go_at_call 33; refine (power_any _ _ (by decide) (by decide)).mono ?_; rintro e w' ⟨rfl, rfl⟩)
      go_quiet ((go_at_call 33; exact Calls.quiet_of_same (power_any _ _ (by decide) (by decide))))
      go_wp2_with (go_at_call 33; refine (power_any _ _ (by decide) (by decide)).mono ?_; rintro e w' ⟨rfl, rfl⟩)
      try simp only [Exit.inBlock, Exit.then]
      refine bodyPost_ret (results_tmp4 rfl _ _ _) rfl ?_
      exact ⟨rfl, below_drewN _ _⟩
    · have HD : Hid (d = .nan (s == 1) f.toNat) := by show _ = _; rw [HR.out, if_pos c2, if_neg c3]
      rw [HD.out]
      clear HR HD
      go_enter Try.func34, Try.ntmps34
      go_wp2_with (go_at_call 33; refine (power_any _ _ (by decide) (by decide)).mono ?_; rintro e w' ⟨rfl, rfl⟩)
      go_quiet ((go_at_call 33; exact Calls.quiet_of_same (power_any _ _ (by decide) (by decide))))
      go_wp2_with (go_at_call 33; refine (power_any _ _ (by decide) (by decide)).mono ?_; rintro e w' ⟨rfl, rfl⟩)
      try simp only [Exit.inBlock, Exit.then]
      refine bodyPost_ret (results_tmp4 rfl _ _ _) rfl ?_
      exact ⟨rfl, below_drewN _ _⟩
  · by_cases c1 : x = 0
    · have HD : Hid (d = .number (s == 1) f.toNat (-149)) := by show _ = _; rw [HR.out, if_neg c2, if_pos c1]
      rw [HD.out]
      clear HR HD
      go_enter Try.func34, Try.ntmps34
      go_wp2_with (go_at_call 33; refine (power_any _ _ (by decide) (by decide)).mono ?_; rintro e w' ⟨rfl, rfl⟩)
      go_quiet ((go_at_call 33; exact Calls.quiet_of_same (power_any _ _ (by decide) (by decide))))
      go_wp2_with (go_at_call 33; refine (power_any _ _ (by decide) (by decide)).mono ?_; rintro e w' ⟨rfl, rfl⟩)
      try simp only [Exit.inBlock, Exit.then]
      refine bodyPost_ret (results_tmp4 rfl _ _ _) rfl ?_
      exact ⟨ret_four rfl rfl (by show f = (f.toNat : Int); omega) rfl, below_drewN _ _⟩
    · have HD : Hid (d = .number (s == 1) (8388608 + f).toNat (-149 + x - 1)) := by show _ = _; rw [HR.out, if_neg c2, if_neg c1]
      rw [HD.out]
      clear HR HD
      go_enter Try.func34, Try.ntmps34
      go_wp2_with (go_at_call 33; refine (power_any _ _ (by decide) (by decide)).mono ?_; rintro e w' ⟨rfl, rfl⟩)
      go_quiet ((go_at_call 33; exact Calls.quiet_of_same (power_any _ _ (by decide) (by decide))))
      go_wp2_with (go_at_call 33; refine (power_any _ _ (by decide) (by decide)).mono ?_; rintro e w' ⟨rfl, rfl⟩)
      try simp only [Exit.inBlock, Exit.then]
      refine bodyPost_ret (results_tmp4 rfl _ _ _) rfl ?_
      exact ⟨ret_four rfl rfl (by show 8388608 + f = ((8388608 + f).toNat : Int); omega) rfl, below_drewN _ _⟩
end Go.Proofs.Ytanchgbpnioomaa

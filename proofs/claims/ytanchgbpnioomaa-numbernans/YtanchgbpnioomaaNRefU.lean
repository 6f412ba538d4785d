/-
  The document's Trunc and Nan, whole; the laws NumberTruncs and NumberNans walked. No conditions but that the arguments fit their kinds.
-/
import Derived.Test.YtanchgbpnioomaaNRefT
import Derived.OpenShut
namespace Go.Proofs.Ytanchgbpnioomaa
open Go.RowKit Ieee
set_option linter.unusedVariables false
set_option maxRecDepth 100000
set_option maxHeartbeats 1000000

theorem fmt_or (n : Int) : fmt n = single ∨ fmt n = double := by unfold fmt; split <;> simp
theorem read_zero_place (f : Format) (hf : f = single ∨ f = double) (b : Nat) {s : Bool} {e : Int} (h : f.read b = .number s 0 e) : e < 0 := by
  have hb : 0 < f.binade := Nat.two_pow_pos _
  unfold Format.read at h
  simp only at h
  split at h
  · injection h with _ h2 h3; rw [← h3]; rcases hf with rfl | rfl <;> decide
  · split at h
    · injection h with _ h2 _; omega
    · split at h <;> cases h
theorem refTrunc_yes (b n w : Int) (s : Bool) (W : World) (h0 : 0 ≤ b) (hb1 : b < 18446744073709551616) (h : n = 8 ∨ (n = 4 ∧ b < 4294967296)) (h1 : 1 ≤ w) (h2 : w ≤ 8) :
    Calls Try.prog 15 #[.int .u64 b, .int .i64 n, .int .i64 w, .bool s] W fun e w' => e = .returned (.tuple #[.int .u64 (trV ((fmt n).read b.toNat) w s), .int .i64 0]) ∧ Below W.heap.size W w' := by
  have HA := fun W => apart_any b n W h0 hb1 h
  cases hd : (fmt n).read b.toNat with
  | nan t f => rw [hd] at HA; exact refTrunc_nan b n w s t W h h1 h2 HA
  | infinity t =>
    rw [hd] at HA
    have := refTrunc_inf b n w s t W h h1 h2 HA
    cases t
    · exact this
    · exact this
  | number t m e =>
    rw [hd] at HA
    obtain ⟨p1, p2, p3⟩ := read_place _ (fmt_or n) _ hd
    have hmt : m < 18446744073709551616 := by
      have : (fmt n).binade ≤ 4503599627370496 := by rcases fmt_or n with e | e <;> rw [e] <;> decide
      omega
    have hl0 : (len2 m : Int) ≤ 64 := by have := len2_le m hmt; omega
    have hval : ∀ v : Int, v = ((szM m e / kilo : Nat) : Int) → trV (.number t m e) w s = clV (if t then -v else v) w s := fun v hv => by
      show clV (sg t (szM m e / kilo)) w s = _
      rw [sg_if, hv]
    by_cases hm : m = 0
    · have he := read_zero_place _ (fmt_or n) _ (by rw [hm] at hd; exact hd)
      have hz : szM m e / kilo = 0 := by rw [hm]; unfold szM; rw [Nat.zero_mul, Nat.zero_div]
      rw [hval 0 (by rw [hz]; rfl), ← wi_small h1 h2 (by decide)]
      by_cases h64 : e ≤ -64
      · exact refTrunc_low b n w s t m e W h h1 h2 hmt p1 h64 hl0 HA
      · have hpp : (0 : Int) < 2 ^ (-e).toNat := Int.pow_pos (by decide)
        exact refTrunc_mid b n w s t m e _ 0 W h h1 h2 hmt (by omega) he hl0 rfl (by omega) hpp (by rw [hm]; exact Int.zero_ediv _) (by decide) (by decide) HA
    · have hmp : 0 < m := Nat.pos_of_ne_zero hm
      by_cases hg : 64 < (len2 m : Int) + e
      · have hq := great_size hmp hmt hg
        rw [hval _ rfl, ← wi_great h1 h2 (by generalize szM m e / kilo = q at hq; omega)]
        exact refTrunc_great b n w s t m e W h h1 h2 hmt p1 p2 hmp hl0 hg HA
      · by_cases he : 0 ≤ e
        · rw [hval _ (by rw [whole_up he]), ← wi_small h1 h2 (Int.natCast_nonneg _)]
          exact refTrunc_up b n w s t m e W h h1 h2 hmt he p2 hmp hl0 (by omega) (small_size he (by omega) hmp) HA
        · by_cases h64 : e ≤ -64
          · have hz : szM m e / kilo = 0 := by
              rw [whole_down (by omega) p1]
              refine Nat.div_eq_of_lt ?_
              have : 2 ^ 64 ≤ 2 ^ (-e).toNat := Nat.pow_le_pow_right (by decide) (by omega)
              omega
            rw [hval 0 (by rw [hz]; rfl), ← wi_small h1 h2 (by decide)]
            exact refTrunc_low b n w s t m e W h h1 h2 hmt p1 h64 hl0 HA
          · have hpp : (0 : Int) < 2 ^ (-e).toNat := Int.pow_pos (by decide)
            have hq : szM m e / kilo ≤ m := by rw [whole_down (by omega) p1]; exact Nat.div_le_self _ _
            rw [hval _ rfl, ← wi_small h1 h2 (Int.natCast_nonneg _)]
            have hq2 : ((szM m e / kilo : Nat) : Int) < 18446744073709551616 := by generalize szM m e / kilo = q at hq; omega
            refine refTrunc_mid b n w s t m e _ _ W h h1 h2 hmt (by omega) (by omega) hl0 rfl (by omega) hpp ?_ (Int.natCast_nonneg _) hq2 HA
            rw [whole_down (by omega) p1]
            simp

theorem refNan_no (b n : Int) (W : World) (h4 : n ≠ 4) (h8 : n ≠ 8) : Calls Try.prog 25 #[.int .u64 b, .int .i64 n] W fun e w' => e = .returned (.tuple #[.bool false, .int .i64 2]) ∧ w' = W := by
  have b4 : (n != 4) = true := by simp [h4]
  have b8 : (n != 8) = true := by simp [h8]
  clear h4 h8
  go_enter Try.func25, Try.ntmps25
  go_wp2
  go_ret2
  exact ⟨rfl, rfl⟩
theorem refNan_big (b : Int) (W : World) (h : 4294967296 ≤ b) : Calls Try.prog 25 #[.int .u64 b, .int .i64 4] W fun e w' => e = .returned (.tuple #[.bool false, .int .i64 3]) ∧ w' = W := by
  go_enter Try.func25, Try.ntmps25
  go_wp2_with (go_at_call 33; refine (power_any _ _ (by decide) (by decide)).mono ?_; rintro e w' ⟨rfl, rfl⟩)
  go_ret2
  exact ⟨rfl, rfl⟩
theorem kind_nan (d : Datum) : (kindN d == 2) = d.isNaN := by cases d <;> rfl
theorem refNan_yes (b n : Int) (W : World) (h0 : 0 ≤ b) (hb1 : b < 18446744073709551616) (h : n = 8 ∨ (n = 4 ∧ b < 4294967296)) : Calls Try.prog 25 #[.int .u64 b, .int .i64 n] W fun e w' => e = .returned (.tuple #[.bool ((fmt n).read b.toNat).isNaN, .int .i64 0]) ∧ Below W.heap.size W w' := by
  have HA : Hid _ := fun W => apart_any b n W h0 hb1 h
  have hk := kind_nan ((fmt n).read b.toNat)
  generalize (fmt n).read b.toNat = d at *
  rcases h with rfl | ⟨rfl, h⟩
  · go_enter Try.func25, Try.ntmps25
    go_wp2_with (first | (go_at_call 33; refine (power_any _ _ (by decide) (by decide)).mono ?_; rintro e w' ⟨rfl, rfl⟩) | (go_at_call 34; refine Calls.mono (HA.out _) ?_; rintro e w' ⟨rfl, hb⟩))
    go_ret2
    exact ⟨rfl, by assumption⟩
  · go_enter Try.func25, Try.ntmps25
    go_wp2_with (first | (go_at_call 33; refine (power_any _ _ (by decide) (by decide)).mono ?_; rintro e w' ⟨rfl, rfl⟩) | (go_at_call 34; refine Calls.mono (HA.out _) ?_; rintro e w' ⟨rfl, hb⟩))
    go_ret2
    exact ⟨rfl, by assumption⟩

theorem numberNans_walk (b n : Int) (W : World) (w0 : (Lit.int .u64 b).wf = true) (w1 : (Lit.int .i64 n).wf = true) :
    Calls Try.prog 8 #[.int .u64 b, .int .i64 n] W fun e w' => e = .returned (.bool true) ∧ Below W.heap.size W w' := by
  obtain ⟨hb0, hb1⟩ := bounds_u64 w0
  have hb2 : b < 18446744073709551616 := by omega
  clear w0 w1
  by_cases hn : n = 8 ∨ (n = 4 ∧ b < 4294967296)
  · have HN : Hid _ := hn
    have HB1 : Hid (b < 18446744073709551616) := hb2
    clear hn
    generalize hd : ((fmt n).read b.toNat).isNaN = nb
    have H1 : Hid (∀ W, Calls Try.prog 24 #[.int .u64 b, .int .i64 n] W fun e w' => e = .returned (.tuple #[.bool nb, .int .i64 0]) ∧ Below W.heap.size W w') := fun W => by rw [← hd]; exact nan_yes b n W hb0 HN.out
    have H2 : Hid (∀ W, Calls Try.prog 25 #[.int .u64 b, .int .i64 n] W fun e w' => e = .returned (.tuple #[.bool nb, .int .i64 0]) ∧ Below W.heap.size W w') := fun W => by rw [← hd]; exact refNan_yes b n W hb0 hb2 HN.out
    clear hd
    go_enter Try.func8, Try.ntmps8
    go_wp2_with (first | (go_at_call 24; refine Calls.mono (H1.out _) ?_; rintro e w2 ⟨rfl, hb2⟩) | (go_at_call 25; refine Calls.mono (H2.out _) ?_; rintro e w3 ⟨rfl, hb3⟩) | (go_at_call 13; refine (lives_any _).mono ?_; rintro e w4 ⟨rfl, hb4⟩))
    go_ret
    exact ⟨rfl, (‹Below W.heap.size W w2›).trans ((‹Below w2.heap.size w2 w3›.trans (‹Below w3.heap.size w3 w4›.mono ‹Below w2.heap.size w2 w3›.size)).mono ‹Below W.heap.size W w2›.size)⟩
  · by_cases h4 : n = 4
    · subst h4
      have hbig : 4294967296 ≤ b := by omega
      clear hn
      go_enter Try.func8, Try.ntmps8
      go_wp2_with (first | (go_at_call 24; refine (nan_big _ _ hbig).mono ?_; rintro e w2 ⟨rfl, rfl⟩) | (go_at_call 25; refine (refNan_big _ _ hbig).mono ?_; rintro e w3 ⟨rfl, rfl⟩) | (go_at_call 13; refine (lives_any _).mono ?_; rintro e w4 ⟨rfl, hb4⟩))
      go_ret
      exact ⟨rfl, by assumption⟩
    · have h8 : n ≠ 8 := by omega
      clear hn
      go_enter Try.func8, Try.ntmps8
      go_wp2_with (first | (go_at_call 24; refine (nan_no _ _ _ h4 h8).mono ?_; rintro e w2 ⟨rfl, rfl⟩) | (go_at_call 25; refine (refNan_no _ _ _ h4 h8).mono ?_; rintro e w3 ⟨rfl, rfl⟩) | (go_at_call 13; refine (lives_any _).mono ?_; rintro e w4 ⟨rfl, hb4⟩))
      go_ret
      exact ⟨rfl, by assumption⟩
end Go.Proofs.Ytanchgbpnioomaa

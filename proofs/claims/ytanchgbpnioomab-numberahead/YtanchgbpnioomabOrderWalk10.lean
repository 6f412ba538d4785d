/-
  The law NumberOrder walked. No conditions but that the arguments fit their kinds.
-/
import Derived.Test.YtanchgbpnioomabNWiden
import Derived.OpenShut
namespace Go.Proofs.Ytanchgbpnioomab
open Go.RowKit
set_option linter.unusedVariables false
set_option maxRecDepth 100000
set_option maxHeartbeats 1000000

/-- A number of a width as one with a sign. -/
def sgW (u w : Int) : Int := if u < 2 ^ (8 * w - 1).toNat then u else u - 2 ^ (8 * w).toNat
/-- An integer within the range with a sign. -/
def clI (n w : Int) : Int := max (loW w true) (min n (hiW w true))
theorem sgW_cl {n w : Int} (h1 : 1 ≤ w) (h2 : w ≤ 8) : sgW (clV n w true) w = clI n w := by
  rcases wOk_eight h1 h2 with rfl | rfl | rfl | rfl | rfl | rfl | rfl | rfl <;> simp [sgW, clV, clI, hiW, loW] <;> split <;> omega
theorem clV_lt (n w : Int) (s : Bool) : 0 ≤ clV n w s ∧ clV n w s < 2 ^ (8 * w).toNat := by
  have : (0 : Int) < 2 ^ (8 * w).toNat := Int.pow_pos (by decide)
  exact ⟨Int.emod_nonneg _ (by omega), Int.emod_lt_of_pos _ this⟩
theorem clI_twice (n w : Int) (h1 : 1 ≤ w) (h2 : w ≤ 8) : clV (clI n w) w true = clV n w true := by
  rcases wOk_eight h1 h2 with rfl | rfl | rfl | rfl | rfl | rfl | rfl | rfl <;> simp [clV, clI, hiW, loW] <;> omega
theorem clI_mono {n m w : Int} (h : n ≤ m) : clI n w ≤ clI m w := by unfold clI; omega
theorem clI_in (n w : Int) (h1 : 1 ≤ w) (h2 : w ≤ 8) : -9223372036854775808 ≤ clI n w ∧ clI n w < 9223372036854775808 := by
  rcases wOk_eight h1 h2 with rfl | rfl | rfl | rfl | rfl | rfl | rfl | rfl <;> simp [clI, hiW, loW] <;> omega
theorem clF_mono {n m w : Int} (h : n ≤ m) (h1 : 1 ≤ w) (h2 : w ≤ 8) : clV n w false ≤ clV m w false := by
  rcases wOk_eight h1 h2 with rfl | rfl | rfl | rfl | rfl | rfl | rfl | rfl <;> simp [clV, hiW, loW] <;> omega
theorem cl_eight {n : Int} (h0 : -9223372036854775808 ≤ n) (h1 : n < 9223372036854775808) : IntKind.i64.wrap (clV n 8 true) = n := by
  simp [clV, hiW, loW, IntKind.wrap, IntKind.bits, IntKind.signed]; split <;> omega

theorem signed_any (u w : Int) (W : World) (h1 : 1 ≤ w) (h2 : w ≤ 8) (h0 : 0 ≤ u) (hu : u < 2 ^ (8 * w).toNat) :
    Calls Try.prog 22 #[.int .u64 u, .int .i64 w] W fun e w' => e = .returned (.int .i64 (sgW u w)) ∧ w' = W := by
  have HU : Hid (u < 2 ^ (8 * w).toNat) := hu
  clear hu
  rcases wOk_eight h1 h2 with rfl | rfl | rfl | rfl | rfl | rfl | rfl | rfl
  all_goals
    go_enter Try.func22, Try.ntmps22
    go_wp2
    go_ret
    refine ⟨ret_int ?_, rfl⟩
    have hu := HU.out
    simp at hu
    simp [sgW, wrap64, IntKind.wrap, IntKind.bits, IntKind.signed]
    split <;> (try split) <;> omega

theorem numberOrder_walk (n m x : Int) (W : World) (w0 : (Lit.int .i64 n).wf = true) (w1 : (Lit.int .i64 m).wf = true) (w2 : (Lit.int .u64 x).wf = true) :
    Calls Try.prog 6 #[.int .i64 n, .int .i64 m, .int .u64 x] W fun e w' => e = .returned (.bool true) ∧ Below W.heap.size W w' := by
  obtain ⟨hn0, hn1⟩ := bounds_i64 w0
  obtain ⟨hm0, hm1⟩ := bounds_i64 w1
  obtain ⟨hx0, hx1⟩ := bounds_u64 w2
  obtain ⟨r, hr⟩ : ∃ r, x % 8 = r := ⟨_, rfl⟩
  have hr0 : 0 ≤ r := by omega
  have hr7 : r ≤ 7 := by omega
  have h1 : 1 ≤ 1 + r := by omega
  have h2 : 1 + r ≤ 8 := by omega
  have HN := clI_in n (1 + r) h1 h2
  have HM := clI_in m (1 + r) h1 h2
  obtain ⟨n0, n1⟩ := HN
  obtain ⟨m0, m1⟩ := HM
  have s1 := sgW_cl (n := n) h1 h2
  have s2 := sgW_cl (n := m) h1 h2
  have t1 := clI_twice n (1 + r) h1 h2
  have t2 := clI_twice m (1 + r) h1 h2
  clear w0 w1 w2
  by_cases hgt : m < n
  · have i1 : clI m (1 + r) ≤ clI n (1 + r) := clI_mono (by omega)
    have f1 : clV m (1 + r) false ≤ clV n (1 + r) false := clF_mono (by omega) h1 h2
    by_cases h7 : r < 7
    · go_enter Try.func6, Try.ntmps6
      go_wp2_with (first | (go_at_call 21; refine (clamp_yes _ _ _ _ (by omega) (by omega) h1 h2).mono ?_; rintro e w' ⟨rfl, rfl⟩) | (go_at_call 22; refine (signed_any _ _ _ h1 h2 (clV_lt _ _ _).1 (clV_lt _ _ _).2).mono ?_; rintro e w' ⟨rfl, rfl⟩) | (go_at_call 16; refine (lives_any _).mono ?_; rintro e w2 ⟨rfl, hb2⟩))
      go_ret
      exact ⟨rfl, by assumption⟩
    · have e7 : r = 7 := by omega
      subst e7
      simp only [show (1 : Int) + 7 = 8 from rfl] at h1 h2 n0 n1 m0 m1 s1 s2 t1 t2 i1 f1
      have c1 := cl_eight (n := n) (by omega) (by omega)
      have c2 := cl_eight (n := m) (by omega) (by omega)
      go_enter Try.func6, Try.ntmps6
      go_wp2_with (first | (go_at_call 21; refine (clamp_yes _ _ _ _ (by omega) (by omega) h1 h2).mono ?_; rintro e w' ⟨rfl, rfl⟩) | (go_at_call 22; refine (signed_any _ _ _ h1 h2 (clV_lt _ _ _).1 (clV_lt _ _ _).2).mono ?_; rintro e w' ⟨rfl, rfl⟩) | (go_at_call 16; refine (lives_any _).mono ?_; rintro e w2 ⟨rfl, hb2⟩))
      go_ret
      exact ⟨rfl, by assumption⟩
  · have i1 : clI n (1 + r) ≤ clI m (1 + r) := clI_mono (by omega)
    have f1 : clV n (1 + r) false ≤ clV m (1 + r) false := clF_mono (by omega) h1 h2
    by_cases h7 : r < 7
    · go_enter Try.func6, Try.ntmps6
      go_wp2_with (first | (go_at_call 21; refine (clamp_yes _ _ _ _ (by omega) (by omega) h1 h2).mono ?_; rintro e w' ⟨rfl, rfl⟩) | (go_at_call 22; refine (signed_any _ _ _ h1 h2 (clV_lt _ _ _).1 (clV_lt _ _ _).2).mono ?_; rintro e w' ⟨rfl, rfl⟩) | (go_at_call 16; refine (lives_any _).mono ?_; rintro e w2 ⟨rfl, hb2⟩))
      go_ret
      exact ⟨rfl, by assumption⟩
    · have e7 : r = 7 := by omega
      subst e7
      simp only [show (1 : Int) + 7 = 8 from rfl] at h1 h2 n0 n1 m0 m1 s1 s2 t1 t2 i1 f1
      have c1 := cl_eight (n := n) (by omega) (by omega)
      have c2 := cl_eight (n := m) (by omega) (by omega)
      go_enter Try.func6, Try.ntmps6
      go_wp2_with (first | (go_at_call 21; refine (clamp_yes _ _ _ _ (by omega) (by omega) h1 h2).mono ?_; rintro e w' ⟨rfl, rfl⟩) | (go_at_call 22; refine (signed_any _ _ _ h1 h2 (clV_lt _ _ _).1 (clV_lt _ _ _).2).mono ?_; rintro e w' ⟨rfl, rfl⟩) | (go_at_call 16; refine (lives_any _).mono ?_; rintro e w2 ⟨rfl, hb2⟩))
      go_ret
      exact ⟨rfl, by assumption⟩
end Go.Proofs.Ytanchgbpnioomab

/-
  The law NumberAhead walked, as far as what it meets is told. No conditions but those.
-/
import Derived.Test.YtanchgbpnioomabFallsWalk10
namespace Go.Proofs.Ytanchgbpnioomab
open Go.RowKit Ieee
set_option linter.unusedVariables false
set_option maxRecDepth 100000
set_option maxHeartbeats 1000000

theorem ahead_core (a : Nat) (W : World) (A B C D nb : Bool) (Z : Bool → Int)
    (hA : (FloatKind.f64.format.order a 14114281232179134464 == some .gt) = A) (hB : (FloatKind.f64.format.order a 4890909195324358656 == some .lt) = B)
    (hC : (FloatKind.f64.format.order a 13830554455654793216 == some .gt) = C) (hD : (FloatKind.f64.format.order a 4895412794951729152 == some .lt) = D)
    (hn : (FloatKind.f64.format.order a a != some .eq) = nb)
    (TR : Hid (∀ s W, Calls Try.prog 17 #[.int .u64 (a : Int), .int .i64 8, .int .i64 8, .bool s] W fun e w' => e = .returned (.tuple #[.int .u64 (Z s), .int .i64 0]) ∧ Below W.heap.size W w'))
    (hN : nb = true → Z true = 0 ∧ Z false = 0 ∧ A = false ∧ C = false)
    (HX : A = true → B = true → ∃ V, IntKind.i64.wrap (Z true) = V ∧ ∀ W, (convert 23 3 (.float .f64 a)).run Try.prog W = .ok (.int .i64 V) W)
    (HY : C = true → D = true → ∃ a1 a2, (∀ W, Calls Try.prog 19 #[.float .f64 a] W fun e w' => e = .returned (.float .f64 a1) ∧ w' = W) ∧ (∀ W, Calls Try.prog 18 #[.float .f64 a1] W fun e w' => e = .returned (.float .f64 a2) ∧ w' = W) ∧ ∀ W, (convert 23 22 (.float .f64 a2)).run Try.prog W = .ok (.int .u64 (Z false)) W) :
    Calls Try.prog 4 #[.int .u64 (a : Int)] W fun e w' => e = .returned (.bool true) ∧ Below W.heap.size W w' := by
  have hx := x_from64
  cases nb
  · clear hN
    obtain ⟨X, hX⟩ : ∃ X, Z true = X := ⟨_, rfl⟩
    obtain ⟨Y, hY⟩ : ∃ Y, Z false = Y := ⟨_, rfl⟩
    rw [hX] at HX
    rw [hY] at HY
    cases A
    · clear HX
      cases C
      · clear HY
        go_enter Try.func4, Try.ntmps4
        go_wp2_with (first | (go_at_call 17; refine Calls.mono (TR.out _ _) ?_; rintro e w2 ⟨rfl, hb2⟩) | (go_at_call 16; refine (lives_any _).mono ?_; rintro e w5 ⟨rfl, hb5⟩))
        go_ret
        exact ⟨rfl, bel3 (by assumption) (by assumption) (by assumption)⟩
      · cases D
        · clear HY
          go_enter Try.func4, Try.ntmps4
          go_wp2_with (first | (go_at_call 17; refine Calls.mono (TR.out _ _) ?_; rintro e w2 ⟨rfl, hb2⟩) | (go_at_call 16; refine (lives_any _).mono ?_; rintro e w5 ⟨rfl, hb5⟩))
          go_ret
          exact ⟨rfl, bel3 (by assumption) (by assumption) (by assumption)⟩
        · obtain ⟨a1, a2, ab, mt, cv⟩ := HY rfl rfl
          have AB : Hid _ := ab
          have MT : Hid _ := mt
          clear HY ab mt
          go_enter Try.func4, Try.ntmps4
          go_wp2_with (first | (go_at_call 17; refine Calls.mono (TR.out _ _) ?_; rintro e w2 ⟨rfl, hb2⟩) | (go_at_call 19; refine Calls.mono (AB.out _) ?_; rintro e w3 ⟨rfl, rfl⟩) | (go_at_call 18; refine Calls.mono (MT.out _) ?_; rintro e w4 ⟨rfl, rfl⟩) | (go_at_call 16; refine (lives_any _).mono ?_; rintro e w5 ⟨rfl, hb5⟩))
          go_ret
          exact ⟨rfl, bel3 (by assumption) (by assumption) (by assumption)⟩
    · cases B
      · clear HX
        cases C
        · clear HY
          go_enter Try.func4, Try.ntmps4
          go_wp2_with (first | (go_at_call 17; refine Calls.mono (TR.out _ _) ?_; rintro e w2 ⟨rfl, hb2⟩) | (go_at_call 16; refine (lives_any _).mono ?_; rintro e w5 ⟨rfl, hb5⟩))
          go_ret
          exact ⟨rfl, bel3 (by assumption) (by assumption) (by assumption)⟩
        · cases D
          · clear HY
            go_enter Try.func4, Try.ntmps4
            go_wp2_with (first | (go_at_call 17; refine Calls.mono (TR.out _ _) ?_; rintro e w2 ⟨rfl, hb2⟩) | (go_at_call 16; refine (lives_any _).mono ?_; rintro e w5 ⟨rfl, hb5⟩))
            go_ret
            exact ⟨rfl, bel3 (by assumption) (by assumption) (by assumption)⟩
          · obtain ⟨a1, a2, ab, mt, cv⟩ := HY rfl rfl
            have AB : Hid _ := ab
            have MT : Hid _ := mt
            clear HY ab mt
            go_enter Try.func4, Try.ntmps4
            go_wp2_with (first | (go_at_call 17; refine Calls.mono (TR.out _ _) ?_; rintro e w2 ⟨rfl, hb2⟩) | (go_at_call 19; refine Calls.mono (AB.out _) ?_; rintro e w3 ⟨rfl, rfl⟩) | (go_at_call 18; refine Calls.mono (MT.out _) ?_; rintro e w4 ⟨rfl, rfl⟩) | (go_at_call 16; refine (lives_any _).mono ?_; rintro e w5 ⟨rfl, hb5⟩))
            go_ret
            exact ⟨rfl, bel3 (by assumption) (by assumption) (by assumption)⟩
      · obtain ⟨V, hV, cvi⟩ := HX rfl rfl
        clear HX
        cases C
        · clear HY
          go_enter Try.func4, Try.ntmps4
          go_wp2_with (first | (go_at_call 17; refine Calls.mono (TR.out _ _) ?_; rintro e w2 ⟨rfl, hb2⟩) | (go_at_call 16; refine (lives_any _).mono ?_; rintro e w5 ⟨rfl, hb5⟩))
          go_ret
          exact ⟨rfl, bel3 (by assumption) (by assumption) (by assumption)⟩
        · cases D
          · clear HY
            go_enter Try.func4, Try.ntmps4
            go_wp2_with (first | (go_at_call 17; refine Calls.mono (TR.out _ _) ?_; rintro e w2 ⟨rfl, hb2⟩) | (go_at_call 16; refine (lives_any _).mono ?_; rintro e w5 ⟨rfl, hb5⟩))
            go_ret
            exact ⟨rfl, bel3 (by assumption) (by assumption) (by assumption)⟩
          · obtain ⟨a1, a2, ab, mt, cv⟩ := HY rfl rfl
            have AB : Hid _ := ab
            have MT : Hid _ := mt
            clear HY ab mt
            go_enter Try.func4, Try.ntmps4
            go_wp2_with (first | (go_at_call 17; refine Calls.mono (TR.out _ _) ?_; rintro e w2 ⟨rfl, hb2⟩) | (go_at_call 19; refine Calls.mono (AB.out _) ?_; rintro e w3 ⟨rfl, rfl⟩) | (go_at_call 18; refine Calls.mono (MT.out _) ?_; rintro e w4 ⟨rfl, rfl⟩) | (go_at_call 16; refine (lives_any _).mono ?_; rintro e w5 ⟨rfl, hb5⟩))
            go_ret
            exact ⟨rfl, bel3 (by assumption) (by assumption) (by assumption)⟩
  · obtain ⟨z1, z2, rfl, rfl⟩ := hN rfl
    clear hN HX HY
    go_enter Try.func4, Try.ntmps4
    go_wp2_with (first | (go_at_call 17; refine Calls.mono (TR.out _ _) ?_; rintro e w2 ⟨rfl, hb2⟩) | (go_at_call 16; refine (lives_any _).mono ?_; rintro e w5 ⟨rfl, hb5⟩))
    go_ret
    exact ⟨rfl, bel3 (by assumption) (by assumption) (by assumption)⟩
end Go.Proofs.Ytanchgbpnioomab

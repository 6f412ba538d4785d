/-
  The law NumberFalls walked. No conditions but that the arguments fit their kinds.
-/
import Derived.Test.YtanchgbpnioomabFFalls
namespace Go.Proofs.Ytanchgbpnioomab
open Go.RowKit Ieee
set_option linter.unusedVariables false
set_option maxRecDepth 100000
set_option maxHeartbeats 1000000

theorem bel3 {W w2 w3 w4 : World} (h1 : Below W.heap.size W w2) (h2 : Below w2.heap.size w2 w3) (h3 : Below w3.heap.size w3 w4) : Below W.heap.size W w4 :=
  h1.trans ((h2.trans (h3.mono h2.size)).mono h1.size)
theorem numberFalls_walk (ai bi x : Int) (W : World) (w0 : (Lit.int .u64 ai).wf = true) (w1 : (Lit.int .u64 bi).wf = true) (w2 : (Lit.int .u64 x).wf = true) :
    Calls Try.prog 7 #[.int .u64 ai, .int .u64 bi, .int .u64 x] W fun e w' => e = .returned (.bool true) ∧ Below W.heap.size W w' := by
  obtain ⟨ha0, ha1⟩ := bounds_u64 w0
  obtain ⟨hb0, hb1⟩ := bounds_u64 w1
  obtain ⟨hx0, hx1⟩ := bounds_u64 w2
  clear w0 w1 w2
  obtain ⟨a, rfl⟩ := Int.eq_ofNat_of_zero_le ha0
  obtain ⟨b, rfl⟩ := Int.eq_ofNat_of_zero_le hb0
  have la : a < 18446744073709551616 := by omega
  have lb : b < 18446744073709551616 := by omega
  clear ha0 ha1 hb0 hb1
  have hx := x_from64
  have hy := x_from32
  have na := order_self FloatKind.f64.format a
  have nb := order_self FloatKind.f64.format b
  obtain ⟨r, hr⟩ : ∃ r, x % 8 = r := ⟨_, rfl⟩
  have hr0 : 0 ≤ r := by omega
  have hr7 : r ≤ 7 := by omega
  have h1 : 1 ≤ 1 + r := by omega
  have h2 : 1 + r ≤ 8 := by omega
  cases hna : (FloatKind.f64.format.read a).isNaN with
  | true =>
    rw [hna] at na
    clear hna hx1
    go_enter Try.func7, Try.ntmps7
    go_wp2_with (go_at_call 16; refine (lives_any _).mono ?_; rintro e w5 ⟨rfl, hb5⟩)
    go_ret
    exact ⟨rfl, by assumption⟩
  | false =>
    rw [hna] at na
    cases hnb : (FloatKind.f64.format.read b).isNaN with
    | true =>
      rw [hnb] at nb
      clear hna hnb hx1
      go_enter Try.func7, Try.ntmps7
      go_wp2_with (go_at_call 16; refine (lives_any _).mono ?_; rintro e w5 ⟨rfl, hb5⟩)
      go_ret
      exact ⟨rfl, by assumption⟩
    | false =>
      rw [hnb] at nb
      have hna' : (double.read a).isNaN = false := hna
      have hnb' : (double.read b).isNaN = false := hnb
      have TR : Hid (∀ (c : Nat) W, c < 18446744073709551616 → (double.read c).isNaN = false → Calls Try.prog 17 #[.int .u64 (c : Int), .int .i64 8, .int .i64 (1 + r), .bool true] W fun e w' => e = .returned (.tuple #[.int .u64 (trV (double.read c) (1 + r) true), .int .i64 0]) ∧ Below W.heap.size W w') := fun c W _ _ => by
        have := trunc_yes (c : Int) 8 (1 + r) true W (by omega) (.inl rfl) h1 h2
        rwa [fmt8, Int.toNat_natCast] at this
      have NW : Hid (∀ (c : Nat) W, c < 18446744073709551616 → (double.read c).isNaN = false → Calls Try.prog 10 #[.int .u64 (c : Int)] W fun r w' => r = .returned (.int .u32 (nwV c : Nat)) ∧ w' = W) := fun c W hc _ => narrow_any c W hc
      have SG : Hid (∀ (c : Nat) W, (double.read c).isNaN = false → Calls Try.prog 22 #[.int .u64 (trV (double.read c) (1 + r) true), .int .i64 (1 + r)] W fun e w' => e = .returned (.int .i64 (sgW (trV (double.read c) (1 + r) true) (1 + r))) ∧ w' = W) := fun c W hc => signed_any _ _ W h1 h2 (tr_lt hc _ h1 h2).1 (tr_lt hc _ h1 h2).2
      have hord := order_v double (.inr rfl) a b hna' hnb'
      clear hna hnb hx1
      by_cases hgt : vM (double.read b) < vM (double.read a)
      · have ho : FloatKind.f64.format.order a b = some .gt := by rw [show FloatKind.f64.format.order a b = _ from hord, cmp_gt hgt]
        have i1 := tr_mono hnb' hna' (1 + r) h1 h2 (Int.le_of_lt hgt)
        have hnw := nw_order hnb' hna' (Int.le_of_lt hgt)
        clear hord hgt
        rcases hnw with hnw | hnw
        · skip
          go_enter Try.func7, Try.ntmps7
          go_wp2_with (first | (go_at_call 17; refine Calls.mono (TR.out _ _ (by assumption) (by assumption)) ?_; rintro e w2 ⟨rfl, hb2⟩) | (go_at_call 10; refine Calls.mono (NW.out _ _ (by assumption) (by assumption)) ?_; rintro e w3 ⟨rfl, rfl⟩) | (go_at_call 22; refine Calls.mono (SG.out _ _ (by assumption)) ?_; rintro e w4 ⟨rfl, rfl⟩) | (go_at_call 16; refine (lives_any _).mono ?_; rintro e w5 ⟨rfl, hb5⟩))
          go_ret
          exact ⟨rfl, by first | assumption | exact bel3 (by assumption) (by assumption) (by assumption)⟩
        · skip
          go_enter Try.func7, Try.ntmps7
          go_wp2_with (first | (go_at_call 17; refine Calls.mono (TR.out _ _ (by assumption) (by assumption)) ?_; rintro e w2 ⟨rfl, hb2⟩) | (go_at_call 10; refine Calls.mono (NW.out _ _ (by assumption) (by assumption)) ?_; rintro e w3 ⟨rfl, rfl⟩) | (go_at_call 22; refine Calls.mono (SG.out _ _ (by assumption)) ?_; rintro e w4 ⟨rfl, rfl⟩) | (go_at_call 16; refine (lives_any _).mono ?_; rintro e w5 ⟨rfl, hb5⟩))
          go_ret
          exact ⟨rfl, by first | assumption | exact bel3 (by assumption) (by assumption) (by assumption)⟩
      · have ho : (FloatKind.f64.format.order a b == some .gt) = false := by
          rw [show FloatKind.f64.format.order a b = _ from hord]
          by_cases heq : vM (double.read a) = vM (double.read b)
          · rw [cmp_eq heq]; rfl
          · rw [cmp_lt (by omega)]; rfl
        have i1 := tr_mono hna' hnb' (1 + r) h1 h2 (Int.not_lt.1 hgt)
        have hnw := nw_order hna' hnb' (Int.not_lt.1 hgt)
        clear hord hgt
        rcases hnw with hnw | hnw
        · skip
          go_enter Try.func7, Try.ntmps7
          go_wp2_with (first | (go_at_call 17; refine Calls.mono (TR.out _ _ (by assumption) (by assumption)) ?_; rintro e w2 ⟨rfl, hb2⟩) | (go_at_call 10; refine Calls.mono (NW.out _ _ (by assumption) (by assumption)) ?_; rintro e w3 ⟨rfl, rfl⟩) | (go_at_call 22; refine Calls.mono (SG.out _ _ (by assumption)) ?_; rintro e w4 ⟨rfl, rfl⟩) | (go_at_call 16; refine (lives_any _).mono ?_; rintro e w5 ⟨rfl, hb5⟩))
          go_ret
          exact ⟨rfl, by first | assumption | exact bel3 (by assumption) (by assumption) (by assumption)⟩
        · skip
          go_enter Try.func7, Try.ntmps7
          go_wp2_with (first | (go_at_call 17; refine Calls.mono (TR.out _ _ (by assumption) (by assumption)) ?_; rintro e w2 ⟨rfl, hb2⟩) | (go_at_call 10; refine Calls.mono (NW.out _ _ (by assumption) (by assumption)) ?_; rintro e w3 ⟨rfl, rfl⟩) | (go_at_call 22; refine Calls.mono (SG.out _ _ (by assumption)) ?_; rintro e w4 ⟨rfl, rfl⟩) | (go_at_call 16; refine (lives_any _).mono ?_; rintro e w5 ⟨rfl, hb5⟩))
          go_ret
          exact ⟨rfl, by first | assumption | exact bel3 (by assumption) (by assumption) (by assumption)⟩
end Go.Proofs.Ytanchgbpnioomab

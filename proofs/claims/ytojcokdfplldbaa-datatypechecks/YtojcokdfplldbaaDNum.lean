/-
  The program's isNumberOf, and hasOnlyItsOwn. Conditions: a width is 1 to 8.
-/
import Derived.Test.YtojcokdfplldbaaDNamedA
namespace Go.Proofs.Ytojcokdfplldbaa
open Go.RowKit Go.Shelf
set_option linter.unusedVariables false
set_option maxRecDepth 100000

/-- Is a value a number of an integer type? -/
def fitV (c wd v : Int) : Bool := if c = 2 then decide (0 ≤ v ∧ v < 2 ^ (8 * wd.toNat)) else decide (- 2 ^ (8 * wd.toNat - 1) ≤ v ∧ v < 2 ^ (8 * wd.toNat - 1))
set_option maxHeartbeats 16000000 in
theorem isNum_any (c wd : Int) (b : Bool) (fa : Option Addr) (fn fc : Nat) (da : Option Addr) (dn dc : Nat) (ba : Option Addr) (bn bc : Nat) (na : Option Addr) (nn nc : Nat) (v : Int) (w : World) (hv : I64 v) (h1 : 1 ≤ wd) (h2 : wd ≤ 8) :
    Calls Try.prog 79 #[.agg #[.int .i64 c, .int .i64 wd, .bool b, .slice fa fn fc, .slice da dn dc, .slice ba bn bc, .slice na nn nc], .int .i64 v] w fun e w' => e = .returned (.bool (fitV c wd v)) ∧ Below w.heap.size w w' := by
  obtain ⟨w1, hw1, hb1, hs1, c0, c1, c2, c3, c4, c5, c6⟩ := bx_made w c wd b (.slice fa fn fc) (.slice da dn dc) (.slice ba bn bc) (.slice na nn nc)
  have HB1 : Hid (Below w.heap.size w w1) := hb1
  obtain ⟨hv1, hv2⟩ := hv
  clear hb1 hs1 c2 c3 c4 c5 c6
  have hwd : wd = 1 ∨ wd = 2 ∨ wd = 3 ∨ wd = 4 ∨ wd = 5 ∨ wd = 6 ∨ wd = 7 ∨ wd = 8 := by omega
  by_cases hc : c = 2
  · subst hc
    by_cases h0 : 0 ≤ v
    · have d0 : decide (0 ≤ v) = true := decide_eq_true h0
      have hwu : IntKind.u64.wrap v = v := by rw [IntKind.wrap_u64]; omega
      rcases hwd with rfl | rfl | rfl | rfl | rfl | rfl | rfl | rfl
      all_goals
        go_enter Try.func79, Try.ntmps79
        go_wp2_with fail
        all_goals
          go_ret
          refine ⟨?_, HB1.out⟩
          show Ending.returned (Value.bool _) = _
          congr 2
          rw [fitV, if_pos rfl, Bool.eq_iff_iff]
          simp
          omega
    · have d0 : decide (0 ≤ v) = false := decide_eq_false h0
      rcases hwd with rfl | rfl | rfl | rfl | rfl | rfl | rfl | rfl
      all_goals
        go_enter Try.func79, Try.ntmps79
        go_wp2_with fail
        go_ret
        refine ⟨?_, HB1.out⟩
        show Ending.returned (Value.bool _) = _
        congr 2
        rw [fitV, if_pos rfl]
        simp
        omega
  · rcases hwd with rfl | rfl | rfl | rfl | rfl | rfl | rfl | rfl
    all_goals
      go_enter Try.func79, Try.ntmps79
      go_wp2_with fail
      all_goals
        go_ret
        refine ⟨?_, HB1.out⟩
        show Ending.returned (Value.bool _) = _
        congr 2
        rw [fitV, if_neg hc, Bool.eq_iff_iff]
        simp
        omega
/-- Is all zero that a class does not name? -/
def ownB (c wd : Int) (b : Bool) (fn dn bn nn : Nat) : Bool :=
  if c = 1 ∨ c = 2 ∨ c = 3 ∨ c = 4 then decide (fn = 0 ∧ dn = 0 ∧ bn = 0 ∧ nn = 0)
  else if c = 5 then decide (b = false ∧ dn = 0 ∧ bn = 0 ∧ nn = 0)
  else if c = 6 then decide (wd = 0 ∧ b = false ∧ fn = 0 ∧ nn = 0)
  else if c = 7 then decide (wd = 0 ∧ b = false ∧ fn = 0 ∧ dn = 0)
  else decide (wd = 0 ∧ b = false ∧ fn = 0 ∧ dn = 0 ∧ bn = 0 ∧ nn = 0)
set_option maxHeartbeats 16000000 in
theorem hasOwn_any (c wd : Int) (b : Bool) (fa : Option Addr) (fn fc : Nat) (da : Option Addr) (dn dc : Nat) (ba : Option Addr) (bn bc : Nat) (na : Option Addr) (nn nc : Nat) (w : World) :
    Calls Try.prog 52 #[.agg #[.int .i64 c, .int .i64 wd, .bool b, .slice fa fn fc, .slice da dn dc, .slice ba bn bc, .slice na nn nc]] w fun e w' => e = .returned (.bool (ownB c wd b fn dn bn nn)) ∧ Below w.heap.size w w' := by
  by_cases h7 : c = 1 ∨ c = 2 ∨ c = 3 ∨ c = 4 ∨ c = 5 ∨ c = 6 ∨ c = 7
  · rcases h7 with rfl | rfl | rfl | rfl | rfl | rfl | rfl <;> cases b
    all_goals
      go_enter Try.func52, Try.ntmps52
      go_wp2_with fail
      all_goals
        go_ret
        refine ⟨?_, (Below.refl _ _).alloc (Nat.le_refl _) _⟩
        show Ending.returned (Value.bool _) = _
        refine congrArg (fun x => Ending.returned (Value.bool x)) ?_
        first | (simp [ownB, *]; done) | (simp [ownB, *]; rw [Bool.eq_iff_iff]; simp <;> omega)
  · have e1 : ¬ c = 1 := by omega
    have e2 : ¬ c = 2 := by omega
    have e3 : ¬ c = 3 := by omega
    have e4 : ¬ c = 4 := by omega
    have e5 : ¬ c = 5 := by omega
    have e6 : ¬ c = 6 := by omega
    have e7 : ¬ c = 7 := by omega
    cases b
    all_goals
      go_enter Try.func52, Try.ntmps52
      go_wp2_with fail
      all_goals
        go_ret
        refine ⟨?_, (Below.refl _ _).alloc (Nat.le_refl _) _⟩
        show Ending.returned (Value.bool _) = _
        refine congrArg (fun x => Ending.returned (Value.bool x)) ?_
        first | (simp [ownB, *]; done) | (simp [ownB, *]; rw [Bool.eq_iff_iff]; simp <;> omega)
end Go.Proofs.Ytojcokdfplldbaa

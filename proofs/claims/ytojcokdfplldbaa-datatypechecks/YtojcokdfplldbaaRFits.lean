/-
  The document's number, Fits and fits. Conditions: widths of 1 to 8.
-/
import Derived.Test.YtojcokdfplldbaaRName
namespace Go.Proofs.Ytojcokdfplldbaa
open Go.RowKit Go.Shelf
set_option linter.unusedVariables false
set_option maxRecDepth 100000

/-- Is it a number's type that may be? -/
def numB (c wd : Int) (fn dn bn nn : Nat) : Bool := decide (fn = 0 ∧ dn = 0 ∧ bn = 0 ∧ nn = 0) && decide (((c = 1 ∨ c = 2) ∧ 1 ≤ wd ∧ wd ≤ 8) ∨ ((c = 3 ∨ c = 4) ∧ (wd = 4 ∨ wd = 8)))
set_option maxHeartbeats 8000000 in
theorem refNumber_any (c wd : Int) (b : Bool) (fa : Option Addr) (fn fc : Nat) (da : Option Addr) (dn dc : Nat) (ba : Option Addr) (bn bc : Nat) (na : Option Addr) (nn nc : Nat) (w : World) (h1 : fn ≤ 17592186043904) (h2 : dn ≤ 17592186043904) (h3 : bn ≤ 17592186043904) (h4 : nn ≤ 17592186043904) :
    Calls Try.prog 61 #[.agg #[.int .i64 c, .int .i64 wd, .bool b, .slice fa fn fc, .slice da dn dc, .slice ba bn bc, .slice na nn nc]] w fun e w' => e = .returned (.bool (numB c wd fn dn bn nn)) ∧ Below w.heap.size w w' := by
  obtain ⟨k2, hk2⟩ : ∃ k, fn + dn = k := ⟨_, rfl⟩
  obtain ⟨k1, hk1⟩ : ∃ k, k2 + bn = k := ⟨_, rfl⟩
  obtain ⟨k, hk⟩ : ∃ k, k1 + nn = k := ⟨_, rfl⟩
  have s1 : IntKind.i64.wrap ((fn : Int) + (dn : Int)) = (k2 : Int) := by rw [← Int.natCast_add, hk2]; exact wrap_i64_inD _ (by omega) (by omega)
  have s2 : IntKind.i64.wrap ((k2 : Int) + (bn : Int)) = (k1 : Int) := by rw [← Int.natCast_add, hk1]; exact wrap_i64_inD _ (by omega) (by omega)
  have s3 : IntKind.i64.wrap ((k1 : Int) + (nn : Int)) = (k : Int) := by rw [← Int.natCast_add, hk]; exact wrap_i64_inD _ (by omega) (by omega)
  by_cases h0 : fn = 0 ∧ dn = 0 ∧ bn = 0 ∧ nn = 0
  · obtain ⟨rfl, rfl, rfl, rfl⟩ := h0
    obtain rfl : k2 = 0 := by omega
    obtain rfl : k1 = 0 := by omega
    obtain rfl : k = 0 := by omega
    clear s1 s2 s3 hk hk1 hk2
    by_cases h7 : c = 1 ∨ c = 2 ∨ c = 3 ∨ c = 4
    · rcases h7 with rfl | rfl | rfl | rfl
      all_goals
        go_enter Try.func61, Try.ntmps61
        go_wp2_with fail
        all_goals
          go_ret
          refine ⟨?_, (Below.refl _ _).alloc (Nat.le_refl _) _⟩
          show Ending.returned (Value.bool _) = _
          refine congrArg (fun x => Ending.returned (Value.bool x)) ?_
          first | (simp [numB, *]; done) | (simp [numB, *]; omega) | (simp [numB, *]; rw [Bool.eq_iff_iff]; simp <;> omega)
    · have e1 : ¬ c = 1 := by omega
      have e2 : ¬ c = 2 := by omega
      have e3 : ¬ c = 3 := by omega
      have e4 : ¬ c = 4 := by omega
      go_enter Try.func61, Try.ntmps61
      go_wp2_with fail
      go_ret
      refine ⟨?_, (Below.refl _ _).alloc (Nat.le_refl _) _⟩
      show Ending.returned (Value.bool _) = _
      refine congrArg (fun x => Ending.returned (Value.bool x)) ?_
      simp [numB, *]
  · have hkp : 0 < (k : Int) := by omega
    have HE : Hid (numB c wd fn dn bn nn = false) := by rw [Hid, numB, decide_eq_false h0]; rfl
    clear hk hk1 hk2 h0
    go_enter Try.func61, Try.ntmps61
    go_wp2_with fail
    go_ret
    exact ⟨by rw [HE.out]; rfl, (Below.refl _ _).alloc (Nat.le_refl _) _⟩
end Go.Proofs.Ytojcokdfplldbaa

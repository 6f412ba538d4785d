/-
  Plain facts on floats by their bits: what a word reads as, sizes in units of 2^-1074, order, whole parts. No conditions.
-/
import Derived.WalkKit
import Derived.WalkLawsBesides
import Derived.Laws.FloatArith
namespace Go.Proofs.Ytanchgbpnioomab
open Ieee
set_option linter.unusedVariables false

/-- A number's size, in units of 2^-1074. -/
def szM (m : Nat) (e : Int) : Nat := m * 2 ^ (e + 1074).toNat
/-- 2^1074: one, in these units. -/
def kilo : Nat := szM 1 0
/-- With its sign. -/
def sg (s : Bool) (M : Nat) : Int := if s then -(M : Int) else (M : Int)

theorem signed_eq (s : Bool) (m k : Nat) : signed s m k = sg s (m * 2 ^ k) := by
  unfold signed sg; rw [Nat.shiftLeft_eq]
theorem cmp_mul (a b c : Int) (hc : 0 < c) : compare (a * c) (b * c) = compare a b := by
  have h1 : (a * c < b * c) ↔ (a < b) := Int.mul_lt_mul_right hc
  have h2 : (a * c = b * c) ↔ (a = b) := ⟨fun h => Int.eq_of_mul_eq_mul_right (by omega) h, fun h => by rw [h]⟩
  simp only [compare, compareOfLessAndEq, h1, h2]
theorem sg_mul (s : Bool) (M k : Nat) : sg s (M * k) = sg s M * k := by
  unfold sg; cases s <;> simp [Int.neg_mul]
theorem two_pos (k : Nat) : 0 < 2 ^ k := Nat.two_pow_pos k
theorem order_num (s t : Bool) (m n : Nat) (i j : Int) (hi : -1074 ≤ i) (hj : -1074 ≤ j) :
    Datum.order (.number s m i) (.number t n j) = some (compare (sg s (szM m i)) (sg t (szM n j))) := by
  unfold Datum.order
  simp only [signed_eq]
  congr 1
  have e1 : szM m i = m * 2 ^ (i - min i j).toNat * 2 ^ (min i j + 1074).toNat := by
    unfold szM; rw [Nat.mul_assoc, ← Nat.pow_add]; congr 2; omega
  have e2 : szM n j = n * 2 ^ (j - min i j).toNat * 2 ^ (min i j + 1074).toNat := by
    unfold szM; rw [Nat.mul_assoc, ← Nat.pow_add]; congr 2; omega
  rw [e1, e2, sg_mul s (m * _), sg_mul t (n * _), cmp_mul]
  have := two_pos (min i j + 1074).toNat
  omega

/-- What stands ahead of the point. -/
theorem cut_zero (s : Bool) (n d : Nat) : Toward.zero.cut s n d = n / 2 ^ d := by
  unfold Toward.cut
  simp only [Nat.shiftLeft_eq, Nat.one_mul, Bool.toNat_false, Nat.add_zero]
  by_cases h : d ≤ n.log2 + 2
  · rw [Nat.min_eq_left h]
  · rw [Nat.min_eq_right (by omega)]
    have h1 : n < 2 ^ (n.log2 + 2) := Nat.lt_of_lt_of_le Nat.lt_log2_self (Nat.pow_le_pow_right (by decide) (by omega))
    have h2 : n < 2 ^ d := Nat.lt_of_lt_of_le h1 (Nat.pow_le_pow_right (by decide) (by omega))
    rw [Nat.div_eq_of_lt h1, Nat.div_eq_of_lt h2]
theorem cut_size (m : Nat) (e : Int) (he : -1074 ≤ e) : m * 2 ^ e.toNat / 2 ^ (-e).toNat = szM m e / kilo := by
  obtain ⟨z, hz⟩ : ∃ z : Int, z = 0 := ⟨_, rfl⟩
  show _ = szM m e / szM 1 0
  rw [← hz]
  unfold szM
  rw [Nat.one_mul]
  by_cases h : 0 ≤ e
  · have e1 : (e + 1074).toNat = e.toNat + (z + 1074).toNat := by omega
    have e2 : (-e).toNat = 0 := by omega
    rw [e1, e2, Nat.pow_add, ← Nat.mul_assoc, Nat.mul_div_cancel _ (two_pos _), Nat.pow_zero, Nat.div_one]
  · have e1 : e.toNat = 0 := by omega
    have e2 : (z + 1074).toNat = (-e).toNat + (e + 1074).toNat := by omega
    rw [e1, Nat.pow_zero, Nat.mul_one, e2, Nat.pow_add, Nat.mul_div_mul_right _ _ (two_pos _)]
theorem kilo_pos : 0 < kilo := by
  obtain ⟨z, hz⟩ : ∃ z : Int, z = 0 := ⟨_, rfl⟩
  show 0 < szM 1 0
  rw [← hz]
  exact Nat.mul_pos (by decide) (two_pos _)
theorem toInt_num (s : Bool) (m : Nat) (e : Int) (he : -1074 ≤ e) :
    (Datum.number s m e).toInt .zero = some (sg s (szM m e / kilo)) := by
  unfold Datum.toInt Datum.integral
  simp only [cut_zero, signed_eq, Nat.shiftLeft_eq, Nat.pow_zero, Nat.mul_one]
  rw [cut_size m e he]

/-- The two formats. -/
theorem single_bin : single.binade = 8388608 := by decide
theorem single_inf : single.infRung = 2139095040 := by decide
theorem single_sw : single.signWeight = 2147483648 := by decide
theorem single_lp : single.leastPlace = -149 := by decide
theorem double_bin : double.binade = 4503599627370496 := by decide
theorem double_inf : double.infRung = 9218868437227405312 := by decide
theorem double_sw : double.signWeight = 9223372036854775808 := by decide
theorem double_lp : double.leastPlace = -1074 := by decide

/-- A format of 4 or 8 bytes. -/
def fmt (w : Int) : Format := if w = 8 then double else single
theorem fmt4 : fmt 4 = single := rfl
theorem fmt8 : fmt 8 = double := rfl

theorem read_place (f : Format) (hf : f = single ∨ f = double) (b : Nat) {s : Bool} {m : Nat} {e : Int} (h : f.read b = .number s m e) :
    -1074 ≤ e ∧ e ≤ 971 ∧ m < 2 * f.binade := by
  unfold Format.read at h
  simp only at h
  have hb : 0 < f.binade := Nat.two_pow_pos _
  split at h
  · cases h
    rcases hf with rfl | rfl
    · simp only [single_lp] at *; omega
    · simp only [double_lp] at *; omega
  · split at h
    · cases h
      rename_i h1 h2
      have h3 := Nat.mod_lt (b % f.signWeight) hb
      rcases hf with rfl | rfl
      · simp only [single_lp, single_bin, single_sw, single_inf] at *; omega
      · simp only [double_lp, double_bin, double_sw, double_inf] at *; omega
    · split at h <;> cases h
end Go.Proofs.Ytanchgbpnioomab

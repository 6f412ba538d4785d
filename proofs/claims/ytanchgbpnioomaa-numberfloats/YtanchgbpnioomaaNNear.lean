/-
  Rounding to a float as the document does it: where the last digit lies, and what is kept. No conditions.
-/
import Derived.Test.YtanchgbpnioomaaFRound
namespace Go.Proofs.Ytanchgbpnioomaa
open Ieee
set_option linter.unusedVariables false

/-- The place of the last digit, and what is kept. -/
def lastP (f : Format) (mag : Nat) (place : Int) : Int := max ((mag.log2 + 1 : Nat) + place - (f.fractionBits + 1 : Nat)) f.leastPlace
def keptP (f : Format) (mag : Nat) (place : Int) : Nat := if place < lastP f mag place then rne mag (lastP f mag place - place).toNat else mag * 2 ^ (place - lastP f mag place).toNat

theorem kept_eq (f : Format) (mag : Nat) (place : Int) : rne (mag * 2 ^ (place - lastP f mag place).toNat) (lastP f mag place - place).toNat = keptP f mag place := by
  unfold keptP
  by_cases h : place < lastP f mag place
  · rw [if_pos h, show (place - lastP f mag place).toNat = 0 from by omega, Nat.pow_zero, Nat.mul_one]
  · rw [if_neg h, show (lastP f mag place - place).toNat = 0 from by omega, rne_zero]
theorem nearest_doc (f : Format) (neg : Bool) (mag : Nat) (place : Int) (h0 : mag ≠ 0) :
    f.nearest neg mag place = f.word neg (min ((lastP f mag place - f.leastPlace).toNat * f.binade + keptP f mag place) f.infRung) := by
  unfold Format.nearest
  rw [if_neg h0]
  simp only [cut_even, Nat.shiftLeft_eq]
  have e : max (place + (mag.log2 : Int) - (f.fractionBits : Int)) f.leastPlace = lastP f mag place := by unfold lastP; congr 1; omega
  rw [e, kept_eq]
theorem kept_top (f : Format) (mag : Nat) (place : Int) (h0 : mag ≠ 0) : keptP f mag place ≤ 2 * f.binade := by
  have hl : place + (mag.log2 : Int) - f.fractionBits ≤ lastP f mag place := by unfold lastP; omega
  have hm : mag < 2 ^ (mag.log2 + 1) := Nat.lt_log2_self
  have hb : 2 * f.binade = 2 ^ (f.fractionBits + 1) := by unfold Format.binade; rw [Nat.pow_succ, Nat.mul_comm]
  unfold keptP
  by_cases h : place < lastP f mag place
  · rw [if_pos h]
    apply rne_bound
    have : 2 ^ (mag.log2 + 1) ≤ 2 ^ (f.fractionBits + 1 + (lastP f mag place - place).toNat) := Nat.pow_le_pow_right (by decide) (by omega)
    rw [hb, ← Nat.pow_add]; omega
  · rw [if_neg h, hb]
    have : mag * 2 ^ (place - lastP f mag place).toNat ≤ 2 ^ (mag.log2 + 1) * 2 ^ (place - lastP f mag place).toNat := Nat.mul_le_mul_right _ (by omega)
    rw [← Nat.pow_add] at this
    have : 2 ^ (mag.log2 + 1 + (place - lastP f mag place).toNat) ≤ 2 ^ (f.fractionBits + 1) := Nat.pow_le_pow_right (by decide) (by omega)
    omega
theorem kept_low (f : Format) (mag : Nat) (place : Int) (h0 : mag ≠ 0) (hl : f.leastPlace < lastP f mag place) : f.binade ≤ keptP f mag place := by
  have he : lastP f mag place = place + mag.log2 - f.fractionBits := by unfold lastP at *; omega
  have hm := Nat.log2_self_le h0
  unfold keptP Format.binade
  by_cases h : place < lastP f mag place
  · rw [if_pos h]
    refine Nat.le_trans ?_ (rne_ge _ _)
    rw [Nat.le_div_iff_mul_le (two_pos _), ← Nat.pow_add]
    have : 2 ^ (f.fractionBits + (lastP f mag place - place).toNat) ≤ 2 ^ mag.log2 := Nat.pow_le_pow_right (by decide) (by omega)
    omega
  · rw [if_neg h]
    have : 2 ^ mag.log2 * 2 ^ (place - lastP f mag place).toNat ≤ mag * 2 ^ (place - lastP f mag place).toNat := Nat.mul_le_mul_right _ hm
    rw [← Nat.pow_add] at this
    have : 2 ^ f.fractionBits ≤ 2 ^ (mag.log2 + (place - lastP f mag place).toNat) := Nat.pow_le_pow_right (by decide) (by omega)
    omega
end Go.Proofs.Ytanchgbpnioomaa

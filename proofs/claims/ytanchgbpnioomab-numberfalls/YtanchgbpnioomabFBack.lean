/-
  Plain facts: integers that are small enough come back from floats, floats of 4 bytes from 8. No conditions.
-/
import Derived.Test.YtanchgbpnioomabNWiden
namespace Go.Proofs.Ytanchgbpnioomab
open Go.RowKit Ieee
set_option linter.unusedVariables false
set_option maxRecDepth 100000

theorem sz_kilo (m : Nat) : szM m 0 = m * kilo := by
  obtain ⟨z, hz⟩ : ∃ z : Int, z = 0 := ⟨_, rfl⟩
  show szM m 0 = m * szM 1 0
  rw [← hz]; unfold szM; rw [Nat.one_mul]
theorem top_single : rg single (2 * single.binade * kilo) < single.infRung := by decide +kernel
theorem top_double : rg double (2 * double.binade * kilo) < double.infRung := by decide +kernel
theorem kilo_log : kilo = 2 ^ kilo.log2 ∧ kilo.log2 = 1074 := by decide +kernel
theorem back_num (f : Format) (hf : f = single ∨ f = double) (s : Bool) (k : Nat) (hk : k ≤ 2 * f.binade) :
    ∃ m e, f.read (f.nearest s k 0) = .number s m e ∧ -1074 ≤ e ∧ szM m e = k * kilo := by
  obtain ⟨g1, g2⟩ := kilo_log
  have hlt : rg f (k * kilo) < f.infRung := by
    have h1 := rg_mono f (Nat.mul_le_mul_right kilo hk)
    rcases hf with rfl | rfl
    · exact Nat.lt_of_le_of_lt h1 top_single
    · exact Nat.lt_of_le_of_lt h1 top_double
  have hmg : mg f (rg f (k * kilo)) = k * kilo := by
    by_cases h0 : k = 0
    · subst h0; rw [Nat.zero_mul]
      rcases hf with rfl | rfl <;> decide +kernel
    · refine mg_rg f _ (by have := Nat.mul_pos (Nat.pos_of_ne_zero h0) kilo_pos; omega) ?_ hlt
      have hlow : lowD f ≤ 1074 := by rcases hf with rfl | rfl <;> decide
      have hl : (k * kilo).log2 = k.log2 + 1074 := by
        conv => lhs; rw [g1]
        rw [log2_mul h0, g2]
      by_cases ht : k = 2 * f.binade
      · have hb : 2 * f.binade = 2 ^ (f.fractionBits + 1) := by unfold Format.binade; rw [Nat.pow_succ, Nat.mul_comm]
        have hkl : k.log2 = f.fractionBits + 1 := by rw [ht, hb, Nat.log2_two_pow]
        have hkeep : keep f (k * kilo) ≤ 1075 := by unfold keep; rw [hl, hkl]; omega
        have e1 : k * kilo = 2 ^ (f.fractionBits + 1 + kilo.log2) := by
          rw [ht, hb, Nat.pow_add 2 (f.fractionBits + 1) kilo.log2, ← g1]
        rw [e1]
        exact Nat.pow_dvd_pow 2 (by rw [← e1, g2]; omega)
      · have hkl : k.log2 ≤ f.fractionBits := by
          have hb : 2 * f.binade = 2 ^ (f.fractionBits + 1) := by unfold Format.binade; rw [Nat.pow_succ, Nat.mul_comm]
          have := (Nat.log2_lt h0 (k := f.fractionBits + 1)).2 (by omega)
          omega
        have hkeep : keep f (k * kilo) ≤ kilo.log2 := by unfold keep; rw [hl, g2]; omega
        conv => rhs; rw [g1]
        exact Nat.dvd_trans (Nat.pow_dvd_pow 2 hkeep) (Nat.dvd_mul_left ..)
  rw [nearest_eq f hf s k 0 (by decide), sz_kilo]
  obtain ⟨m, e, h1, h2, h3⟩ := word_read_num f hf s _ hlt
  exact ⟨m, e, h1, h2, by rw [h3, hmg]⟩
theorem back_val (f : Format) (hf : f = single ∨ f = double) (n : Int) (hk : n.natAbs ≤ 2 * f.binade) :
    trV (f.read (f.nearest (n < 0) n.natAbs 0)) 8 true = clV n 8 true := by
  obtain ⟨m, e, h1, h2, h3⟩ := back_num f hf (n < 0) n.natAbs hk
  rw [h1]
  show clV (sg (n < 0) (szM m e / kilo)) 8 true = _
  rw [h3, Nat.mul_div_cancel _ kilo_pos]
  congr 1
  unfold sg
  by_cases hn : n < 0
  · simp only [hn, decide_true, if_true]; omega
  · simp only [hn, decide_false, Bool.false_eq_true, if_false]; omega
theorem word_self (b : Nat) (hb : b < 4294967296) : single.word (b / single.signWeight % 2 == 1) (b % single.signWeight) = b := by
  unfold Format.word
  rw [single_sw]
  by_cases h : b / 2147483648 % 2 = 1
  · rw [h]; simp only [beq_self_eq_true, if_true]; omega
  · have : b / 2147483648 % 2 = 0 := by omega
    rw [this]; simp; omega
theorem narrow_wide (b : Nat) (hb : b < 4294967296) (hn : nan4 b = false) : nwV (wdV b) = b := by
  unfold wdV
  by_cases h1 : b % single.signWeight < single.infRung
  · obtain ⟨m, e, hd, he, hs⟩ := read_num single (.inl rfl) b h1
    rw [hd]
    show nwV (double.nearest _ m e) = b
    rw [nearest_eq double (.inr rfl) _ m e he]
    obtain ⟨m', e', hd2, he2, hs2⟩ := word_read_num double (.inr rfl) (b / single.signWeight % 2 == 1) _ (wide_lt hd)
    unfold nwV
    rw [hd2]
    show single.nearest _ m' e' = b
    rw [nearest_eq single (.inl rfl) _ m' e' he2, hs2, single_exact hd, hs, rg_mg single (.inl rfl) _ h1]
    exact word_self b hb
  · by_cases h2 : b % single.signWeight = single.infRung
    · have hd := read_inf single (.inl rfl) b h2
      rw [hd]
      show nwV (double.word _ double.infRung) = b
      unfold nwV
      rw [word_read_inf double (.inr rfl)]
      show single.word _ single.infRung = b
      rw [← h2]
      exact word_self b hb
    · have hd := read_nan single (.inl rfl) b (by omega)
      unfold nan4 at hn
      rw [hd] at hn
      cases hn
end Go.Proofs.Ytanchgbpnioomab

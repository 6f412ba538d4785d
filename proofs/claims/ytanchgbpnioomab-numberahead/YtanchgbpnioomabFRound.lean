/-
  Plain facts on rounding to a float: the rung by the size, that it rises with it, that what fits comes back. No conditions.
-/
import Derived.Test.YtanchgbpnioomabFMath
namespace Go.Proofs.Ytanchgbpnioomab
open Ieee
set_option linter.unusedVariables false

/-- n by 2^d, to the nearest, of two as near the even one. -/
def rne (n d : Nat) : Nat := n / 2 ^ d + (if 2 ^ d < 2 * (n % 2 ^ d) ∨ (2 ^ d = 2 * (n % 2 ^ d) ∧ n / 2 ^ d % 2 = 1) then 1 else 0)

theorem cut_even (s : Bool) (n d : Nat) : Toward.even.cut s n d = rne n d := by
  have key : ∀ g, Toward.even.cut s n d = n / 2 ^ (min d (n.log2 + 2)) + (if 2 ^ (min d (n.log2 + 2)) < 2 * (n % 2 ^ (min d (n.log2 + 2))) ∨ (2 ^ (min d (n.log2 + 2)) = 2 * (n % 2 ^ (min d (n.log2 + 2))) ∧ n / 2 ^ (min d (n.log2 + 2)) % 2 = 1) then 1 else g) ∨ g ≠ 0 := by
    intro g
    by_cases hg : g = 0
    · left; subst hg
      unfold Toward.cut
      simp only [Nat.shiftLeft_eq, Nat.one_mul]
      congr 1
      split
      · rename_i h
        have : (decide (2 ^ (min d (n.log2 + 2)) < 2 * (n % 2 ^ (min d (n.log2 + 2)))) || (2 ^ (min d (n.log2 + 2)) == 2 * (n % 2 ^ (min d (n.log2 + 2))) && n / 2 ^ (min d (n.log2 + 2)) % 2 == 1)) = true := by
          simpa using h
        rw [this]; rfl
      · rename_i h
        have : (decide (2 ^ (min d (n.log2 + 2)) < 2 * (n % 2 ^ (min d (n.log2 + 2)))) || (2 ^ (min d (n.log2 + 2)) == 2 * (n % 2 ^ (min d (n.log2 + 2))) && n / 2 ^ (min d (n.log2 + 2)) % 2 == 1)) = false := by
          simp only [Bool.or_eq_false_iff, decide_eq_false_iff_not, Bool.and_eq_false_iff]
          constructor
          · exact fun h1 => h (.inl h1)
          · by_cases h2 : 2 ^ (min d (n.log2 + 2)) = 2 * (n % 2 ^ (min d (n.log2 + 2)))
            · right; simp only [beq_eq_false_iff_ne]; exact fun h3 => h (.inr ⟨h2, h3⟩)
            · left; simpa using h2
        rw [this]; rfl
    · right; exact hg
  rcases key 0 with h | h
  · rw [h]
    by_cases hd : d ≤ n.log2 + 2
    · rw [Nat.min_eq_left hd]; rfl
    · rw [Nat.min_eq_right (by omega)]
      have h0 : n < 2 ^ (n.log2 + 1) := Nat.lt_log2_self
      have h1 : 2 ^ (n.log2 + 2) = 2 * 2 ^ (n.log2 + 1) := by rw [Nat.pow_succ 2 (n.log2 + 1)]; omega
      have h2 : 2 ^ (n.log2 + 2) ≤ 2 ^ d := Nat.pow_le_pow_right (by decide) (by omega)
      unfold rne
      have d1 : n / 2 ^ (n.log2 + 2) = 0 := Nat.div_eq_of_lt (by omega)
      have d2 : n / 2 ^ d = 0 := Nat.div_eq_of_lt (by omega)
      have m1 : n % 2 ^ (n.log2 + 2) = n := Nat.mod_eq_of_lt (by omega)
      have m2 : n % 2 ^ d = n := Nat.mod_eq_of_lt (by omega)
      rw [d1, d2, m1, m2, if_neg (by omega), if_neg (by omega)]
  · exact absurd rfl h
theorem rne_zero (n : Nat) : rne n 0 = n := by unfold rne; simp [Nat.mod_one]
theorem rne_scale (n d j : Nat) : rne (n * 2 ^ j) (d + j) = rne n d := by
  unfold rne
  have hj := two_pos j
  rw [Nat.pow_add, Nat.mul_div_mul_right _ _ hj, Nat.mul_mod_mul_right]
  have e1 : (2 ^ d * 2 ^ j < 2 * (n % 2 ^ d * 2 ^ j)) ↔ (2 ^ d < 2 * (n % 2 ^ d)) := by
    rw [← Nat.mul_assoc]; exact Nat.mul_lt_mul_right hj
  have e2 : (2 ^ d * 2 ^ j = 2 * (n % 2 ^ d * 2 ^ j)) ↔ (2 ^ d = 2 * (n % 2 ^ d)) := by
    rw [← Nat.mul_assoc]; exact Nat.mul_left_inj (by omega)
  simp only [e1, e2]
theorem rne_mul (k d : Nat) : rne (k * 2 ^ d) d = k := by
  have := rne_scale k 0 d
  rw [Nat.zero_add, rne_zero] at this; exact this
theorem rne_ge (n d : Nat) : n / 2 ^ d ≤ rne n d := by unfold rne; omega
theorem rne_le (n d : Nat) : rne n d ≤ n / 2 ^ d + 1 := by unfold rne; split <;> omega
theorem rne_mono {n n' : Nat} (d : Nat) (h : n ≤ n') : rne n d ≤ rne n' d := by
  have hq : n / 2 ^ d ≤ n' / 2 ^ d := Nat.div_le_div_right h
  by_cases he : n / 2 ^ d = n' / 2 ^ d
  · have h1 := Nat.div_add_mod n (2 ^ d)
    have h2 := Nat.div_add_mod n' (2 ^ d)
    rw [he] at h1
    have hr : n % 2 ^ d ≤ n' % 2 ^ d := by omega
    unfold rne
    rw [he]
    have hp := Nat.mod_lt n' (two_pos d)
    split <;> split <;> omega
  · have := rne_le n d
    have := rne_ge n' d
    omega
theorem rne_bound {n k d : Nat} (h : n ≤ k * 2 ^ d) : rne n d ≤ k := by
  have := rne_mono d h; rwa [rne_mul] at this

/-- Digits. -/
theorem log2_mul {n : Nat} (h : n ≠ 0) (k : Nat) : (n * 2 ^ k).log2 = n.log2 + k := by
  have hk := two_pos k
  rw [Nat.log2_eq_iff (by have := Nat.mul_pos (Nat.pos_of_ne_zero h) hk; omega)]
  have h1 := Nat.log2_self_le h
  have h2 : n < 2 ^ (n.log2 + 1) := Nat.lt_log2_self
  constructor
  · rw [Nat.pow_add]; exact Nat.mul_le_mul_right _ h1
  · rw [show n.log2 + k + 1 = (n.log2 + 1) + k from by omega, Nat.pow_add]; exact Nat.mul_lt_mul_of_pos_right h2 hk
theorem log2_mono {n n' : Nat} (h : n ≤ n') : n.log2 ≤ n'.log2 := by
  by_cases h0 : n = 0
  · subst h0; simp
  · have h1 := Nat.log2_self_le h0
    by_cases hh : n.log2 ≤ n'.log2
    · exact hh
    · have h2 : n' < 2 ^ (n'.log2 + 1) := Nat.lt_log2_self
      have h3 : 2 ^ (n'.log2 + 1) ≤ 2 ^ n.log2 := Nat.pow_le_pow_right (by decide) (by omega)
      omega

/-- Where the last digit that is kept lies, in units of 2^-1074. -/
def lowD (f : Format) : Nat := (f.leastPlace + 1074).toNat
def keep (f : Format) (M : Nat) : Nat := max (M.log2 - f.fractionBits) (lowD f)
/-- The rung of a size. -/
def rg (f : Format) (M : Nat) : Nat := min ((keep f M - lowD f) * f.binade + rne M (keep f M)) f.infRung
/-- The size of a rung. -/
def mg (f : Format) (r : Nat) : Nat := if r < f.binade then r * 2 ^ lowD f else (f.binade + r % f.binade) * 2 ^ (lowD f + (r / f.binade - 1))

theorem lowD_single : lowD single = 925 := by decide
theorem lowD_double : lowD double = 0 := by decide
theorem least_eq (f : Format) (hf : f = single ∨ f = double) : f.leastPlace = (lowD f : Int) - 1074 := by
  rcases hf with rfl | rfl <;> decide

theorem nearest_eq (f : Format) (hf : f = single ∨ f = double) (neg : Bool) (mag : Nat) (place : Int) (hp : -1074 ≤ place) :
    f.nearest neg mag place = f.word neg (rg f (szM mag place)) := by
  have hl := least_eq f hf
  unfold Format.nearest
  by_cases h0 : mag = 0
  · subst h0
    rw [if_pos rfl]
    congr 1
    unfold rg keep szM
    simp only [Nat.zero_mul, Nat.log2_zero, Nat.zero_sub, Nat.zero_max, Nat.sub_self, Nat.zero_add]
    have : rne 0 (lowD f) = 0 := by have := rne_mul 0 (lowD f); rwa [Nat.zero_mul] at this
    rw [this]; simp
  · rw [if_neg h0]
    simp only [cut_even, Nat.shiftLeft_eq]
    congr 1
    have hlog := log2_mul h0 (place + 1074).toNat
    have hlast : max (place + mag.log2 - f.fractionBits) f.leastPlace = (keep f (szM mag place) : Int) - 1074 := by
      unfold keep szM; rw [hlog, hl]
      by_cases hh : mag.log2 + (place + 1074).toNat - f.fractionBits ≤ lowD f
      · rw [Nat.max_eq_right hh, Int.max_eq_right (by omega)]
      · rw [Nat.max_eq_left (by omega), Int.max_eq_left (by omega)]; omega
    have hk : lowD f ≤ keep f (szM mag place) := Nat.le_max_right ..
    rw [hlast]
    unfold rg
    generalize keep f (szM mag place) = D at *
    have e0 : ((D : Int) - 1074 - f.leastPlace).toNat = D - lowD f := by omega
    rw [e0]
    have e1 : rne (mag * 2 ^ (place - ((D : Int) - 1074)).toNat) ((D : Int) - 1074 - place).toNat = rne (szM mag place) D := by
      unfold szM
      by_cases hh : (D : Int) ≤ place + 1074
      · have a1 : ((D : Int) - 1074 - place).toNat = 0 := by omega
        have a2 : (place + 1074).toNat = (place - ((D : Int) - 1074)).toNat + D := by omega
        rw [a1, a2, Nat.pow_add, ← Nat.mul_assoc, rne_mul, rne_zero]
      · have a1 : (place - ((D : Int) - 1074)).toNat = 0 := by omega
        have a2 : D = ((D : Int) - 1074 - place).toNat + (place + 1074).toNat := by omega
        rw [a1, Nat.pow_zero, Nat.mul_one]
        conv => rhs; rw [a2]
        rw [rne_scale]
    rw [e1]

theorem keep_mono (f : Format) {M M' : Nat} (h : M ≤ M') : keep f M ≤ keep f M' := by
  have := log2_mono h
  unfold keep; omega
theorem rne_keep (f : Format) (M : Nat) : rne M (keep f M) ≤ 2 * f.binade := by
  apply rne_bound
  have h1 : M < 2 ^ (M.log2 + 1) := Nat.lt_log2_self
  have h2 : 2 ^ (M.log2 + 1) ≤ 2 ^ (f.fractionBits + 1 + keep f M) := Nat.pow_le_pow_right (by decide) (by unfold keep; omega)
  have h3 : 2 ^ (f.fractionBits + 1 + keep f M) = 2 * f.binade * 2 ^ keep f M := by
    unfold Format.binade; rw [Nat.pow_add, Nat.pow_succ, Nat.mul_comm 2]
  omega
theorem keep_high (f : Format) {M : Nat} (h0 : M ≠ 0) (h : lowD f < keep f M) : f.binade ≤ M / 2 ^ keep f M := by
  rw [Nat.le_div_iff_mul_le (two_pos _)]
  have h1 := Nat.log2_self_le h0
  have h2 : f.fractionBits + keep f M = M.log2 := by unfold keep at *; omega
  unfold Format.binade
  rw [← Nat.pow_add, h2]; exact h1
theorem rg_mono (f : Format) {M M' : Nat} (h : M ≤ M') : rg f M ≤ rg f M' := by
  have hk := keep_mono f h
  have key : (keep f M - lowD f) * f.binade + rne M (keep f M) ≤ (keep f M' - lowD f) * f.binade + rne M' (keep f M') := by
    by_cases he : keep f M = keep f M'
    · rw [he]; have := rne_mono (keep f M') h; omega
    · have h1 : lowD f ≤ keep f M := Nat.le_max_right ..
      have h0 : M' ≠ 0 := by
        intro hh; subst hh
        have : M = 0 := by omega
        subst this; exact he rfl
      have h2 := keep_high f h0 (by omega)
      have h3 := rne_ge M' (keep f M')
      have h4 := rne_keep f M
      have h5 : (keep f M - lowD f + 1) * f.binade ≤ (keep f M' - lowD f) * f.binade := Nat.mul_le_mul_right _ (by omega)
      rw [Nat.add_mul] at h5
      omega
  unfold rg; omega

/-- What fits is kept. -/
theorem mg_rg (f : Format) (M : Nat) (h0 : M ≠ 0) (hd : 2 ^ keep f M ∣ M) (hi : rg f M < f.infRung) : mg f (rg f M) = M := by
  obtain ⟨q, hq⟩ := hd
  have hr : rne M (keep f M) = q := by
    have : M = q * 2 ^ keep f M := by rw [Nat.mul_comm]; exact hq
    conv => lhs; rw [this]
    conv => lhs; arg 2; rw [← this]
    exact rne_mul q _
  have hM : q * 2 ^ keep f M = M := by rw [Nat.mul_comm]; exact hq.symm
  have hb : 0 < f.binade := Nat.two_pow_pos _
  have hlow : lowD f ≤ keep f M := Nat.le_max_right ..
  unfold rg at hi ⊢
  rw [hr] at hi ⊢
  rw [Nat.min_eq_left (by omega)]
  by_cases hl : lowD f < keep f M
  · have h1 := keep_high f h0 hl
    have h2 : M / 2 ^ keep f M = q := by conv => lhs; arg 1; rw [← hM]
                                         exact Nat.mul_div_cancel _ (two_pos _)
    rw [h2] at h1
    have hq2 : q < 2 * f.binade := by
      have a1 : M < 2 ^ (M.log2 + 1) := Nat.lt_log2_self
      have a2 : M.log2 + 1 = f.fractionBits + 1 + keep f M := by unfold keep at *; omega
      have a3 : 2 ^ (M.log2 + 1) = 2 * f.binade * 2 ^ keep f M := by
        rw [a2]; unfold Format.binade; rw [Nat.pow_add, Nat.pow_succ, Nat.mul_comm 2]
      have a4 : q * 2 ^ keep f M < 2 * f.binade * 2 ^ keep f M := by omega
      exact Nat.lt_of_mul_lt_mul_right a4
    obtain ⟨t, rfl⟩ : ∃ t, q = f.binade + t := ⟨q - f.binade, by omega⟩
    have e1 : (keep f M - lowD f) * f.binade + (f.binade + t) = t + f.binade * (keep f M - lowD f + 1) := by
      rw [Nat.mul_add, Nat.mul_comm, Nat.mul_one]; omega
    unfold mg
    have ge : ¬ ((keep f M - lowD f) * f.binade + (f.binade + t) < f.binade) := by omega
    rw [if_neg ge, e1, Nat.add_mul_div_left _ _ hb, Nat.add_mul_mod_self_left, Nat.mod_eq_of_lt (by omega), Nat.div_eq_of_lt (by omega)]
    rw [show lowD f + (0 + (keep f M - lowD f + 1) - 1) = keep f M from by omega]
    exact hM
  · have hk : keep f M = lowD f := by omega
    rw [hk] at hM ⊢
    rw [Nat.sub_self, Nat.zero_mul, Nat.zero_add]
    have hq2 : q < 2 * f.binade := by
      have a1 : M < 2 ^ (M.log2 + 1) := Nat.lt_log2_self
      have a2 : 2 ^ (M.log2 + 1) ≤ 2 ^ (f.fractionBits + 1 + lowD f) := Nat.pow_le_pow_right (by decide) (by unfold keep at hk; omega)
      have a3 : 2 ^ (f.fractionBits + 1 + lowD f) = 2 * f.binade * 2 ^ lowD f := by
        unfold Format.binade; rw [Nat.pow_add, Nat.pow_succ, Nat.mul_comm 2]
      exact Nat.lt_of_mul_lt_mul_right (a := 2 ^ lowD f) (by omega)
    unfold mg
    by_cases hlt : q < f.binade
    · rw [if_pos hlt]; exact hM
    · rw [if_neg hlt]
      obtain ⟨t, rfl⟩ : ∃ t, q = f.binade + t := ⟨q - f.binade, by omega⟩
      have e1 : f.binade + t = t + f.binade * 1 := by omega
      rw [show (f.binade + t) % f.binade = t from by rw [e1, Nat.add_mul_mod_self_left, Nat.mod_eq_of_lt (by omega)],
        show (f.binade + t) / f.binade = 1 from by rw [e1, Nat.add_mul_div_left _ _ hb, Nat.div_eq_of_lt (by omega)]]
      rw [Nat.sub_self, Nat.add_zero]; exact hM

/-- A rung comes back from its size. -/
theorem rg_mg (f : Format) (hf : f = single ∨ f = double) (r : Nat) (hr : r < f.infRung) : rg f (mg f r) = r := by
  have hb : 0 < f.binade := Nat.two_pow_pos _
  have hfb : f.binade = 2 ^ f.fractionBits := rfl
  unfold mg
  by_cases hlt : r < f.binade
  · rw [if_pos hlt]
    by_cases h0 : r = 0
    · subst h0; rw [Nat.zero_mul]; unfold rg keep
      simp only [Nat.log2_zero, Nat.zero_sub, Nat.zero_max, Nat.sub_self, Nat.zero_mul, Nat.zero_add]
      have : rne 0 (lowD f) = 0 := by have := rne_mul 0 (lowD f); rwa [Nat.zero_mul] at this
      rw [this]; simp
    · have hl : r.log2 < f.fractionBits := by
        rw [Nat.log2_lt h0]; rw [hfb] at hlt; exact hlt
      have hk : keep f (r * 2 ^ lowD f) = lowD f := by unfold keep; rw [log2_mul h0]; omega
      unfold rg
      rw [hk, rne_mul, Nat.sub_self, Nat.zero_mul, Nat.zero_add]; omega
  · rw [if_neg hlt]
    have hx : 1 ≤ r / f.binade := (Nat.le_div_iff_mul_le hb).2 (by omega)
    have hm := Nat.mod_lt r hb
    have hl : (f.binade + r % f.binade).log2 = f.fractionBits := by
      rw [Nat.log2_eq_iff (by omega), Nat.pow_succ, ← hfb]; omega
    have hk : keep f ((f.binade + r % f.binade) * 2 ^ (lowD f + (r / f.binade - 1))) = lowD f + (r / f.binade - 1) := by
      unfold keep; rw [log2_mul (by omega), hl]; omega
    unfold rg
    rw [hk, rne_mul]
    have e := Nat.div_add_mod r f.binade
    have e2 : (lowD f + (r / f.binade - 1) - lowD f) * f.binade + f.binade = f.binade * (r / f.binade) := by
      rw [show lowD f + (r / f.binade - 1) - lowD f = r / f.binade - 1 from by omega, ← Nat.succ_mul, Nat.mul_comm, show (r / f.binade - 1).succ = r / f.binade from by omega]
    omega
theorem mg_mono (f : Format) (hf : f = single ∨ f = double) {r r' : Nat} (hr : r < f.infRung) (hr' : r' < f.infRung) (h : r ≤ r') : mg f r ≤ mg f r' := by
  by_cases hh : mg f r ≤ mg f r'
  · exact hh
  · have := rg_mono f (Nat.le_of_lt (Nat.lt_of_not_le hh))
    rw [rg_mg f hf r hr, rg_mg f hf r' hr'] at this
    have : r = r' := by omega
    subst this; omega
theorem mg_inj (f : Format) (hf : f = single ∨ f = double) {r r' : Nat} (hr : r < f.infRung) (hr' : r' < f.infRung) (h : mg f r ≤ mg f r') : r ≤ r' := by
  have := rg_mono f h
  rwa [rg_mg f hf r hr, rg_mg f hf r' hr'] at this

/-- A word of a sign and a rung, read. -/
theorem word_split (f : Format) (s : Bool) (r : Nat) (hr : r < f.signWeight) : f.word s r / f.signWeight % 2 = s.toNat ∧ f.word s r % f.signWeight = r := by
  unfold Format.word
  cases s
  · simp [Nat.div_eq_of_lt hr, Nat.mod_eq_of_lt hr]
  · have hp : 0 < f.signWeight := by omega
    have e : f.signWeight + r = r + f.signWeight * 1 := by omega
    simp only [if_true]
    rw [e, Nat.add_mul_div_left _ _ hp, Nat.add_mul_mod_self_left, Nat.div_eq_of_lt hr, Nat.mod_eq_of_lt hr]
    exact ⟨rfl, rfl⟩
theorem read_num (f : Format) (hf : f = single ∨ f = double) (b : Nat) (h : b % f.signWeight < f.infRung) :
    ∃ m e, f.read b = .number (b / f.signWeight % 2 == 1) m e ∧ -1074 ≤ e ∧ szM m e = mg f (b % f.signWeight) := by
  have hl := least_eq f hf
  have hb : 0 < f.binade := Nat.two_pow_pos _
  unfold Format.read
  simp only
  by_cases h1 : b % f.signWeight < f.binade
  · rw [if_pos h1]
    refine ⟨_, _, rfl, by omega, ?_⟩
    unfold szM mg; rw [if_pos h1, hl]; congr 2; omega
  · rw [if_neg h1, if_pos h]
    refine ⟨_, _, rfl, by omega, ?_⟩
    unfold szM mg; rw [if_neg h1, hl]; congr 2; omega
theorem read_inf (f : Format) (hf : f = single ∨ f = double) (b : Nat) (h : b % f.signWeight = f.infRung) : f.read b = .infinity (b / f.signWeight % 2 == 1) := by
  have : f.binade ≤ f.infRung := by rcases hf with rfl | rfl <;> decide
  unfold Format.read
  simp only
  rw [if_neg (by omega), if_neg (by omega), if_pos h]
theorem read_nan (f : Format) (hf : f = single ∨ f = double) (b : Nat) (h : f.infRung < b % f.signWeight) : f.read b = .nan (b / f.signWeight % 2 == 1) (b % f.signWeight - f.infRung) := by
  have : f.binade ≤ f.infRung := by rcases hf with rfl | rfl <;> decide
  unfold Format.read
  simp only
  rw [if_neg (by omega), if_neg (by omega), if_neg (by omega)]
end Go.Proofs.Ytanchgbpnioomab

/-
  Plain facts on numbers told by differences, and put back. No conditions but widths of 1 to 8.
-/
import Derived.Test.YtgodoogmbdgeoabFShM
namespace Go.Proofs.Ytgodoogmbdgeoab
set_option linter.unusedVariables false

/-- A number of bytes; the numbers laid down one behind the other; the whole. -/
def nm (z : Nat) (l : List Int) (j : Nat) : Int := num ((l.drop (j * z)).take z) z
def rowN (g : Nat → Int) (z k : Nat) : List Int := (List.range k).flatMap fun j => digs (g j) z
def laid (g : Nat → Int) (z : Nat) (l : List Int) : List Int := rowN g z (l.length / z) ++ l.drop (l.length / z * z)
def M64 : Int := 18446744073709551616
/-- What lies between numbers; their sums. -/
def dlN (z : Nat) (l : List Int) : Nat → Int
  | 0 => nm z l 0 % M64
  | j + 1 => (nm z l (j + 1) - nm z l j) % M64
def smN (z : Nat) (l : List Int) : Nat → Int
  | 0 => nm z l 0 % M64
  | j + 1 => (smN z l j + nm z l (j + 1)) % M64
def deL (z : Nat) (l : List Int) : List Int := laid (dlN z l) z l
def udL (z : Nat) (l : List Int) : List Int := laid (smN z l) z l
theorem rowN_succ (g : Nat → Int) (z k : Nat) : rowN g z (k + 1) = rowN g z k ++ digs (g k) z := by simp [rowN, List.range_succ]
theorem rowN_len (g : Nat → Int) (z : Nat) : ∀ k, (rowN g z k).length = k * z
  | 0 => by simp [rowN]
  | k + 1 => by rw [rowN_succ, List.length_append, rowN_len g z k, digs_length, Nat.add_mul, Nat.one_mul]
theorem laid_len (g : Nat → Int) (z : Nat) (l : List Int) : (laid g z l).length = l.length := by
  have := num_le l z
  rw [laid, List.length_append, rowN_len, List.length_drop]
  omega
theorem deL_len (z : Nat) (l : List Int) : (deL z l).length = l.length := laid_len _ _ _
theorem udL_len (z : Nat) (l : List Int) : (udL z l).length = l.length := laid_len _ _ _
theorem rowN_congr {g h : Nat → Int} {z : Nat} : ∀ {k : Nat}, (∀ j, j < k → digs (g j) z = digs (h j) z) → rowN g z k = rowN h z k
  | 0, _ => rfl
  | k + 1, e => by rw [rowN_succ, rowN_succ, rowN_congr (fun j hj => e j (by omega)), e k (by omega)]
theorem rowN_at (g : Nat → Int) (z : Nat) : ∀ {k j : Nat}, j < k → ((rowN g z k).drop (j * z)).take z = digs (g j) z
  | 0, j, h => by omega
  | k + 1, j, h => by
    rw [rowN_succ]
    by_cases e : j = k
    · subst e
      rw [List.drop_append_of_le_length (by rw [rowN_len]; omega), List.drop_of_length_le (by rw [rowN_len]; omega), List.nil_append, List.take_of_length_le (by rw [digs_length]; omega)]
    · have h1 : j < k := by omega
      have h2 : (j + 1) * z ≤ k * z := Nat.mul_le_mul_right z h1
      rw [Nat.add_mul, Nat.one_mul] at h2
      rw [List.drop_append_of_le_length (by rw [rowN_len]; omega), List.take_append_of_le_length (by rw [List.length_drop, rowN_len]; omega)]
      exact rowN_at g z h1
theorem nm_laid (g : Nat → Int) (z : Nat) (l : List Int) {j : Nat} (h : j < l.length / z) : nm z (laid g z l) j = num (digs (g j) z) z := by
  have h2 : (j + 1) * z ≤ l.length / z * z := Nat.mul_le_mul_right z h
  rw [Nat.add_mul, Nat.one_mul] at h2
  rw [nm, laid, List.drop_append_of_le_length (by rw [rowN_len]; omega), List.take_append_of_le_length (by rw [List.length_drop, rowN_len]; omega), rowN_at g z h]
/-- Digits modulo. -/
theorem pw_ne (k : Nat) : (256 : Int) ^ k ≠ 0 := by have := pow_pos' k; omega
theorem qd_mod (u : Int) (z k : Nat) (h : k < z) : qd (u % 256 ^ z) k % 256 = qd u k % 256 := by
  have hp := pow_pos' k
  obtain ⟨d, rfl⟩ : ∃ d, z = k + 1 + d := ⟨z - (k + 1), by omega⟩
  have e : (256 : Int) ^ (k + 1 + d) = 256 ^ k * (256 * 256 ^ d) := by rw [Int.pow_add, Int.pow_succ, Int.mul_assoc]
  unfold qd
  have h1 : u % 256 ^ (k + 1 + d) = u + 256 ^ k * (-(256 * 256 ^ d * (u / 256 ^ (k + 1 + d)))) := by
    rw [Int.emod_def, e, Int.mul_neg, Int.sub_eq_add_neg, Int.mul_assoc (256 ^ k)]
  rw [h1, Int.add_mul_ediv_left _ _ (Int.ne_of_gt hp), Int.mul_assoc, ← Int.mul_neg, Int.add_mul_emod_self_left]
theorem digs_congr {u v : Int} {z : Nat} (h : u % 256 ^ z = v % 256 ^ z) : digs u z = digs v z := by
  have key : ∀ k, k ≤ z → digs u k = digs v k := by
    intro k
    induction k with
    | zero => intro _; rfl
    | succ k ih =>
      intro hk
      rw [digs, digs, ih (by omega), ← qd_mod u z k (by omega), ← qd_mod v z k (by omega), h]
  exact key z (Nat.le_refl _)
theorem num_mod (u : Int) (z : Nat) : num (digs u z) z = u % 256 ^ z := by
  have hp := pow_pos' z
  have h := digs_congr (u := u) (v := u % 256 ^ z) (z := z) (by rw [Int.emod_emod])
  rw [h]
  exact num_back (Int.emod_nonneg _ (Int.ne_of_gt hp)) (Int.emod_lt_of_pos _ hp)
theorem num_low {x : List Int} (hb : Byt x) : ∀ k z, k < z → qd (num x z) k % 256 = x.getD k 0
  | k, 0, h => by omega
  | k, z + 1, h => by
    have hp := pow_pos' k
    by_cases e : k = z
    · subst e
      obtain ⟨b0, b1⟩ := num_bounds hb k
      obtain ⟨c0, c1⟩ := hb k
      rw [num, qd, Int.add_mul_ediv_right _ _ (Int.ne_of_gt hp), Int.ediv_eq_zero_of_lt b0 b1]
      omega
    · have ih := num_low hb k z (by omega)
      rw [← ih, num]
      obtain ⟨d, rfl⟩ : ∃ d, z = k + 1 + d := ⟨z - (k + 1), by omega⟩
      have e2 : x.getD (k + 1 + d) 0 * 256 ^ (k + 1 + d) = 256 * (x.getD (k + 1 + d) 0 * 256 ^ d) * 256 ^ k := by
        rw [Int.pow_add, Int.pow_succ]
        ac_rfl
      rw [qd, e2, Int.add_mul_ediv_right _ _ (Int.ne_of_gt hp), Int.add_mul_emod_self_left, qd]
theorem digs_num {x : List Int} {z : Nat} (hb : Byt x) (hz : x.length = z) : digs (num x z) z = x := by
  apply List.ext_getElem (by rw [digs_length, hz])
  intro k h1 h2
  have hk : k < z := by rw [digs_length] at h1; exact h1
  rw [← gd h1, ← gd h2, digs_get _ _ _ hk, num_low hb k z hk]
theorem nm_len {z : Nat} {l : List Int} {j : Nat} (h : j < l.length / z) : ((l.drop (j * z)).take z).length = z := by
  have h1 := num_le l z
  have h2 : (j + 1) * z ≤ l.length / z * z := Nat.mul_le_mul_right z h
  rw [Nat.add_mul, Nat.one_mul] at h2
  simp
  omega
theorem digs_nm {z : Nat} {l : List Int} {j : Nat} (hb : Byt l) (h : j < l.length / z) : digs (nm z l j) z = (l.drop (j * z)).take z := digs_num (byt_take hb _ _) (nm_len h)
theorem rowN_nm {z : Nat} {l : List Int} (hb : Byt l) : ∀ k, k ≤ l.length / z → rowN (nm z l) z k = l.take (k * z)
  | 0, _ => by simp [rowN]
  | k + 1, h => by
    rw [rowN_succ, rowN_nm hb k (by omega), digs_nm hb (by omega), Nat.add_mul, Nat.one_mul, List.take_add]
theorem laid_nm {z : Nat} {l : List Int} (hb : Byt l) : laid (nm z l) z l = l := by
  rw [laid, rowN_nm hb _ (Nat.le_refl _), List.take_append_drop]
/-- Two layings come to the same, where the numbers are the same at their width. -/
theorem laid_congr {g h : Nat → Int} {z : Nat} {l : List Int} (e : ∀ j, j < l.length / z → g j % 256 ^ z = h j % 256 ^ z) : laid g z l = laid h z l := by
  rw [laid, laid, rowN_congr (fun j hj => digs_congr (e j hj))]
theorem laid_twice (g h : Nat → Int) (z : Nat) (l : List Int) : laid h z (laid g z l) = laid h z l := by
  have h1 := num_le l z
  unfold laid
  have e : (rowN g z (l.length / z) ++ l.drop (l.length / z * z)).length = l.length := laid_len g z l
  rw [e, List.drop_append_of_le_length (by rw [rowN_len]; omega), List.drop_of_length_le (by rw [rowN_len]; omega), List.nil_append]
theorem dvd64 {z : Nat} (h : z ≤ 8) : (256 : Int) ^ z ∣ M64 := by
  refine ⟨256 ^ (8 - z), ?_⟩
  rw [← Int.pow_add, show z + (8 - z) = 8 by omega]
  decide
theorem m64 {z : Nat} (h : z ≤ 8) (u : Int) : u % M64 % 256 ^ z = u % 256 ^ z := Int.emod_emod_of_dvd u (dvd64 h)
theorem ud_de {z : Nat} {l : List Int} (hz : z ≤ 8) (hb : Byt l) : udL z (deL z l) = l := by
  have e : udL z (deL z l) = laid (smN z (deL z l)) z l := laid_twice _ _ _ _
  rw [e]
  refine (laid_congr (h := nm z l) (fun j => ?_)).trans (laid_nm hb)
  have hn : ∀ j, j < l.length / z → nm z (deL z l) j = dlN z l j % 256 ^ z := fun j hj => by rw [deL, nm_laid _ _ _ hj, num_mod]
  induction j with
  | zero => intro hj; rw [smN, m64 hz, hn 0 hj, Int.emod_emod, dlN, m64 hz]
  | succ j ih =>
    intro hj
    have := ih (by omega)
    rw [smN, m64 hz, Int.add_emod, this, hn _ hj, Int.emod_emod, dlN, m64 hz, ← Int.add_emod]
    congr 1
    omega
theorem de_ud {z : Nat} {l : List Int} (hz : z ≤ 8) (hb : Byt l) : deL z (udL z l) = l := by
  have e : deL z (udL z l) = laid (dlN z (udL z l)) z l := laid_twice _ _ _ _
  rw [e]
  refine (laid_congr (h := nm z l) (fun j => ?_)).trans (laid_nm hb)
  have hn : ∀ j, j < l.length / z → nm z (udL z l) j = smN z l j % 256 ^ z := fun j hj => by rw [udL, nm_laid _ _ _ hj, num_mod]
  cases j with
  | zero => intro hj; rw [dlN, m64 hz, hn 0 hj, Int.emod_emod, smN, m64 hz]
  | succ j =>
    intro hj
    rw [dlN, m64 hz, hn _ hj, hn j (by omega), smN, m64 hz, ← Int.emod_sub_emod, Int.sub_emod, Int.emod_emod, Int.emod_emod, Int.emod_emod, ← Int.sub_emod]
    congr 1
    omega
theorem digs_take (u : Int) : ∀ (k z : Nat), z ≤ k → (digs u k).take z = digs u z
  | 0, z, h => by
    obtain rfl : z = 0 := by omega
    rfl
  | k + 1, z, h => by
    by_cases e : z = k + 1
    · subst e; rw [List.take_of_length_le (by rw [digs_length]; omega)]
    · rw [digs, List.take_append_of_le_length (by rw [digs_length]; omega), digs_take u k z (by omega)]
theorem byt_digs (u : Int) (m : Nat) : Byt (digs u m) := byt_dig2 false u m
theorem val_nm (z : Nat) (l : List Int) {j : Nat} (h : j < l.length / z) : val false ((l.drop (j * z)).take z) = nm z l j := by
  rw [val, nm_len h]; rfl
theorem nm_bd {z : Nat} {l : List Int} (hb : Byt l) (hz : z ≤ 8) (j : Nat) : 0 ≤ nm z l j ∧ nm z l j < M64 := by
  obtain ⟨h1, h2⟩ := num_bounds (byt_take hb (j * z) z) z
  have := pow_le8 hz
  exact ⟨h1, by unfold M64; unfold nm; omega⟩
/-- A row under way. -/
def laidT (g : Nat → Int) (z n k : Nat) : List Int := rowN g z k ++ List.replicate (n - k * z) 0
theorem laidT_len {g : Nat → Int} {z n k : Nat} (h : k * z ≤ n) : (laidT g z n k).length = n := by
  rw [laidT, List.length_append, rowN_len, List.length_replicate]; omega
theorem laidT_zero (g : Nat → Int) (z n : Nat) : laidT g z n 0 = List.replicate n 0 := by simp [laidT, rowN]
theorem laidT_step {g : Nat → Int} {z n k : Nat} (h : (k + 1) * z ≤ n) : (laidT g z n k).take (k * z) ++ (digs (g k) z ++ (laidT g z n k).drop (k * z + z)) = laidT g z n (k + 1) := by
  rw [Nat.add_mul, Nat.one_mul] at h
  rw [laidT, List.take_append_of_le_length (by rw [rowN_len]; omega), List.take_of_length_le (by rw [rowN_len]; omega), laidT, rowN_succ, List.append_assoc]
  congr 2
  rw [List.drop_append, rowN_len, List.drop_of_length_le (by rw [rowN_len]; omega), List.nil_append, List.drop_replicate, Nat.add_mul, Nat.one_mul]
  congr 1
  omega
theorem laidT_all (g : Nat → Int) (z : Nat) (l : List Int) : (laidT g z l.length (l.length / z)).take (l.length / z * z) ++ l.drop (l.length / z * z) = laid g z l := by
  rw [laidT, List.take_append_of_le_length (by rw [rowN_len]; omega), List.take_of_length_le (by rw [rowN_len]; omega), laid]
end Go.Proofs.Ytgodoogmbdgeoab

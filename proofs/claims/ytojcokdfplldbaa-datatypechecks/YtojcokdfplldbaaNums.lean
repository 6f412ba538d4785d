/-
  Plain facts on numbers and their digits, for the layer octet: a digit of a number by division, whether it fits a width. No conditions.
-/
import Derived.WalkKit
import Derived.Laws.BitsAllLaws
namespace Go.Proofs.Ytojcokdfplldbaa
open Go.RowKit
set_option linter.unusedVariables false

/-- 1 to 8: a width. -/
def wOk (n : Int) : Bool := decide (1 ≤ n) && decide (n ≤ 8)
theorem wOk_true {n : Int} (h1 : 1 ≤ n) (h2 : n ≤ 8) : wOk n = true := by simp [wOk, h1, h2]
theorem wOk_false {n : Int} (h : n < 1 ∨ 8 < n) : wOk n = false := by unfold wOk; rcases h with h | h <;> simp <;> omega
theorem wOk_cases (n : Int) : (wOk n = true ∧ 1 ≤ n ∧ n ≤ 8) ∨ (wOk n = false ∧ (n < 1 ∨ 8 < n)) := by
  by_cases h : 1 ≤ n ∧ n ≤ 8
  · exact .inl ⟨wOk_true h.1 h.2, h⟩
  · exact .inr ⟨wOk_false (by omega), by omega⟩

/-- What the program tells of a number of a width: 0, 2 (no width) or 3 (too great). -/
def numErr (u n : Int) : Int := if wOk n = true then (if u / 2 ^ (8 * n).toNat = 0 then 0 else 3) else 2

theorem pow_256 (k : Nat) : (2 : Int) ^ (8 * k) = 256 ^ k := by rw [Int.pow_mul]; rfl
theorem pow_toNat {n : Int} (h : 0 ≤ n) : (2 : Int) ^ (8 * n).toNat = 256 ^ n.toNat := by
  rw [show (8 * n).toNat = 8 * n.toNat from by omega, pow_256]
theorem pow_pos' (k : Nat) : (0 : Int) < 256 ^ k := Int.pow_pos (by decide)

/-- Dividing by 256 once more. -/
theorem div_succ (u : Int) (k : Nat) : u / 256 ^ k / 256 = u / 256 ^ (k + 1) := by
  rw [Int.ediv_ediv_of_nonneg (Int.le_of_lt (pow_pos' k)), Int.pow_succ]

/-- A number of a width as one with a sign. -/
def sgn (u n : Int) : Int := if u < 2 ^ (8 * n - 1).toNat then u else u - 2 ^ (8 * n).toNat

theorem numErr_zero {u n : Int} (hu : 0 ≤ u) (h : numErr u n = 0) : 1 ≤ n ∧ n ≤ 8 ∧ u < 2 ^ (8 * n).toNat := by
  unfold numErr at h
  rcases wOk_cases n with ⟨hw, h1, h2⟩ | ⟨hw, _⟩
  · rw [if_pos hw] at h
    by_cases h0 : u / 2 ^ (8 * n).toNat = 0
    · refine ⟨h1, h2, ?_⟩
      have hp : (0 : Int) < 2 ^ (8 * n).toNat := Int.pow_pos (by decide)
      by_cases hlt : u < 2 ^ (8 * n).toNat
      · exact hlt
      · have := Int.le_ediv_of_mul_le (a := 1) (b := u) hp (by omega)
        omega
    · rw [if_neg h0] at h; omega
  · rw [if_neg (by simp [hw])] at h; omega

theorem numErr_arg {u n : Int} (h : n < 1 ∨ 8 < n) : numErr u n = 2 := by unfold numErr; rw [if_neg (by simp [wOk_false h])]
theorem numErr_cases (u n : Int) : (n < 1 ∨ 8 < n) ∨ (1 ≤ n ∧ n ≤ 8 ∧ numErr u n = 3) ∨ numErr u n = 0 := by
  rcases wOk_cases n with ⟨hw, h1, h2⟩ | ⟨hw, h⟩
  · unfold numErr
    rw [if_pos hw]
    split
    · exact .inr (.inr rfl)
    · exact .inr (.inl ⟨h1, h2, rfl⟩)
  · exact .inl h
theorem numErr_of {u n : Int} (hu : 0 ≤ u) (h1 : 1 ≤ n) (h2 : n ≤ 8) (h : u < 2 ^ (8 * n).toNat) : numErr u n = 0 := by
  unfold numErr
  rw [if_pos (wOk_true h1 h2), if_pos (Int.ediv_eq_zero_of_lt hu h)]

theorem sgn_cut (u : Int) (n s : Int) (hu0 : 0 ≤ u) (hn : (n = 1 ∧ s = 72057594037927936) ∨ (n = 2 ∧ s = 281474976710656) ∨ (n = 3 ∧ s = 1099511627776) ∨ (n = 4 ∧ s = 4294967296) ∨ (n = 5 ∧ s = 16777216) ∨ (n = 6 ∧ s = 65536) ∨ (n = 7 ∧ s = 256) ∨ (n = 8 ∧ s = 1))
    (h : u < 2 ^ (8 * n).toNat) : wrap64 (IntKind.u64.wrap (u * s)) / s = sgn u n := by
  have e1 : ∀ x, wrap64 x = (x + 9223372036854775808) % 18446744073709551616 - 9223372036854775808 := fun _ => by unfold wrap64; rfl
  have e2 : ∀ x, IntKind.u64.wrap x = x % 18446744073709551616 := IntKind.wrap_u64
  rw [e1, e2]
  rcases hn with ⟨rfl, rfl⟩ | ⟨rfl, rfl⟩ | ⟨rfl, rfl⟩ | ⟨rfl, rfl⟩ | ⟨rfl, rfl⟩ | ⟨rfl, rfl⟩ | ⟨rfl, rfl⟩ | ⟨rfl, rfl⟩ <;> (simp only [sgn, Int.reduceMul, Int.reduceSub, Int.reduceToNat, Int.reducePow] at h ⊢; split <;> omega)

theorem sgn_eight (u : Int) (h : u < 2 ^ ((8 : Int) * 8).toNat) (hu0 : 0 ≤ u) (hu1 : u < 18446744073709551616) : wrap64 u = sgn u 8 := by
  simp only [sgn, wrap64, Int.reduceMul, Int.reduceSub, Int.reduceToNat, Int.reducePow] at h ⊢; split <;> omega

/-- A power of two. -/
def p2 (k : Nat) : Int := 2 ^ k
theorem p2_succ (k : Nat) : p2 (k + 1) = 2 * p2 k := by unfold p2; rw [Int.pow_succ]; omega
theorem p2_pos (k : Nat) : 0 < p2 k := Int.pow_pos (by decide)
theorem p2_mono : ∀ {a b : Nat}, a ≤ b → p2 a ≤ p2 b
  | a, 0, h => by rw [show a = 0 by omega]; omega
  | a, b + 1, h => by
    by_cases e : a = b + 1
    · rw [e]; omega
    · have := p2_mono (show a ≤ b by omega); have := p2_pos b; rw [p2_succ]; omega
theorem p2_le (a : Nat) (b : Nat) (h : a ≤ b) : p2 a ≤ p2 b := p2_mono h
theorem p2_55 (k : Nat) (h : k ≤ 55) : p2 k ≤ 36028797018963968 := p2_mono h
theorem p2_56 (m : Nat) (u : Int) (h : u < 2 ^ (8 * (m : Int)).toNat) (hm : m ≤ 7) : u < 72057594037927936 := by
  have := p2_mono (show (8 * (m : Int)).toNat ≤ 56 by omega)
  have h' : u < p2 (8 * (m : Int)).toNat := h
  have e : p2 56 = 72057594037927936 := rfl
  omega
theorem sgn_low (u : Int) (m k : Nat) (hk : k = 8 * m) (h1 : 1 ≤ k) (h : u < p2 (k - 1)) : u = sgn u m := by
  unfold sgn p2 at *
  rw [show ((8 : Int) * m - 1).toNat = k - 1 by omega, if_pos h]
theorem sgn_high (u : Int) (m k : Nat) (hk : k = 8 * m) (h1 : 1 ≤ k) (h : ¬ u < p2 (k - 1)) (h3 : u < 2 ^ (8 * (m : Int)).toNat) : u - 2 * p2 (k - 1) = sgn u m := by
  unfold sgn
  rw [show ((8 : Int) * m - 1).toNat = k - 1 by omega, if_neg (by simpa [p2] using h), ← p2_succ, show k - 1 + 1 = 8 * m by omega, show ((8 : Int) * m).toNat = 8 * m by omega]
  rfl

theorem wrap_i64_in (n : Int) (h0 : -9223372036854775808 ≤ n) (h1 : n ≤ 9223372036854775807) : IntKind.i64.wrap n = n := by rw [IntKind.wrap_i64]; omega

/-- A number divided by 256 so many times. -/
def qd (u : Int) (k : Nat) : Int := u / 256 ^ k
theorem qd_zero (u : Int) : qd u 0 = u := by simp [qd]
theorem qd_succ (u : Int) (k : Nat) : qd u (k + 1) = qd u k / 256 := (div_succ u k).symm
theorem qd_nonneg {u : Int} (h : 0 ≤ u) (k : Nat) : 0 ≤ qd u k := Int.ediv_nonneg h (Int.le_of_lt (pow_pos' k))
theorem qd_le {u : Int} (h : 0 ≤ u) : ∀ k, qd u k ≤ u
  | 0 => by rw [qd_zero]; omega
  | k + 1 => by have := qd_le h k; have := qd_nonneg h k; rw [qd_succ]; omega
theorem qd_numErr {u n : Int} (h1 : 1 ≤ n) (h2 : n ≤ 8) : (numErr u n == 0) = (qd u n.toNat == 0) := by
  unfold numErr qd
  rw [if_pos (wOk_true h1 h2), pow_toNat (by omega)]
  split <;> simp_all

/-- The digits of a number, the lowest first. -/
def digs (u : Int) : Nat → List Int
  | 0 => []
  | k + 1 => digs u k ++ [qd u k % 256]
theorem digs_length (u : Int) : ∀ k, (digs u k).length = k
  | 0 => rfl
  | k + 1 => by simp [digs, digs_length u k]
/-- The digits in either order. -/
def dig2 (big : Bool) (u : Int) (m : Nat) : List Int := if big then (digs u m).reverse else digs u m
theorem dig2_length (big : Bool) (u : Int) (m : Nat) : (dig2 big u m).length = m := by cases big <;> simp [dig2, digs_length]

theorem set_mid (A R : List Int) (x y : Int) (n : Nat) (h : n = A.length) : (A ++ x :: R).set n y = A ++ y :: R := by subst h; simp

/-- The row behind so many digits, the highest first. -/
def layBig (L : List Int) (off m : Nat) (u : Int) : Nat → List Int
  | 0 => L
  | k + 1 => (layBig L off m u k).set (off + (m - 1 - k)) (qd u k % 256)
theorem layBig_length (L : List Int) (off m : Nat) (u : Int) : ∀ k, (layBig L off m u k).length = L.length
  | 0 => rfl
  | k + 1 => by simp [layBig, layBig_length L off m u k]
theorem layBig_eq (L : List Int) (off m : Nat) (u : Int) (h : off + m ≤ L.length) : ∀ k, k ≤ m → layBig L off m u k = L.take (off + (m - k)) ++ ((digs u k).reverse ++ L.drop (off + m))
  | 0, _ => by simp [layBig, digs]
  | k + 1, hk => by
    rw [layBig, layBig_eq L off m u h k (by omega)]
    have e : off + (m - k) = (off + (m - (k + 1))) + 1 := by omega
    have hlt : off + (m - (k + 1)) < L.length := by omega
    rw [e, List.take_succ_eq_append_getElem hlt, List.append_assoc]
    rw [show [L[off + (m - (k + 1))]] ++ ((digs u k).reverse ++ L.drop (off + m)) = L[off + (m - (k + 1))] :: ((digs u k).reverse ++ L.drop (off + m)) from rfl]
    rw [set_mid _ _ _ _ _ (by simp; omega)]
    simp [digs]
/-- The row behind so many digits, the lowest first. -/
def layLow (L : List Int) (off : Nat) (u : Int) : Nat → List Int
  | 0 => L
  | k + 1 => (layLow L off u k).set (off + k) (qd u k % 256)
theorem layLow_length (L : List Int) (off : Nat) (u : Int) : ∀ k, (layLow L off u k).length = L.length
  | 0 => rfl
  | k + 1 => by simp [layLow, layLow_length L off u k]
theorem layLow_eq (L : List Int) (off : Nat) (u : Int) : ∀ k, off + k ≤ L.length → layLow L off u k = L.take off ++ (digs u k ++ L.drop (off + k))
  | 0, _ => by simp [layLow, digs]
  | k + 1, hk => by
    rw [layLow, layLow_eq L off u k (by omega)]
    have hlt : off + k < L.length := by omega
    rw [List.drop_eq_getElem_cons hlt, ← List.append_assoc, set_mid _ _ _ _ _ (by simp [digs_length]; omega)]
    simp [digs]
    rw [show off + (k + 1) = off + k + 1 by omega]

/-- The number of the first digits of a list, the lowest first. -/
def num (l : List Int) : Nat → Int
  | 0 => 0
  | k + 1 => num l k + l.getD k 0 * 256 ^ k
/-- Each of a list is a byte. -/
def Byt (l : List Int) : Prop := ∀ i, 0 ≤ l.getD i 0 ∧ l.getD i 0 ≤ 255
theorem getD_reverse (l : List Int) (k : Nat) (h : k < l.length) : l.reverse.getD k 0 = l.getD (l.length - 1 - k) 0 := by
  simp [List.getD, List.getElem?_reverse h]
theorem byt_reverse {l : List Int} (h : Byt l) : Byt l.reverse := fun i => by
  by_cases hi : i < l.length
  · rw [getD_reverse l i hi]; exact h _
  · simp [List.getD, List.getElem?_eq_none (show l.reverse.length ≤ i by simp; omega)]
theorem num_bounds {l : List Int} (h : Byt l) : ∀ k, 0 ≤ num l k ∧ num l k < 256 ^ k
  | 0 => by simp [num]
  | k + 1 => by
    have ⟨h1, h2⟩ := num_bounds h k
    have ⟨h3, h4⟩ := h k
    have hp := pow_pos' k
    have h5 : 0 ≤ l.getD k 0 * 256 ^ k := Int.mul_nonneg h3 (Int.le_of_lt hp)
    have h6 : l.getD k 0 * 256 ^ k ≤ 255 * 256 ^ k := Int.mul_le_mul_of_nonneg_right h4 (Int.le_of_lt hp)
    rw [num, Int.pow_succ]
    omega
theorem pow_le8 {k : Nat} (h : k ≤ 8) : (256 : Int) ^ k ≤ 18446744073709551616 := by
  have := p2_mono (show 8 * k ≤ 64 by omega)
  unfold p2 at this
  rw [pow_256] at this
  exact this
theorem or_step (a x : Int) (k : Nat) (hk : k ≤ 7) (ha0 : 0 ≤ a) (ha1 : a < 256 ^ k) (hx0 : 0 ≤ x) (hx1 : x ≤ 255) : bits .or .u64 a (IntKind.u64.wrap (x * 2 ^ (8 * k))) = a + x * 256 ^ k := by
  have hp := pow_pos' k
  have h8 := pow_le8 (show k + 1 ≤ 8 by omega)
  rw [Int.pow_succ] at h8
  have h5 : 0 ≤ x * 256 ^ k := Int.mul_nonneg hx0 (Int.le_of_lt hp)
  have h6 : x * 256 ^ k ≤ 255 * 256 ^ k := Int.mul_le_mul_of_nonneg_right hx1 (Int.le_of_lt hp)
  rw [pow_256, IntKind.wrap_u64, Int.emod_eq_of_lt h5 (by omega), u64_or a (x * 256 ^ k) ha0 (by omega) h5 (by omega), Nat.or_comm]
  obtain ⟨a', rfl⟩ := Int.eq_ofNat_of_zero_le ha0
  obtain ⟨x', rfl⟩ := Int.eq_ofNat_of_zero_le hx0
  have e1 : ((x' : Int) * 256 ^ k).toNat = x' * 2 ^ (8 * k) := by
    rw [← pow_256, show ((x' : Int) * 2 ^ (8 * k)) = ((x' * 2 ^ (8 * k) : Nat) : Int) by simp, Int.toNat_natCast]
  have e2 : (a' : Int) < ((2 ^ (8 * k) : Nat) : Int) := by rw [← pow_256] at ha1; simpa using ha1
  rw [e1, Int.toNat_natCast, nat_join (8 * k) (x' * 2 ^ (8 * k)) a' (Nat.mul_mod_left _ _) (by omega)]
  rw [← pow_256]
  simp
  omega

theorem num_cons (x : Int) (l : List Int) : ∀ k, num (x :: l) (k + 1) = x + 256 * num l k
  | 0 => by simp [num]
  | k + 1 => by
    rw [num, num_cons x l k, num]
    simp only [List.getD_cons_succ, Int.pow_succ]
    rw [Int.mul_add, ← Int.mul_assoc, Int.mul_comm 256 (l.getD k 0 * 256 ^ k)]
    rw [Int.mul_assoc (l.getD k 0)]
    omega
/-- The number whose digits stand in a list, the highest first, as far as place k. -/
def hor (l : List Int) : Nat → Int
  | 0 => 0
  | k + 1 => hor l k * 256 + l.getD k 0
theorem hor_num (l : List Int) : ∀ k, k ≤ l.length → hor l k = num (l.take k).reverse k
  | 0, _ => rfl
  | k + 1, h => by
    have hk : k < l.length := by omega
    rw [hor, hor_num l k (by omega), List.take_succ_eq_append_getElem hk, List.reverse_append]
    rw [show [l[k]].reverse ++ (l.take k).reverse = l[k] :: (l.take k).reverse from rfl, num_cons]
    have : l.getD k 0 = l[k] := by simp [List.getD, hk]
    rw [this]
    omega
theorem hor_whole (l : List Int) : hor l l.length = num l.reverse l.length := by
  rw [hor_num l _ (Nat.le_refl _), List.take_length]
theorem hor_bounds {l : List Int} (h : Byt l) : ∀ k, 0 ≤ hor l k ∧ hor l k < 256 ^ k
  | 0 => by simp [hor]
  | k + 1 => by
    have ⟨h1, h2⟩ := hor_bounds h k
    have ⟨h3, h4⟩ := h k
    rw [hor, Int.pow_succ]
    omega
theorem hor_56 {l : List Int} (h : Byt l) (k : Nat) (hk : k ≤ 7) : hor l k ≤ 72057594037927935 := by
  have h1 := (hor_bounds h k).2
  have h2 := p2_mono (show 8 * k ≤ 56 by omega)
  unfold p2 at h2
  rw [pow_256] at h2
  have e : (2 : Int) ^ 56 = 72057594037927936 := rfl
  omega

/-- The number whose digits stand in a list, in either order. -/
def val (big : Bool) (l : List Int) : Int := num (if big then l.reverse else l) l.length
theorem byt_take {l : List Int} (h : Byt l) (a n : Nat) : Byt ((l.drop a).take n) := fun i => by
  by_cases hi : i < n
  · have e : ((l.drop a).take n).getD i 0 = l.getD (a + i) 0 := by simp [List.getD, hi]
    rw [e]; exact h _
  · have e : ((l.drop a).take n).getD i 0 = 0 := by
      rw [List.getD, List.getElem?_eq_none (by simp; omega)]; rfl
    rw [e]; omega
theorem val_bounds {l : List Int} (h : Byt l) (big : Bool) (h8 : l.length ≤ 8) : 0 ≤ val big l ∧ val big l < 18446744073709551616 := by
  have := pow_le8 h8
  cases big
  · have := num_bounds h l.length; simp [val]; omega
  · have := num_bounds (byt_reverse h) l.length; simp [val]; omega

theorem digs_get (u : Int) : ∀ (m k : Nat), k < m → (digs u m).getD k 0 = qd u k % 256
  | m + 1, k, h => by
    by_cases e : k = m
    · subst e
      rw [digs, List.getD, List.getElem?_append_right (by rw [digs_length]; omega), digs_length]
      simp
    · have hk : k < m := by omega
      rw [digs, List.getD, List.getElem?_append_left (by rw [digs_length]; omega)]
      exact digs_get u m k hk
theorem num_digs (u : Int) (m : Nat) : ∀ k, k ≤ m → num (digs u m) k + qd u k * 256 ^ k = u
  | 0, _ => by simp [num, qd]
  | k + 1, h => by
    have ih := num_digs u m k (by omega)
    rw [num, digs_get u m k (by omega), qd_succ]
    have e : qd u k = qd u k / 256 * 256 + qd u k % 256 := by omega
    have e2 : qd u k * 256 ^ k = qd u k / 256 * 256 ^ (k + 1) + qd u k % 256 * 256 ^ k := by
      rw [Int.pow_succ, Int.mul_comm (256 ^ k) 256, ← Int.mul_assoc, ← Int.add_mul, ← e]
    omega
theorem num_back {u : Int} {m : Nat} (h0 : 0 ≤ u) (h : u < 256 ^ m) : num (digs u m) m = u := by
  have := num_digs u m m (Nat.le_refl _)
  rw [qd, Int.ediv_eq_zero_of_lt h0 h] at this
  omega
theorem val_back {u : Int} {m : Nat} (big : Bool) (h0 : 0 ≤ u) (h : u < 256 ^ m) : val big (dig2 big u m) = u := by
  unfold val
  rw [dig2_length]
  cases big
  · exact num_back h0 h
  · simp only [dig2, if_true, List.reverse_reverse]
    exact num_back h0 h
theorem byt_dig2 (big : Bool) (u : Int) (m : Nat) : Byt (dig2 big u m) := by
  have h : Byt (digs u m) := fun i => by
    by_cases hi : i < m
    · rw [digs_get u m i hi]; omega
    · rw [List.getD, List.getElem?_eq_none (by rw [digs_length]; omega)]; simp
  cases big
  · exact h
  · exact byt_reverse h

/-- The row behind so many rounds of Swap. -/
def swTo (l : List Int) : Nat → List Int
  | 0 => List.replicate l.length 0
  | k + 1 => (swTo l k).set (l.length - 1 - k) (l.getD k 0)
theorem swTo_length (l : List Int) : ∀ k, (swTo l k).length = l.length
  | 0 => by simp [swTo]
  | k + 1 => by simp [swTo, swTo_length l k]
theorem swTo_eq (l : List Int) : ∀ k, k ≤ l.length → swTo l k = List.replicate (l.length - k) 0 ++ (l.take k).reverse
  | 0, _ => by simp [swTo]
  | k + 1, h => by
    have hk : k < l.length := by omega
    rw [swTo, swTo_eq l k (by omega), show l.length - k = (l.length - (k + 1)) + 1 by omega, List.replicate_succ', List.append_assoc]
    rw [show [(0 : Int)] ++ (l.take k).reverse = 0 :: (l.take k).reverse from rfl, set_mid _ _ _ _ _ (by simp; omega), List.take_succ_eq_append_getElem hk, List.reverse_append]
    rw [show l.getD k 0 = l[k] by simp [List.getD, hk]]
    rfl
theorem swTo_whole (l : List Int) : swTo l l.length = l.reverse := by rw [swTo_eq l _ (Nat.le_refl _)]; simp
theorem take_rev_succ (l : List Int) (k : Nat) (h : k < l.length) : l.reverse.take (k + 1) = l.reverse.take k ++ [l.getD (l.length - 1 - k) 0] := by
  rw [List.take_succ_eq_append_getElem (by simpa using h)]
  simp [List.getD, show l.length - 1 - k < l.length by omega]

end Go.Proofs.Ytojcokdfplldbaa

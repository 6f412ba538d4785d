/-
  Plain facts on the cyclic sum: a register that takes bits; that it is linear; that bits turned within 32 that follow one another are told. No conditions.
-/
import Derived.WalkKit
namespace Go.Proofs.Ytgodoogmbdgeoab
set_option linter.unusedVariables false

/-- The polynomial, and 32 ones. -/
def crcP : Nat := 3988292384
def ones32 : Nat := 4294967295

/-- The register takes a bit. -/
def stp (r : Nat) (b : Bool) : Nat := if (r.testBit 0 != b) = true then r / 2 ^^^ crcP else r / 2
/-- The register takes bits, one by one. -/
def feed (r : Nat) (l : List Bool) : Nat := l.foldl stp r
theorem feed_nil (r : Nat) : feed r [] = r := rfl
theorem feed_cons (r : Nat) (b : Bool) (l : List Bool) : feed r (b :: l) = feed (stp r b) l := rfl
theorem feed_append (r : Nat) (a b : List Bool) : feed r (a ++ b) = feed (feed r a) b := by simp [feed, List.foldl_append]

theorem crcP_lt : crcP < 2 ^ 32 := by decide
theorem stp_lt {r : Nat} (h : r < 2 ^ 32) (b : Bool) : stp r b < 2 ^ 32 := by
  have h2 : r / 2 < 2 ^ 32 := by omega
  unfold stp
  split
  · exact Nat.xor_lt_two_pow h2 crcP_lt
  · exact h2
theorem feed_lt : ∀ (l : List Bool) {r : Nat}, r < 2 ^ 32 → feed r l < 2 ^ 32
  | [], _, h => h
  | b :: l, r, h => feed_lt l (stp_lt h b)

theorem xor_div_two (a b : Nat) : (a ^^^ b) / 2 = a / 2 ^^^ b / 2 := by
  apply Nat.eq_of_testBit_eq
  intro i
  simp [Nat.testBit_div_two, Nat.testBit_xor]
/-- The register is linear. -/
theorem stp_lin (r d : Nat) (b c : Bool) : stp (r ^^^ d) (b != c) = stp r b ^^^ stp d c := by
  have e : ((r ^^^ d).testBit 0 != (b != c)) = ((r.testBit 0 != b) != (d.testBit 0 != c)) := by
    rw [Nat.testBit_xor]
    cases r.testBit 0 <;> cases d.testBit 0 <;> cases b <;> cases c <;> rfl
  unfold stp
  rw [e, xor_div_two]
  generalize r / 2 = x
  generalize d / 2 = y
  have k : ∀ p q s : Nat, p ^^^ q ^^^ s = p ^^^ s ^^^ q := fun p q s => by rw [Nat.xor_assoc, Nat.xor_comm q s, ← Nat.xor_assoc]
  cases r.testBit 0 != b <;> cases d.testBit 0 != c <;> simp
  · rw [Nat.xor_assoc]
  · exact k _ _ _
  · rw [k x crcP, Nat.xor_assoc x, Nat.xor_assoc y, Nat.xor_self, Nat.xor_zero]
theorem feed_lin : ∀ (A C : List Bool) (r d : Nat), A.length = C.length → feed (r ^^^ d) (List.zipWith (· != ·) A C) = feed r A ^^^ feed d C
  | [], [], r, d, _ => rfl
  | a :: A, c :: C, r, d, h => by
    rw [List.zipWith_cons_cons, feed_cons, feed_cons, feed_cons, stp_lin]
    exact feed_lin A C _ _ (by simpa using h)

/-- The number whose bits these are, the lowest first. -/
def numB : List Bool → Nat
  | [] => 0
  | b :: l => b.toNat + 2 * numB l
theorem numB_lt : ∀ l : List Bool, numB l < 2 ^ l.length
  | [] => by simp [numB]
  | b :: l => by
    have := numB_lt l
    have hb : b.toNat ≤ 1 := Bool.toNat_le b
    rw [numB, List.length_cons, Nat.pow_succ]; omega
theorem numB_bit (b : Bool) (l : List Bool) : (numB (b :: l)).testBit 0 = b := by
  rw [numB, Nat.testBit_zero]
  cases b <;> simp <;> omega
theorem numB_half (b : Bool) (l : List Bool) : numB (b :: l) / 2 = numB l := by
  have hb : b.toNat ≤ 1 := Bool.toNat_le b
  rw [numB]; omega
/-- A register that holds the bits which it takes comes to nought. -/
theorem feed_self : ∀ l : List Bool, feed (numB l) l = 0
  | [] => rfl
  | b :: l => by
    have e : stp (numB (b :: l)) b = numB l := by
      unfold stp
      rw [numB_bit, numB_half]
      cases b <;> simp
    rw [feed_cons, e]
    exact feed_self l

/-- A step to a small number came by no polynomial. -/
theorem stp_small {d : Nat} {c : Bool} (hd : d < 2 ^ 32) (h : stp d c < 2 ^ 31) : stp d c = d / 2 ∧ d.testBit 0 = c := by
  unfold stp at *
  split at h
  · exfalso
    have h1 : (d / 2 ^^^ crcP).testBit 31 = true := by
      rw [Nat.testBit_xor, Nat.testBit_lt_two_pow (show d / 2 < 2 ^ 31 by omega)]
      decide
    rw [Nat.testBit_lt_two_pow h] at h1
    cases h1
  · rename_i hx
    rw [if_neg hx]
    refine ⟨rfl, ?_⟩
    revert hx
    cases d.testBit 0 <;> cases c <;> simp

/-- Only the register that holds the bits comes to nought by them, 32 at the most. -/
theorem feed_zero : ∀ (l : List Bool) (d : Nat), l.length ≤ 32 → d < 2 ^ 32 → feed d l = 0 → d = numB l
  | [], d, _, _, h => h
  | b :: l, d, hl, hd, h => by
    rw [feed_cons] at h
    have hl' : l.length + 1 ≤ 32 := by simpa using hl
    have ih := feed_zero l (stp d b) (by omega) (stp_lt hd b) h
    have hlt : stp d b < 2 ^ 31 := by
      rw [ih]
      exact Nat.lt_of_lt_of_le (numB_lt l) (Nat.pow_le_pow_right (by decide) (by omega))
    obtain ⟨h1, h2⟩ := stp_small hd hlt
    have e : d = (d.testBit 0).toNat + 2 * (d / 2) := by
      rw [Nat.testBit_zero]
      rcases Nat.mod_two_eq_zero_or_one d with h | h <;> simp [h] <;> omega
    rw [e, h2, ← h1, ih]
    rfl

theorem feed_zeros : ∀ (n : Nat) (d : Nat), d < 2 ^ 32 → feed d (List.replicate n false) = 0 → d = 0
  | 0, d, _, h => h
  | n + 1, d, hd, h => by
    rw [List.replicate_succ, feed_cons] at h
    have h0 := feed_zeros n _ (stp_lt hd false) h
    obtain ⟨h1, h2⟩ := stp_small (c := false) hd (by rw [h0]; decide)
    rw [Nat.testBit_zero] at h2
    have : d % 2 = 0 := by simpa using h2
    omega
theorem feed_none : ∀ n, feed 0 (List.replicate n false) = 0
  | 0 => rfl
  | n + 1 => by rw [List.replicate_succ, feed_cons]; exact feed_none n

theorem numB_zero : ∀ l : List Bool, numB l = 0 → l = List.replicate l.length false
  | [], _ => rfl
  | b :: l, h => by
    have hb : b.toNat ≤ 1 := Bool.toNat_le b
    rw [numB] at h
    have h1 : b = false := by cases b; rfl; simp at h
    rw [List.length_cons, List.replicate_succ, h1, ← numB_zero l (by omega)]

/-- Bits turned within 32 that follow one another never come to nought, unless there are none. -/
theorem burst_zero (a c : Nat) (p : List Bool) (hp : p.length ≤ 32) (h : feed 0 (List.replicate a false ++ (p ++ List.replicate c false)) = 0) : p = List.replicate p.length false := by
  rw [feed_append, feed_append, feed_none] at h
  have h1 := feed_zeros c _ (feed_lt p (by decide)) h
  exact numB_zero p (feed_zero p 0 hp (by decide) h1).symm

end Go.Proofs.Ytgodoogmbdgeoab

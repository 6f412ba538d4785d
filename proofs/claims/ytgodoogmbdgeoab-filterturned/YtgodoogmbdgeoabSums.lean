/-
  Plain facts on both sums over bytes: the cyclic sum of pieces, by a table, of what bears its sum; Fletcher's sum when a byte is another one or two neighbours change places. No conditions but that bytes are bytes.
-/
import Derived.Test.YtgodoogmbdgeoabNums
import Derived.Test.YtgodoogmbdgeoabCrc
namespace Go.Proofs.Ytgodoogmbdgeoab
set_option linter.unusedVariables false

/-- The first n bits of a number, the lowest first. -/
def bitsN : Nat → Nat → List Bool
  | 0, _ => []
  | n + 1, x => x.testBit 0 :: bitsN n (x / 2)
theorem bitsN_length : ∀ n x, (bitsN n x).length = n
  | 0, _ => rfl
  | n + 1, x => by rw [bitsN, List.length_cons, bitsN_length n]
theorem numB_bitsN : ∀ n x, numB (bitsN n x) = x % 2 ^ n
  | 0, x => by simp [bitsN, numB, Nat.mod_one]
  | n + 1, x => by
    rw [bitsN, numB, numB_bitsN n, Nat.pow_succ, Nat.mul_comm (2 ^ n) 2, Nat.mod_mul, Nat.testBit_zero]
    rcases Nat.mod_two_eq_zero_or_one x with h | h <;> simp [h]
theorem bitsN_add : ∀ a b x, bitsN (a + b) x = bitsN a x ++ bitsN b (x / 2 ^ a)
  | 0, b, x => by simp [bitsN]
  | a + 1, b, x => by
    rw [show a + 1 + b = (a + b) + 1 by omega, bitsN, bitsN, bitsN_add a b, Nat.div_div_eq_div_mul, Nat.pow_succ, Nat.mul_comm 2 (2 ^ a)]
    rfl
theorem bitsN_mod : ∀ n x m, n ≤ m → bitsN n (x % 2 ^ m) = bitsN n x
  | 0, x, m, _ => rfl
  | n + 1, x, 0, h => absurd h (by omega)
  | n + 1, x, m + 1, h => by
    have e : x % 2 ^ (m + 1) / 2 = x / 2 % 2 ^ m := by
      rw [Nat.pow_succ, Nat.mul_comm, Nat.mod_mul_right_div_self]
    rw [bitsN, bitsN, e, bitsN_mod n (x / 2) m (by omega), Nat.testBit_mod_two_pow]
    simp
theorem zip_zeros : ∀ l : List Bool, List.zipWith (· != ·) (List.replicate l.length false) l = l
  | [] => rfl
  | b :: l => by
    rw [List.length_cons, List.replicate_succ, List.zipWith_cons_cons, zip_zeros l]
    cases b <;> rfl
theorem zip_self : ∀ l : List Bool, List.zipWith (· != ·) l l = List.replicate l.length false
  | [] => rfl
  | b :: l => by
    rw [List.length_cons, List.replicate_succ, List.zipWith_cons_cons, zip_self l]
    cases b <;> rfl
theorem numB_zip : ∀ a b : List Bool, a.length = b.length → numB (List.zipWith (· != ·) a b) = numB a ^^^ numB b
  | [], [], _ => rfl
  | x :: a, y :: b, h => by
    rw [List.zipWith_cons_cons]
    have ih := numB_zip a b (by simpa using h)
    apply Nat.eq_of_testBit_eq
    intro i
    cases i with
    | zero => rw [numB_bit, Nat.testBit_xor, numB_bit, numB_bit]
    | succ i => rw [Nat.testBit_succ, numB_half, ih, Nat.testBit_xor, Nat.testBit_xor, Nat.testBit_succ, Nat.testBit_succ, numB_half, numB_half]

/-- Taking bits is taking noughts, with the bits in the register. -/
theorem feed_in (r v k : Nat) (hv : v < 2 ^ k) : feed r (bitsN k v) = feed (r ^^^ v) (List.replicate k false) := by
  have h := feed_lin (List.replicate k false) (bitsN k v) (r ^^^ v) v (by simp [bitsN_length])
  have e : feed v (bitsN k v) = 0 := by
    have := feed_self (bitsN k v)
    rwa [numB_bitsN, Nat.mod_eq_of_lt hv] at this
  have z := zip_zeros (bitsN k v)
  rw [bitsN_length] at z
  rw [z, e, Nat.xor_zero, Nat.xor_assoc, Nat.xor_self, Nat.xor_zero] at h
  exact h
theorem feed_up : ∀ k m, feed (m * 2 ^ k) (List.replicate k false) = m
  | 0, m => by simp [feed]
  | k + 1, m => by
    have e : stp (m * 2 ^ (k + 1)) false = m * 2 ^ k := by
      have e1 : m * 2 ^ (k + 1) = 2 * (m * 2 ^ k) := by rw [Nat.pow_succ]; rw [← Nat.mul_assoc, Nat.mul_comm]
      have e2 : (m * 2 ^ (k + 1)).testBit 0 = false := by rw [Nat.testBit_zero, e1]; simp
      unfold stp
      rw [e2, e1]
      simp
    rw [List.replicate_succ, feed_cons, e]
    exact feed_up k m
theorem split_xor (r k : Nat) : r = r / 2 ^ k * 2 ^ k ^^^ r % 2 ^ k := by
  apply Nat.eq_of_testBit_eq
  intro i
  rw [Nat.testBit_xor, Nat.testBit_mul_two_pow, Nat.testBit_mod_two_pow, Nat.testBit_div_two_pow]
  by_cases h : k ≤ i
  · simp [h, show ¬ i < k by omega, Nat.sub_add_cancel h]
  · simp [h, show i < k by omega]
/-- Noughts by a table: what the low bits come to, and the others shifted. -/
theorem feed_table (r k : Nat) : feed r (List.replicate k false) = r / 2 ^ k ^^^ feed (r % 2 ^ k) (List.replicate k false) := by
  have h := feed_lin (List.replicate k false) (List.replicate k false) (r / 2 ^ k * 2 ^ k) (r % 2 ^ k) rfl
  have z := zip_zeros (List.replicate k false)
  rw [List.length_replicate] at z
  rw [z, ← split_xor, feed_up] at h
  exact h
/-- Bits of a number by a table. -/
theorem feed_by_table (r v k : Nat) (hv : v < 2 ^ k) : feed r (bitsN k v) = r / 2 ^ k ^^^ feed ((r ^^^ v) % 2 ^ k) (List.replicate k false) := by
  rw [feed_in r v k hv, feed_table]
  have e : (r ^^^ v) / 2 ^ k = r / 2 ^ k := by
    apply Nat.eq_of_testBit_eq
    intro i
    rw [Nat.testBit_div_two_pow, Nat.testBit_div_two_pow, Nat.testBit_xor, Nat.testBit_lt_two_pow (show v < 2 ^ (i + k) from Nat.lt_of_lt_of_le hv (Nat.pow_le_pow_right (by decide) (by omega)))]
    simp
  rw [e]

/-- All bits of bytes. -/
def allBits (l : List Int) : List Bool := l.flatMap fun x => bitsN 8 x.toNat
theorem allBits_append (a b : List Int) : allBits (a ++ b) = allBits a ++ allBits b := by simp [allBits]
theorem allBits_length : ∀ l : List Int, (allBits l).length = 8 * l.length
  | [] => rfl
  | x :: l => by
    have : allBits (x :: l) = bitsN 8 x.toNat ++ allBits l := by simp [allBits]
    rw [this, List.length_append, bitsN_length, allBits_length l, List.length_cons]; omega
/-- The cyclic sum behind another one. -/
def moreN (c : Nat) (l : List Int) : Nat := feed (c ^^^ ones32) (allBits l) ^^^ ones32
def crcN (l : List Int) : Nat := moreN 0 l
theorem ones_lt : ones32 < 2 ^ 32 := by decide
theorem moreN_lt {c : Nat} (h : c < 2 ^ 32) (l : List Int) : moreN c l < 2 ^ 32 :=
  Nat.xor_lt_two_pow (feed_lt _ (Nat.xor_lt_two_pow h ones_lt)) ones_lt
theorem crcN_lt (l : List Int) : crcN l < 2 ^ 32 := moreN_lt (by decide) l
theorem moreN_append (c : Nat) (a b : List Int) : moreN (moreN c a) b = moreN c (a ++ b) := by
  unfold moreN
  rw [allBits_append, feed_append, Nat.xor_assoc (feed _ _), Nat.xor_self, Nat.xor_zero]
theorem moreN_nil {c : Nat} : moreN c [] = c := by
  unfold moreN
  rw [show allBits [] = [] from rfl, feed_nil, Nat.xor_assoc, Nat.xor_self, Nat.xor_zero]

/-- The bits of a number's four digits, the lowest first. -/
theorem allBits_digs {u : Nat} (h : u < 2 ^ 32) : allBits (digs u 4) = bitsN 32 u := by
  have hq : ∀ k, (qd (u : Int) k % 256).toNat = u / 256 ^ k % 256 := fun k => by
    unfold qd
    have : ((u : Int) / 256 ^ k % 256) = ((u / 256 ^ k % 256 : Nat) : Int) := by simp
    rw [this, Int.toNat_natCast]
  have e : digs (u : Int) 4 = [qd u 0 % 256, qd u 1 % 256, qd u 2 % 256, qd u 3 % 256] := rfl
  have hb : ∀ x, bitsN 8 (x % 256) = bitsN 8 x := fun x => bitsN_mod 8 x 8 (by omega)
  rw [e]
  simp only [allBits, List.flatMap_cons, List.flatMap_nil, List.append_nil, hq, hb]
  rw [show (32 : Nat) = 8 + (8 + (8 + 8)) from rfl, bitsN_add, bitsN_add, bitsN_add, Nat.div_div_eq_div_mul, Nat.div_div_eq_div_mul]
  simp

/-- If what is read bears its sum, as what was sealed does, the bits that were turned come to nought. -/
theorem sealed_diff (l l' : List Int) (t' : Nat) (hl : l.length = l'.length) (ht : t' < 2 ^ 32) (h : crcN l' = t') :
    feed 0 (List.zipWith (· != ·) (allBits (l ++ digs (crcN l) 4)) (allBits (l' ++ digs t' 4))) = 0 := by
  have hc := crcN_lt l
  have hlen : (allBits l).length = (allBits l').length := by rw [allBits_length, allBits_length, hl]
  rw [allBits_append, allBits_append, allBits_digs hc, allBits_digs ht, List.zipWith_append hlen, feed_append]
  have h1 := feed_lin (allBits l) (allBits l') ones32 ones32 hlen
  rw [Nat.xor_self] at h1
  have e1 : feed ones32 (allBits l) = crcN l ^^^ ones32 := by
    unfold crcN moreN
    rw [Nat.zero_xor, Nat.xor_assoc, Nat.xor_self, Nat.xor_zero]
  have e2 : feed ones32 (allBits l') = t' ^^^ ones32 := by
    rw [← h]; unfold crcN moreN
    rw [Nat.zero_xor, Nat.xor_assoc, Nat.xor_self, Nat.xor_zero]
  have e3 : crcN l ^^^ ones32 ^^^ (t' ^^^ ones32) = crcN l ^^^ t' := by
    rw [Nat.xor_assoc, Nat.xor_comm t', ← Nat.xor_assoc ones32, Nat.xor_self, Nat.zero_xor]
  rw [h1, e1, e2, e3]
  have h2 := feed_self (List.zipWith (· != ·) (bitsN 32 (crcN l)) (bitsN 32 t'))
  rw [numB_zip _ _ (by rw [bitsN_length, bitsN_length]), numB_bitsN, numB_bitsN, Nat.mod_eq_of_lt hc, Nat.mod_eq_of_lt ht] at h2
  exact h2
/-- Two lists of bytes with one sum: their difference comes to nought. -/
theorem crc_diff (l l' : List Int) (hl : l.length = l'.length) (h : crcN l = crcN l') : feed 0 (List.zipWith (· != ·) (allBits l) (allBits l')) = 0 := by
  have h1 := feed_lin (allBits l) (allBits l') ones32 ones32 (by rw [allBits_length, allBits_length, hl])
  rw [Nat.xor_self] at h1
  have e : feed ones32 (allBits l) = feed ones32 (allBits l') := by
    have h' : feed (0 ^^^ ones32) (allBits l) ^^^ ones32 = feed (0 ^^^ ones32) (allBits l') ^^^ ones32 := h
    rw [Nat.zero_xor] at h'
    have := congrArg (· ^^^ ones32) h'
    simpa [Nat.xor_assoc] using this
  rw [h1, e, Nat.xor_self]

end Go.Proofs.Ytgodoogmbdgeoab

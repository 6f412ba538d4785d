/-
  Plain facts on bytes that were turned: what bits of them are turned, that the cyclic sum tells it; Fletcher's sum of bytes of which one is another one, or two neighbours changed places. No conditions but that bytes are bytes.
-/
import Derived.Test.YtgodoogmbdgeoabSums
namespace Go.Proofs.Ytgodoogmbdgeoab
set_option linter.unusedVariables false

/-- Fletcher's two sums, not reduced. -/
def fl (s w : Int) : List Int → Int × Int
  | [] => (s, w)
  | b :: l => fl (s + b) (w + (s + b)) l
theorem fl_append (a b : List Int) : ∀ s w, fl s w (a ++ b) = fl (fl s w a).1 (fl s w a).2 b := by
  induction a with
  | nil => intro s w; rfl
  | cons x a ih => intro s w; exact ih _ _
theorem fl_shift (l : List Int) : ∀ s w d, fl s (w + d) l = ((fl s w l).1, (fl s w l).2 + d) := by
  induction l with
  | nil => intro s w d; rfl
  | cons x l ih =>
    intro s w d
    have := ih (s + x) (w + (s + x)) d
    rw [fl, fl, show w + d + (s + x) = w + (s + x) + d by omega, this]
theorem fl_first (l : List Int) : ∀ s w, (fl s w l).1 = s + l.sum := by
  induction l with
  | nil => intro s w; simp [fl]
  | cons x l ih => intro s w; rw [fl, ih, List.sum_cons]; omega
/-- Fletcher's sum. -/
def fletch (l : List Int) : Int := (fl 0 0 l).2 % 65535 * 65536 + (fl 0 0 l).1 % 65535
theorem fletch_eq {a b : List Int} : fletch a = fletch b ↔ (fl 0 0 a).1 % 65535 = (fl 0 0 b).1 % 65535 ∧ (fl 0 0 a).2 % 65535 = (fl 0 0 b).2 % 65535 := by
  unfold fletch; omega
/-- Bytes of which one is another one. -/
theorem fletch_turned (A R : List Int) (x y : Int) (hx : 0 ≤ x ∧ x ≤ 255) (hy : 0 ≤ y ∧ y ≤ 255) (h : x ≠ y) : fletch (A ++ x :: R) ≠ fletch (A ++ y :: R) := by
  intro e
  have h1 := (fletch_eq.1 e).1
  rw [fl_first, fl_first, List.sum_append, List.sum_append, List.sum_cons, List.sum_cons] at h1
  omega
/-- Two neighbours that change places. -/
theorem fletch_places (A R : List Int) (x y : Int) (hx : 0 ≤ x ∧ x ≤ 255) (hy : 0 ≤ y ∧ y ≤ 255) : fletch (A ++ x :: y :: R) = fletch (A ++ y :: x :: R) ↔ x = y := by
  constructor
  · intro e
    have h2 := (fletch_eq.1 e).2
    rw [fl_append, fl_append] at h2
    generalize (fl 0 0 A).1 = s at h2
    generalize (fl 0 0 A).2 = w at h2
    rw [fl, fl, fl, fl] at h2
    have e1 : s + y + x = s + x + y := by omega
    have e2 : w + (s + y) + (s + x + y) = w + (s + x) + (s + x + y) + (y - x) := by omega
    rw [e1, e2, fl_shift R (s + x + y) (w + (s + x) + (s + x + y)) (y - x)] at h2
    simp only at h2
    omega
  · intro e; rw [e]

/-- A bit turned. -/
def flip : Nat → List Bool → List Bool
  | _, [] => []
  | 0, b :: l => (!b) :: l
  | n + 1, b :: l => b :: flip n l
theorem flip_length : ∀ n l, (flip n l).length = l.length
  | _, [] => by simp [flip]
  | 0, b :: l => rfl
  | n + 1, b :: l => by simp [flip, flip_length n l]
theorem flip_append_left : ∀ (n : Nat) (a b : List Bool), n < a.length → flip n (a ++ b) = flip n a ++ b
  | n, [], b, h => by simp at h
  | 0, x :: a, b, _ => rfl
  | n + 1, x :: a, b, h => by rw [List.cons_append, flip, flip, flip_append_left n a b (by simpa using h)]; rfl
theorem flip_append_right : ∀ (n : Nat) (a b : List Bool), flip (a.length + n) (a ++ b) = a ++ flip n b
  | n, [], b => by simp
  | n, x :: a, b => by rw [List.length_cons, show a.length + 1 + n = (a.length + n) + 1 by omega, List.cons_append, flip, flip_append_right n a b]; rfl
theorem bitsN_flip : ∀ (n x k : Nat), k < n → bitsN n (x ^^^ 2 ^ k) = flip k (bitsN n x)
  | 0, x, k, h => by omega
  | n + 1, x, 0, _ => by
    have e1 : (x ^^^ 2 ^ 0).testBit 0 = !x.testBit 0 := by rw [Nat.testBit_xor]; cases x.testBit 0 <;> rfl
    have e2 : (x ^^^ 2 ^ 0) / 2 = x / 2 := by rw [xor_div_two]; simp
    rw [bitsN, bitsN, e1, e2]; rfl
  | n + 1, x, k + 1, h => by
    have e1 : (x ^^^ 2 ^ (k + 1)).testBit 0 = x.testBit 0 := by
      rw [Nat.testBit_xor, Nat.testBit_two_pow]; simp
    have e2 : (x ^^^ 2 ^ (k + 1)) / 2 = x / 2 ^^^ 2 ^ k := by
      rw [xor_div_two, Nat.pow_succ, Nat.mul_div_cancel _ (by decide)]
    rw [bitsN, bitsN, e1, e2, bitsN_flip n (x / 2) k (by omega)]; rfl
/-- A bit of a byte turned is a bit of all bits turned. -/
theorem allBits_flip (A R : List Int) (x : Nat) (k : Nat) (hk : k < 8) : allBits (A ++ ((x ^^^ 2 ^ k : Nat) : Int) :: R) = flip (8 * A.length + k) (allBits (A ++ (x : Int) :: R)) := by
  have e : ∀ y : Nat, allBits (A ++ (y : Int) :: R) = allBits A ++ (bitsN 8 y ++ allBits R) := fun y => by simp [allBits]
  rw [e, e, ← allBits_length A, flip_append_right, flip_append_left k _ _ (by rw [bitsN_length]; exact hk), bitsN_flip 8 x k hk]
theorem zip_flip : ∀ (n : Nat) (a b : List Bool), List.zipWith (· != ·) a (flip n b) = flip n (List.zipWith (· != ·) a b)
  | n, [], b => by simp [flip]
  | n, a, [] => by simp [flip]
  | 0, x :: a, y :: b => by rw [flip, List.zipWith_cons_cons, List.zipWith_cons_cons, flip]; cases x <;> cases y <;> rfl
  | n + 1, x :: a, y :: b => by rw [flip, List.zipWith_cons_cons, List.zipWith_cons_cons, flip, zip_flip n a b]

/-- The bits that a burst turns: those of u, from place k on, as far as i of them. -/
def turnTo (u k n : Nat) : Nat → List Bool
  | 0 => List.replicate n false
  | i + 1 => if u.testBit i then flip (k + i) (turnTo u k n i) else turnTo u k n i
theorem turnTo_length (u k n : Nat) : ∀ i, (turnTo u k n i).length = n
  | 0 => by simp [turnTo]
  | i + 1 => by
    rw [turnTo]
    split
    · rw [flip_length, turnTo_length u k n i]
    · exact turnTo_length u k n i
theorem flip_zero (i m : Nat) (h : i < m) : flip i (List.replicate m false) = List.replicate i false ++ true :: List.replicate (m - i - 1) false := by
  have e : List.replicate m false = List.replicate i false ++ List.replicate (m - i) false := by rw [List.replicate_append_replicate]; congr 1; omega
  have e2 : List.replicate (m - i) false = false :: List.replicate (m - i - 1) false := by rw [show m - i = (m - i - 1) + 1 by omega, List.replicate_succ]; rfl
  have := flip_append_right 0 (List.replicate i false) (List.replicate (m - i) false)
  rw [List.length_replicate, Nat.add_zero] at this
  rw [e, this, e2]; rfl
/-- A burst: noughts, at most so many bits, noughts. -/
theorem turnTo_form (u k n : Nat) : ∀ i, k + i ≤ n → turnTo u k n i = List.replicate k false ++ (bitsN i u ++ List.replicate (n - k - i) false)
  | 0, h => by
    rw [turnTo, bitsN, List.nil_append, List.replicate_append_replicate]; congr 1; omega
  | i + 1, h => by
    have ih := turnTo_form u k n i (by omega)
    have hb : bitsN (i + 1) u = bitsN i u ++ [u.testBit i] := by
      rw [bitsN_add i 1 u, bitsN, bitsN, Nat.testBit_div_two_pow]; simp
    have hr : List.replicate (n - k - i) false = false :: List.replicate (n - k - (i + 1)) false := by
      rw [show n - k - i = (n - k - (i + 1)) + 1 by omega, List.replicate_succ]
    rw [turnTo, hb]
    cases hu : u.testBit i
    · rw [if_neg (by simp), ih, hr]; simp
    · rw [if_pos rfl, ih]
      have h1 := flip_append_right i (List.replicate k false) (bitsN i u ++ List.replicate (n - k - i) false)
      rw [List.length_replicate] at h1
      have h2 := flip_append_right 0 (bitsN i u) (List.replicate (n - k - i) false)
      rw [bitsN_length, Nat.add_zero] at h2
      rw [h1, h2, hr, flip]; simp

end Go.Proofs.Ytgodoogmbdgeoab

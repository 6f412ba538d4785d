/-
  Extents and selections in plain words: how many elements, what is refused, and which tuples in which order. No conditions.
-/
import Derived.Test.YtojcokdfplldbaaProg
namespace Go.Proofs.Ytojcokdfplldbaa
set_option linter.unusedVariables false

/-- The product of a list. -/
def prd : List Int → Int
  | [] => 1
  | x :: l => x * prd l
theorem prd_append : ∀ a b : List Int, prd (a ++ b) = prd a * prd b
  | [], b => by simp [prd]
  | x :: a, b => by rw [List.cons_append, prd, prd, prd_append a b, Int.mul_assoc]
theorem prd_zero : ∀ {l : List Int}, (0 : Int) ∈ l → prd l = 0
  | x :: l, h => by
    rcases List.mem_cons.1 h with h | h
    · rw [prd, ← h, Int.zero_mul]
    · rw [prd, prd_zero h, Int.mul_zero]
theorem prd_pos : ∀ {l : List Int}, (∀ x ∈ l, 0 ≤ x) → (0 : Int) ∉ l → 1 ≤ prd l
  | [], _, _ => by simp [prd]
  | x :: l, h, h0 => by
    have h1 := h x (by simp)
    have h2 : x ≠ 0 := fun e => h0 (by simp [e])
    have h3 := prd_pos (l := l) (fun y hy => h y (by simp [hy])) (fun e => h0 (by simp [e]))
    have h4 : 1 * 1 ≤ x * prd l := Int.mul_le_mul (by omega) h3 (by omega) (by omega)
    rw [prd]
    omega
theorem prd_nonneg {l : List Int} (h : ∀ x ∈ l, 0 ≤ x) : 0 ≤ prd l := by
  by_cases h0 : (0 : Int) ∈ l
  · rw [prd_zero h0]; omega
  · have := prd_pos h h0; omega
theorem prd_eq_zero {l : List Int} (h : ∀ x ∈ l, 0 ≤ x) : prd l = 0 ↔ (0 : Int) ∈ l :=
  ⟨fun e => Classical.byContradiction fun h0 => by have := prd_pos h h0; omega, prd_zero⟩
/-- What the program's product comes to from a place on. -/
def prodG (most : Int) : List Int → Int → Int × Bool
  | [], p => (p, true)
  | n :: l, p => if most / p < n then (0, false) else prodG most l (p * n)
theorem prodG_eq (most : Int) : ∀ (l : List Int) (p : Int), (∀ x ∈ l, 1 ≤ x) → 1 ≤ p → p ≤ most → prodG most l p = if p * prd l ≤ most then (p * prd l, true) else (0, false)
  | [], p, _, h1, h2 => by rw [prodG, prd, Int.mul_one, if_pos h2]
  | n :: l, p, h, h1, h2 => by
    have hn := h n (by simp)
    have hl := prd_pos (l := l) (fun x hx => by have := h x (by simp [hx]); omega) (fun e => by have := h 0 (by simp [e]); omega)
    have hdiv : most / p < n ↔ most < p * n := by
      rw [Int.ediv_lt_iff_lt_mul (by omega), Int.mul_comm]
    rw [prodG]
    by_cases hc : most / p < n
    · have h3 : most < p * n := hdiv.1 hc
      have h4 : p * n * 1 ≤ p * n * prd l := Int.mul_le_mul_of_nonneg_left hl (Int.mul_nonneg (by omega) (by omega))
      rw [if_pos hc, prd, ← Int.mul_assoc, if_neg (by omega)]
    · have h3 : ¬ most < p * n := fun e => hc (hdiv.2 e)
      have h4 : 1 * 1 ≤ p * n := Int.mul_le_mul h1 hn (by omega) (by omega)
      rw [if_neg hc, prodG_eq most l (p * n) (fun x hx => h x (by simp [hx])) (by omega) (by omega), prd, Int.mul_assoc]
/-- The product, if it is at most so great. -/
def prodM (most : Int) (l : List Int) : Int × Bool := if prd l ≤ most then (prd l, true) else (0, false)
theorem prodM_zero {most : Int} {l : List Int} (h : (0 : Int) ∈ l) (hm : 0 ≤ most) : prodM most l = (0, true) := by
  rw [prodM, prd_zero h, if_pos hm]
theorem prodM_eq {most : Int} {l : List Int} (h : ∀ x ∈ l, 0 ≤ x) (h0 : (0 : Int) ∉ l) (hm : 1 ≤ most) : prodM most l = prodG most l 1 := by
  rw [prodG_eq most l 1 (fun x hx => by have := h x hx; have : x ≠ 0 := fun e => h0 (e ▸ hx); omega) (by omega) hm, Int.one_mul, prodM]

/-- Is it an extent's list of dimensions? -/
def dimsB (D : List Int) : Bool := decide (D.length ≤ 4) && D.all fun x => decide (0 ≤ x) && decide (x ≤ 1048576)
def elN (D : List Int) : Int := if dimsB D = true ∧ prd D ≤ 1048576 then prd D else 0
def elE (D : List Int) : Int := if dimsB D = true then (if prd D ≤ 1048576 then 0 else 3) else 2

/-- A selection. -/
structure Sel where
  kind : Int
  pts : List (List Int)
  st : List Int
  sd : List Int
  ct : List Int
  bl : List Int
/-- What is selected along a dimension. -/
structure Ax where
  st : Int
  sd : Int
  ct : Int
  bl : Int
def okB (n : Nat) (l : List Int) : Bool := decide (l.length = n) && l.all fun x => decide (0 ≤ x)
def outB (D p : List Int) : Bool := (D.zip p).any fun x => decide (x.1 ≤ x.2)
def wholeA (D : List Int) : List Ax := D.map fun n => ⟨0, 1, n, 1⟩
def slabA : List Int → List Int → List Int → List Int → List Ax
  | a :: a', b :: b', c :: c', d :: d' => ⟨a, b, c, d⟩ :: slabA a' b' c' d'
  | _, _, _, _ => []
def cnts (A : List Ax) : List Int := A.flatMap fun a => [a.ct, a.bl]
def fitB (n : Int) (a : Ax) : Bool := decide (a.bl - 1 ≤ n - 1 - a.st) && (decide (a.sd = 0) || decide (a.ct - 1 ≤ (n - 1 - a.st - (a.bl - 1)) / a.sd))
def fitsB (D : List Int) (A : List Ax) : Bool := (D.zip A).all fun x => fitB x.1 x.2
def axE (D : List Int) (A : List Ax) : Int := if prd (cnts A) ≠ 0 ∧ fitsB D A = false then 17 else if prd (cnts A) ≤ 4096 then 0 else 18
def ptE (D : List Int) (P : List (List Int)) : Int := if P.all (okB D.length) = false then 2 else if P.any (outB D) = true then 17 else if P.length ≤ 4096 then 0 else 18
def slE (D : List Int) (s : Sel) : Int :=
  if elE D ≠ 0 then elE D
  else if s.kind = 1 then axE D (wholeA D)
  else if s.kind = 2 then ptE D s.pts
  else if s.kind = 3 then (if (okB D.length s.st && okB D.length s.sd && okB D.length s.ct && okB D.length s.bl) = true then axE D (slabA s.st s.sd s.ct s.bl) else 2)
  else 2
/-- The k-th number along a dimension. -/
def atA (a : Ax) (k : Nat) : Int := a.st + ((k : Int) / a.bl) * a.sd + (k : Int) % a.bl
def lenA (a : Ax) : Nat := (a.ct * a.bl).toNat
def prdN : List Nat → Nat
  | [] => 1
  | x :: l => x * prdN l
theorem prdN_append : ∀ a b : List Nat, prdN (a ++ b) = prdN a * prdN b
  | [], b => by simp [prdN]
  | x :: a, b => by rw [List.cons_append, prdN, prdN, prdN_append a b, Nat.mul_assoc]
/-- The digits of a number. -/
def dig : List Nat → Nat → List Nat
  | [], _ => []
  | _ :: ns, k => k / prdN ns :: dig ns (k % prdN ns)
theorem dig_length : ∀ (L : List Nat) (k : Nat), (dig L k).length = L.length
  | [], _ => rfl
  | _ :: ns, k => by rw [dig, List.length_cons, dig_length ns, List.length_cons]
/-- The next digits. -/
def inc : List Nat → List Nat → Option (List Nat)
  | n :: ns, s :: ss => match inc ns ss with
    | some t => some (s :: t)
    | none => if s + 1 < n then some ((s + 1) :: List.replicate ns.length 0) else none
  | _, _ => none
theorem dig_zero : ∀ L : List Nat, dig L 0 = List.replicate L.length 0
  | [] => rfl
  | n :: ns => by rw [dig, Nat.zero_div, Nat.zero_mod, dig_zero ns]; rfl
theorem prdN_pos : ∀ {L : List Nat}, (∀ x ∈ L, 0 < x) → 0 < prdN L
  | [], _ => by simp [prdN]
  | x :: L, h => by rw [prdN]; exact Nat.mul_pos (h x (by simp)) (prdN_pos (fun y hy => h y (by simp [hy])))
theorem inc_dig : ∀ (L : List Nat) (k : Nat), (∀ x ∈ L, 0 < x) → k < prdN L → inc L (dig L k) = if k + 1 < prdN L then some (dig L (k + 1)) else none
  | [], k, _, h => by
    rw [prdN] at h
    rw [prdN, if_neg (by omega)]
    rfl
  | n :: ns, k, hp, h => by
    have hm := prdN_pos (L := ns) (fun y hy => hp y (by simp [hy]))
    obtain ⟨m, hmm⟩ : ∃ m, prdN ns = m := ⟨_, rfl⟩
    rw [prdN, hmm] at h ⊢
    rw [dig, dig, hmm]
    rw [hmm] at hm
    have hr : k % m < m := Nat.mod_lt _ hm
    have ih := inc_dig ns (k % m) (fun y hy => hp y (by simp [hy])) (by rw [hmm]; exact hr)
    rw [hmm] at ih
    rw [inc, ih]
    have hk : m * (k / m) + k % m = k := Nat.div_add_mod k m
    by_cases h1 : k % m + 1 < m
    · rw [if_pos h1]
      have e1 : (k + 1) / m = k / m := by
        rw [← hk, Nat.add_assoc, Nat.mul_add_div hm, Nat.div_eq_of_lt h1, Nat.mul_add_div hm, Nat.div_eq_of_lt hr]
      have e2 : (k + 1) % m = k % m + 1 := by
        rw [← hk, Nat.add_assoc, Nat.mul_add_mod, Nat.mod_eq_of_lt h1, Nat.mul_add_mod, Nat.mod_eq_of_lt hr]
      have h2 : k / m < n := (Nat.div_lt_iff_lt_mul hm).2 h
      have h3 : m * (k / m) + m ≤ n * m := by
        have : (k / m + 1) * m ≤ n * m := Nat.mul_le_mul_right m h2
        rw [Nat.add_mul, Nat.one_mul, Nat.mul_comm] at this
        exact this
      have h5 : k + 1 < n * m := by omega
      rw [e1, e2, if_pos h5]
    · rw [if_neg h1]
      have e0 : k + 1 = m * (k / m + 1) := by rw [Nat.mul_add, Nat.mul_one]; omega
      have e1 : (k + 1) / m = k / m + 1 := by rw [e0, Nat.mul_div_cancel_left _ hm]
      have e2 : (k + 1) % m = 0 := by rw [e0, Nat.mul_mod_right]
      have h3 : k + 1 < n * m ↔ k / m + 1 < n := by
        rw [e0, Nat.mul_comm]
        exact Nat.mul_lt_mul_right hm
      by_cases h4 : k / m + 1 < n
      · rw [if_pos (h3.2 h4), e1, e2, dig_zero, if_pos h4]
      · rw [if_neg (fun e => h4 (h3.1 e)), if_neg h4]
theorem inc_app : ∀ (A SA R SR T : List Nat), A.length = SA.length → inc R SR = some T → inc (A ++ R) (SA ++ SR) = some (SA ++ T)
  | [], [], R, SR, T, _, h => h
  | a :: A, s :: SA, R, SR, T, hl, h => by
    rw [List.cons_append, List.cons_append, inc, inc_app A SA R SR T (by simpa using hl) h]
    rfl
  | [], _ :: _, _, _, _, hl, _ => by simp at hl
  | _ :: _, [], _, _, _, hl, _ => by simp at hl
/-- The k-th tuple. -/
def tupA (A : List Ax) (k : Nat) : List Int := (A.zip (dig (A.map lenA) k)).map fun x => atA x.1 x.2
theorem dig_snoc : ∀ (L : List Nat) (n k : Nat), k < prdN (L ++ [n]) → dig (L ++ [n]) k = dig L (k / n) ++ [k % n]
  | [], n, k, h => by
    have h' : k < n := by simpa [prdN] using h
    rw [List.nil_append, dig, dig, dig, Nat.mod_eq_of_lt h']
    simp [prdN]
  | a :: L, n, k, h => by
    have h2 : prdN (L ++ [n]) = prdN L * n := by rw [prdN_append]; simp [prdN]
    have hp : 0 < prdN L * n := by
      rw [List.cons_append, prdN, h2] at h
      rcases Nat.eq_zero_or_pos (prdN L * n) with h0 | h0
      · rw [h0] at h; omega
      · exact h0
    rw [List.cons_append, dig, dig, h2, dig_snoc L n _ (by rw [h2]; exact Nat.mod_lt _ hp), List.cons_append, Nat.div_div_eq_div_mul, Nat.mul_comm n, Nat.mul_comm (prdN L) n, Nat.mod_mul_right_div_self, Nat.mod_mul_right_mod]
end Go.Proofs.Ytojcokdfplldbaa

/-
  Package match in plain words: what is packed comes back, and is short. No conditions.
-/
import Derived.Test.YtgodoogmbdgeoabMTok
namespace Go.Proofs.Ytgodoogmbdgeoab
set_option linter.unusedVariables false

/-- The document's tokens of bytes, and their bytes; what is packed; what is unpacked. -/
def toks (b : List Int) : List Tok := tokF b (b.length + 1) 0 0
def tokB (b : List Int) : List Int := (toks b).flatMap Tok.byt
def pkL (b : List Int) : List Int := if (tokB b).length < b.length then 1 :: tokB b else 0 :: b
def unE (x : List Int) (most : Nat) : List Int × Int :=
  match x with
  | [] => ([], 5)
  | k :: t => if 1 < k then ([], 5) else if k = 0 then (if most < t.length then ([], 3) else (t, 0)) else decF most (t.length + 1) t []
theorem toks_good (b : List Int) : appAll (toks b) [] = b ∧ Good (toks b) [] := by
  have h := tok_all b (b.length + 1) 0 0 (Nat.le_refl _) (Nat.zero_le _) (by omega) (by omega)
  rwa [List.take_zero] at h
theorem byt_len (t : Tok) : 1 ≤ t.byt.length := by cases t <;> simp [Tok.byt]
theorem flat_len : ∀ ts : List Tok, ts.length ≤ (ts.flatMap Tok.byt).length
  | [] => Nat.le_refl _
  | t :: ts => by
    have h1 := byt_len t
    have h2 := flat_len ts
    rw [List.flatMap_cons, List.length_append, List.length_cons]
    omega
/-- What was packed comes back, if there is room. -/
theorem un_pk (b : List Int) (most : Nat) : unE (pkL b) most = if b.length ≤ most then (b, 0) else ([], 3) := by
  unfold pkL
  split
  · obtain ⟨h1, h2⟩ := toks_good b
    rw [unE, if_neg (by omega), if_neg (by omega), tokB, dec_good most (toks b) _ [] h2 (Nat.zero_le _) (by have := flat_len (toks b); omega), h1]
  · rw [unE, if_neg (by omega), if_pos rfl]
    by_cases h : b.length ≤ most
    · rw [if_neg (by omega), if_pos h]
    · rw [if_pos (by omega), if_neg h]
/-- It has at most a byte more. -/
theorem pk_short (b : List Int) : 1 ≤ (pkL b).length ∧ (pkL b).length ≤ b.length + 1 := by
  unfold pkL
  split <;> simp <;> omega
theorem dec_most (most : Nat) : ∀ (f : Nat) (t o : List Int), o.length ≤ most → ((decF most f t o).2 = 0 ∧ (decF most f t o).1.length ≤ most) ∨ ((decF most f t o).1 = [] ∧ ((decF most f t o).2 = 3 ∨ (decF most f t o).2 = 5))
  | 0, t, o, h => .inl ⟨rfl, h⟩
  | f + 1, [], o, h => .inl ⟨rfl, h⟩
  | f + 1, k :: t, o, h => by
    rw [decF]
    split
    · split
      · exact .inr ⟨rfl, .inr rfl⟩
      · split
        · exact .inr ⟨rfl, .inl rfl⟩
        · rename_i h3
          exact dec_most most f _ _ (by omega)
    · split
      · exact .inr ⟨rfl, .inr rfl⟩
      · split
        · exact .inr ⟨rfl, .inl rfl⟩
        · rename_i h3
          exact dec_most most f _ _ (by omega)
/-- Whatever is unpacked: there are never more than may be. -/
theorem un_most (x : List Int) (most : Nat) : ((unE x most).2 = 0 ∧ (unE x most).1.length ≤ most) ∨ ((unE x most).1 = [] ∧ ((unE x most).2 = 3 ∨ (unE x most).2 = 5)) := by
  cases x with
  | nil => exact .inr ⟨rfl, .inr rfl⟩
  | cons k t =>
    unfold unE
    simp only []
    split
    · exact .inr ⟨rfl, .inr rfl⟩
    · split
      · split
        · exact .inr ⟨rfl, .inl rfl⟩
        · rename_i h3
          exact .inl ⟨rfl, by show t.length ≤ most; omega⟩
      · exact dec_most most _ t [] (Nat.zero_le _)
/-- Bytes that are all alike: the best copy takes all that is left, or 131. -/
theorem alkF_rep {k p d : Nat} {x : Int} (h1 : 1 ≤ d) (hp : d ≤ p) : ∀ (f n : Nat), n ≤ k - p → alkF (List.replicate k x) p d f n = min (n + f) (k - p)
  | 0, n, h => by rw [alkF]; omega
  | f + 1, n, h => by
    rw [alkF]
    by_cases hc : p + n < k
    · rw [if_pos ⟨by rw [List.length_replicate]; exact hc, by rw [List.getElem?_replicate, List.getElem?_replicate, if_pos hc, if_pos (by omega)]⟩, alkF_rep h1 hp f (n + 1) (by omega)]
      omega
    · rw [if_neg (fun h => hc (by have := h.1; rwa [List.length_replicate] at this))]
      omega
theorem bst_rep {k p : Nat} {x : Int} (hp : 1 ≤ p) : (bst (List.replicate k x) p).1 = min 131 (k - p) := by
  obtain ⟨h1, h2⟩ := bstF_spec (List.replicate k x) p (min 255 p)
  have h3 := h2 1 (Nat.le_refl _) (by omega)
  have h4 : ∀ d, 1 ≤ d → d ≤ p → alk (List.replicate k x) p d = min 131 (k - p) := fun d a b => by rw [alk, alkF_rep a b 131 0 (by omega)]
  rw [h4 1 (Nat.le_refl _) hp] at h3
  have e : (bst (List.replicate k x) p).1 = (bstF (List.replicate k x) p (min 255 p)).1 := rfl
  rcases h1 with h | ⟨h5, h6, h7⟩
  · omega
  · rw [h4 _ h5 (by omega)] at h7
    omega
def sz (ts : List Tok) : Nat := (ts.flatMap Tok.byt).length
theorem sz_append (a b : List Tok) : sz (a ++ b) = sz a + sz b := by rw [sz, List.flatMap_append, List.length_append]; rfl
theorem sz_run (l : List Int) : sz (runT l) ≤ l.length + 1 := by
  unfold runT
  split
  · exact Nat.zero_le _
  · simp [sz, Tok.byt]
theorem sz_cp (n d : Nat) (ts : List Tok) : sz (.cp n d :: ts) = 2 + sz ts := by
  rw [sz, List.flatMap_cons, List.length_append]; rfl
/-- The last bytes, fewer than 4. -/
theorem rep_tail {k : Nat} {x : Int} : ∀ (f p q : Nat), 1 ≤ p → q ≤ p → k - q ≤ 6 → k - p ≤ 3 → p ≤ k → sz (tokF (List.replicate k x) f p q) ≤ k - q + 1
  | 0, p, q, _, _, _, _, _ => Nat.zero_le _
  | f + 1, p, q, h1, h2, h3, h4, h5 => by
    rw [tokF, List.length_replicate]
    split
    · rw [bst_rep h1, if_neg (by omega), if_neg (by omega)]
      exact rep_tail f (p + 1) q (by omega) (by omega) h3 (by omega) (by omega)
    · have := sz_run ((List.replicate k x).drop q)
      rw [List.length_drop, List.length_replicate] at this
      exact this
/-- Copies, one behind the other. -/
theorem rep_row {k : Nat} {x : Int} : ∀ (f p : Nat), 1 ≤ p → p ≤ k → sz (tokF (List.replicate k x) f p p) ≤ 2 * ((k - p + 127) / 131) + 4
  | 0, p, _, _ => Nat.zero_le _
  | f + 1, p, h1, h2 => by
    by_cases h3 : k - p ≤ 3
    · have := rep_tail (k := k) (x := x) (f + 1) p p h1 (Nat.le_refl _) (by omega) h3 h2
      omega
    · rw [tokF, List.length_replicate, if_pos (by omega), bst_rep h1, if_pos (by omega), sz_append, sz_cp]
      have h4 : sz (runT ((List.take p (List.replicate k x)).drop p)) = 0 := by
        have : (List.take p (List.replicate k x)).drop p = [] := List.drop_of_length_le (by rw [List.length_take]; omega)
        rw [this]
        rfl
      have h5 := rep_row (k := k) (x := x) f (p + min 131 (k - p)) (by omega) (by omega)
      rw [h4]
      by_cases h6 : 131 ≤ k - p
      · rw [Nat.min_eq_left h6] at h5 ⊢
        have e : (k - p + 127) / 131 = (k - (p + 131) + 127) / 131 + 1 := by
          rw [show k - p + 127 = (k - (p + 131) + 127) + 131 by omega, Nat.add_div_right _ (by omega)]
        omega
      · rw [Nat.min_eq_right (by omega)] at h5 ⊢
        rw [show k - (p + (k - p)) + 127 = 127 by omega] at h5
        have : 1 ≤ (k - p + 127) / 131 := (Nat.le_div_iff_mul_le (by omega)).2 (by omega)
        omega
/-- Bytes that are all alike are packed short. -/
theorem pk_alike (k : Nat) (x : Int) : (pkL (List.replicate k x)).length ≤ k / 64 + 128 := by
  have key : (tokB (List.replicate k x)).length ≤ 2 * ((k + 127) / 131) + 10 := by
    show sz (tokF (List.replicate k x) ((List.replicate k x).length + 1) 0 0) ≤ _
    rw [tokF, List.length_replicate]
    have hb0 : (bst (List.replicate k x) 0).1 = 0 := rfl
    split
    · rename_i hk
      rw [hb0, if_neg (by omega), if_neg (by omega), Nat.zero_add]
      by_cases h3 : k - 1 ≤ 3
      · have := rep_tail (k := k) (x := x) k 1 0 (Nat.le_refl _) (by omega) (by omega) h3 (by omega)
        omega
      · cases k with
        | zero => omega
        | succ k =>
          rw [tokF, List.length_replicate, if_pos (by omega), bst_rep (Nat.le_refl _), if_pos (by omega), sz_append, sz_cp]
          have h4 := sz_run ((List.take 1 (List.replicate (k + 1) x)).drop 0)
          have h4l : ((List.take 1 (List.replicate (k + 1) x)).drop 0).length = 1 := by rw [List.drop_zero, List.length_take, List.length_replicate]; omega
          rw [h4l] at h4
          have h5 := rep_row (k := k + 1) (x := x) k (1 + min 131 (k + 1 - 1)) (by omega) (by omega)
          have h6 : (k + 1 - (1 + min 131 (k + 1 - 1)) + 127) / 131 ≤ (k + 1 + 127) / 131 := Nat.div_le_div_right (by omega)
          omega
    · have := sz_run ((List.replicate k x).drop 0)
      rw [List.length_drop, List.length_replicate] at this
      omega
  have h2 : 2 * ((k + 127) / 131) ≤ k / 64 + 10 := by
    have h3 := Nat.div_mul_le_self (k + 127) 131
    have h4 := Nat.lt_div_mul_add (a := k) (b := 64) (by omega)
    omega
  unfold pkL
  split
  · rw [List.length_cons]; omega
  · rename_i h
    rw [List.length_replicate] at h
    rw [List.length_cons, List.length_replicate]
    omega
end Go.Proofs.Ytgodoogmbdgeoab

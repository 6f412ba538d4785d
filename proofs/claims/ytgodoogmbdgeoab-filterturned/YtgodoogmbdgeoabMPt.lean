/-
  Package match in plain words: what the program's own readings come to (the longest copy with an early stop, runs laid when a copy comes). No conditions.
-/
import Derived.Test.YtgodoogmbdgeoabMTw
namespace Go.Proofs.Ytgodoogmbdgeoab
set_option linter.unusedVariables false

/-- How many bytes are alike: known by where it stops. -/
theorem alkF_stop {b : List Int} {p d N : Nat} (h1 : ∀ i, i < N → p + i < b.length ∧ b[p + i]? = b[p + i - d]?) (h2 : p + N < b.length → b[p + N]? ≠ b[p + N - d]?) : ∀ (f n : Nat), n ≤ N → N ≤ n + f → alkF b p d f n = N
  | 0, n, ha, hb => by rw [alkF]; omega
  | f + 1, n, ha, hb => by
    rw [alkF]
    by_cases e : n = N
    · subst e
      rw [if_neg (fun h => h2 h.1 h.2)]
    · rw [if_pos (h1 n (by omega)), alkF_stop h1 h2 f (n + 1) (by omega) (by omega)]
theorem alkF_full {b : List Int} {p d N : Nat} (h1 : ∀ i, i < N → p + i < b.length ∧ b[p + i]? = b[p + i - d]?) : ∀ (f n : Nat), n ≤ N → N = n + f → alkF b p d f n = N
  | 0, n, ha, hb => by rw [alkF]; omega
  | f + 1, n, ha, hb => by rw [alkF, if_pos (h1 n (by omega)), alkF_full h1 f (n + 1) (by omega) (by omega)]
theorem alk_stop {b : List Int} {p d N : Nat} (h1 : ∀ i, i < N → p + i < b.length ∧ b[p + i]? = b[p + i - d]?) (hN : N ≤ 131) (h2 : N < 131 → p + N < b.length → b[p + N]? ≠ b[p + N - d]?) : alk b p d = N := by
  by_cases e : N = 131
  · exact alkF_full h1 131 0 (Nat.zero_le _) (by omega)
  · exact alkF_stop h1 (h2 (by omega)) 131 0 (Nat.zero_le _) (by omega)
/-- The same by values at places. -/
theorem alk_stop' {b : List Int} {p d N : Nat} (hd : d ≤ p) (h1 : ∀ i, i < N → p + i < b.length ∧ b.getD (p + i) 0 = b.getD (p + i - d) 0) (hN : N ≤ 131) (h2 : N < 131 → p + N < b.length → b.getD (p + N) 0 ≠ b.getD (p + N - d) 0) : alk b p d = N := by
  have key : ∀ i, p + i < b.length → (b[p + i]? = b[p + i - d]? ↔ b.getD (p + i) 0 = b.getD (p + i - d) 0) := fun i hi => by
    rw [List.getElem?_eq_getElem hi, List.getElem?_eq_getElem (show p + i - d < b.length by omega), List.getD, List.getD, List.getElem?_eq_getElem hi, List.getElem?_eq_getElem (show p + i - d < b.length by omega)]
    simp
  exact alk_stop (fun i hi => ⟨(h1 i hi).1, (key i (h1 i hi).1).2 (h1 i hi).2⟩) hN (fun a c => fun e => h2 a c ((key N c).1 e))
theorem bstF_succ (b : List Int) (p k : Nat) : bstF b p (k + 1) = if (bstF b p k).1 < alk b p (k + 1) then (alk b p (k + 1), k + 1) else bstF b p k := rfl
theorem bstF_full {b : List Int} {p k : Nat} (h : 131 ≤ (bstF b p k).1) : ∀ m, k ≤ m → bstF b p m = bstF b p k
  | 0, hm => by rw [show k = 0 by omega]
  | m + 1, hm => by
    by_cases e : k = m + 1
    · rw [e]
    · have ih := bstF_full h m (by omega)
      have := (alk_spec b p (m + 1)).1
      rw [bstF_succ, ih, if_neg (by omega)]
theorem bstF_le (b : List Int) (p k : Nat) : (bstF b p k).1 ≤ 131 ∧ (bstF b p k).2 ≤ k := by
  obtain ⟨h1, h2⟩ := bstF_spec b p k
  rcases h1 with h | ⟨h3, h4, h5⟩
  · refine ⟨by omega, ?_⟩
    clear h2
    induction k with
    | zero => exact Nat.le_refl _
    | succ k ih =>
      rw [bstF_succ] at h ⊢
      split at h
      · rename_i hc
        simp at h
        omega
      · rename_i hc
        rw [if_neg hc]
        have := ih h
        omega
  · exact ⟨by have := (alk_spec b p (bstF b p k).2).1; omega, h4⟩
/-- Runs of a row of bytes: all but the last one of 128. -/
def runsF : Nat → List Int → List Int
  | 0, _ => []
  | f + 1, l => if l = [] then [] else ((min l.length 128 : Nat) - 1 : Int) :: l.take 128 ++ runsF f (l.drop 128)
def runsL (l : List Int) : List Int := runsF (l.length + 1) l
theorem runsF_nil (f : Nat) : runsF f [] = [] := by cases f <;> rfl
theorem runsF_any : ∀ (f g : Nat) (l : List Int), l.length < f → l.length < g → runsF f l = runsF g l
  | 0, _, l, h, _ => by omega
  | _, 0, l, _, h => by omega
  | f + 1, g + 1, l, h1, h2 => by
    rw [runsF, runsF]
    split
    · rfl
    · rename_i hl
      have : 0 < l.length := List.length_pos_iff.2 hl
      rw [runsF_any f g (l.drop 128) (by rw [List.length_drop]; omega) (by rw [List.length_drop]; omega)]
theorem runsL_nil : runsL [] = [] := rfl
theorem runsL_short {l : List Int} (h : l.length ≤ 128) : runsL l = (runT l).flatMap Tok.byt := by
  rw [runsL, runsF, runT]
  split
  · rfl
  · rw [List.drop_of_length_le (by omega), runsF_nil, List.append_nil, List.take_of_length_le (by omega), Nat.min_eq_left h]
    simp [Tok.byt]
theorem runsL_step {l : List Int} (h : 0 < l.length) : runsL l = ((min l.length 128 : Nat) - 1 : Int) :: l.take 128 ++ runsL (l.drop 128) := by
  rw [runsL, runsF, if_neg (fun e => by rw [e] at h; simp at h), runsL]
  rw [runsF_any l.length ((l.drop 128).length + 1) (l.drop 128) (by rw [List.length_drop]; omega) (by omega)]
/-- 128 bytes that stand ahead are one run more. -/
theorem runsL_more : ∀ (n : Nat) (l m : List Int), l.length = 128 * n → runsL (l ++ m) = runsL l ++ runsL m
  | 0, l, m, h => by
    rw [List.length_eq_zero_iff.1 (show l.length = 0 by omega), List.nil_append, runsL_nil, List.nil_append]
  | n + 1, l, m, h => by
    have e1 : (l ++ m).take 128 = l.take 128 := by rw [List.take_append_of_le_length (by omega)]
    have e2 : (l ++ m).drop 128 = l.drop 128 ++ m := by rw [List.drop_append_of_le_length (by omega)]
    rw [runsL_step (l := l ++ m) (by rw [List.length_append]; omega), runsL_step (l := l) (by omega), e1, e2, runsL_more n (l.drop 128) m (by rw [List.length_drop]; omega), List.length_append, Nat.min_eq_right (by omega), Nat.min_eq_right (show 128 ≤ l.length by omega)]
    simp
theorem runsL_len : ∀ (f : Nat) (l : List Int), (runsF f l).length ≤ 2 * l.length
  | 0, l => Nat.zero_le _
  | f + 1, l => by
    rw [runsF]
    split
    · exact Nat.zero_le _
    · rename_i hl
      have : 0 < l.length := List.length_pos_iff.2 hl
      have ih := runsL_len f (l.drop 128)
      rw [List.length_drop] at ih
      rw [List.length_append, List.length_cons, List.length_take]
      omega
/-- The program's tokens: from a place on, behind a run that began at another. -/
def ptkF (b : List Int) : Nat → Nat → Nat → List Int
  | 0, _, _ => []
  | f + 1, p, r =>
    if p < b.length then
      if (bst b p).1 < 4 then ptkF b f (p + 1) r
      else runsL ((b.take p).drop r) ++ [((bst b p).1 : Int) + 124, ((bst b p).2 : Int)] ++ ptkF b f (p + (bst b p).1) (p + (bst b p).1)
    else runsL (b.drop r)
theorem cut_parts {b : List Int} {r q p : Nat} (h1 : r ≤ q) (h2 : q ≤ p) (h3 : p ≤ b.length) : (b.take p).drop r = (b.take q).drop r ++ (b.take p).drop q := by
  have e : b.take q = (b.take p).take q := by rw [List.take_take, Nat.min_eq_left h2]
  rw [e, ← List.drop_append_of_le_length (by rw [List.length_take, List.length_take]; omega), List.take_append_drop]
theorem ptk_tok (b : List Int) : ∀ (f p q r n : Nat), q = r + 128 * n → q ≤ p → p ≤ b.length → p - q < 128 → ptkF b f p r = (if b.length < f + p then runsL ((b.take q).drop r) ++ (tokF b f p q).flatMap Tok.byt else ptkF b f p r)
  | 0, p, q, r, n, h1, h2, h3, h4 => by rw [if_neg (by omega)]
  | f + 1, p, q, r, n, h1, h2, h3, h4 => by
    split
    · rename_i hf
      have hlen : ((b.take q).drop r).length = 128 * n := by rw [List.length_drop, List.length_take]; omega
      rw [ptkF, tokF]
      by_cases hp : p < b.length
      · rw [if_pos hp, if_pos hp]
        by_cases h5 : (bst b p).1 < 4
        · rw [if_pos h5, if_neg (by omega)]
          by_cases h6 : p + 1 - q = 128
          · rw [if_pos h6, ptk_tok b f (p + 1) (p + 1) r (n + 1) (by omega) (Nat.le_refl _) (by omega) (by omega), if_pos (by omega), List.flatMap_append, ← runsL_short (by rw [List.length_drop, List.length_take]; omega), ← List.append_assoc, ← runsL_more n _ _ hlen, ← cut_parts (by omega) (by omega) (by omega)]
          · rw [if_neg h6, ptk_tok b f (p + 1) q r n h1 (by omega) (by omega) (by omega), if_pos (by omega)]
        · have hr := bst_room h3
          rw [if_neg h5, if_pos (by omega), ptk_tok b f (p + (bst b p).1) (p + (bst b p).1) (p + (bst b p).1) 0 rfl (Nat.le_refl _) (by omega) (by omega), if_pos (by omega), cut_parts (show r ≤ q by omega) h2 h3, runsL_more n _ _ hlen, runsL_short (l := (b.take p).drop q) (by rw [List.length_drop, List.length_take]; omega)]
          have e0 : (b.take (p + (bst b p).1)).drop (p + (bst b p).1) = [] := List.drop_of_length_le (by rw [List.length_take]; omega)
          rw [e0, runsL_nil, List.nil_append, List.flatMap_append, List.flatMap_cons]
          simp only [Tok.byt, List.append_assoc]
      · rw [if_neg hp, if_neg hp]
        have hpe : p = b.length := by omega
        subst hpe
        have := cut_parts (b := b) (show r ≤ q by omega) h2 h3
        rw [List.take_length] at this
        rw [this, runsL_more n _ _ hlen, runsL_short (l := b.drop q) (by rw [List.length_drop]; omega)]
    · rfl
theorem ptk_all (b : List Int) : ptkF b (b.length + 1) 0 0 = tokB b := by
  rw [ptk_tok b _ 0 0 0 0 rfl (Nat.le_refl _) (Nat.zero_le _) (by omega), if_pos (by omega)]
  rfl
theorem runsL_le (l : List Int) : (runsL l).length ≤ 2 * l.length := runsL_len _ l
end Go.Proofs.Ytgodoogmbdgeoab

/-
  What the program packs, in plain words: it comes back, and is short; and that it tells the document's examples. No conditions.
-/
import Derived.Test.YtgodoogmbdgeoabMUn
import Derived.Lib.SlBytesConst
namespace Go.Proofs.Ytgodoogmbdgeoab
open Go.RowKit
set_option linter.unusedVariables false
set_option maxRecDepth 100000

theorem un_pkX (c : Nat) (b : List Int) (most : Nat) : unE (pkX c b) most = if b.length ≤ most then (b, 0) else ([], 3) := by
  unfold pkX
  split
  · obtain ⟨h1, h2⟩ := toks_good b
    rw [unE, if_neg (by omega), if_neg (by omega), tokB, dec_good most (toks b) _ [] h2 (Nat.zero_le _) (by have := flat_len (toks b); omega), h1]
  · rw [unE, if_neg (by omega), if_pos rfl]
    by_cases h : b.length ≤ most
    · rw [if_neg (by omega), if_pos h]
    · rw [if_pos (by omega), if_neg h]
theorem pkX_short (c : Nat) (b : List Int) : 1 ≤ (pkX c b).length ∧ (pkX c b).length ≤ b.length + 1 := by
  unfold pkX
  split <;> simp <;> omega
theorem pkX_le {c : Nat} (hc : c ≤ 1) (b : List Int) : (pkX c b).length ≤ (pkL b).length + 1 := by
  unfold pkX pkL
  split <;> split <;> simp <;> omega
theorem pkX_alike {c : Nat} (hc : c ≤ 1) (k : Nat) (x : Int) : (pkX c (List.replicate k x)).length ≤ k / 64 + 128 := by
  have key : (tokB (List.replicate k x)).length ≤ 2 * ((k + 127) / 131) + 10 := by
    show sz (tokF (List.replicate k x) ((List.replicate k x).length + 1) 0 0) ≤ _
    rw [tokF, List.length_replicate]
    have hb0 : (bst (List.replicate k x) 0).1 = 0 := rfl
    split
    · rename_i hk
      rw [hb0, if_neg (by omega), if_neg (by omega), Nat.zero_add]
      by_cases h3 : k - 1 ≤ 3
      · have := rep_tail (k := k) (x := x) k 1 0 (Nat.le_refl _) (by omega) (by omega) h3 (by omega)
        omega
      · cases k with
        | zero => omega
        | succ k =>
          rw [tokF, List.length_replicate, if_pos (by omega), bst_rep (Nat.le_refl _), if_pos (by omega), sz_append, sz_cp]
          have h4 := sz_run ((List.take 1 (List.replicate (k + 1) x)).drop 0)
          have h4l : ((List.take 1 (List.replicate (k + 1) x)).drop 0).length = 1 := by rw [List.drop_zero, List.length_take, List.length_replicate]; omega
          rw [h4l] at h4
          have h5 := rep_row (k := k + 1) (x := x) k (1 + min 131 (k + 1 - 1)) (by omega) (by omega)
          have h6 : (k + 1 - (1 + min 131 (k + 1 - 1)) + 127) / 131 ≤ (k + 1 + 127) / 131 := Nat.div_le_div_right (by omega)
          omega
    · have := sz_run ((List.replicate k x).drop 0)
      rw [List.length_drop, List.length_replicate] at this
      omega
  have h2 : 2 * ((k + 127) / 131) ≤ k / 64 + 10 := by
    have h3 := Nat.div_mul_le_self (k + 127) 131
    have h4 := Nat.lt_div_mul_add (a := k) (b := 64) (by omega)
    omega
  unfold pkX
  split
  · rw [List.length_cons]; omega
  · rename_i h
    rw [List.length_replicate] at h
    rw [List.length_cons, List.length_replicate]
    omega
theorem pkX_twice {c : Nat} (hc : c ≤ 1) {b : List Int} (h10 : 10 ≤ b.length) (h131 : b.length ≤ 131) : (pkX c (b ++ b)).length ≤ b.length + 8 := by
  have h := tw_head h10 h131 ((b ++ b).length + 1) 0 0 (Nat.le_refl _) (Nat.zero_le _) (by omega)
  rw [if_pos (by omega)] at h
  have e : (tokB (b ++ b)).length = sz (tokF (b ++ b) ((b ++ b).length + 1) 0 0) := rfl
  have hl : (b ++ b).length = 2 * b.length := by rw [List.length_append]; omega
  unfold pkX
  split
  · rw [List.length_cons]; omega
  · rename_i h2
    rw [List.length_cons]
    omega
theorem lv15 : pkX 0 [97, 97, 97, 97, 97, 97, 97, 97, 97] = [1, 0, 97, 132, 1] ∧ unE [1, 0, 97, 132, 1] 9 = ([97, 97, 97, 97, 97, 97, 97, 97, 97], 0) := by decide +kernel
end Go.Proofs.Ytgodoogmbdgeoab

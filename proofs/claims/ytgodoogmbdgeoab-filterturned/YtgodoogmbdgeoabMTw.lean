/-
  Package match in plain words: a row that stands twice. No conditions.
-/
import Derived.Test.YtgodoogmbdgeoabMPk
namespace Go.Proofs.Ytgodoogmbdgeoab
set_option linter.unusedVariables false

theorem alk_room {b : List Int} {p d : Nat} (hp : p ≤ b.length) : alk b p d ≤ b.length - p := by
  rcases Nat.eq_zero_or_pos (alk b p d) with h | h
  · omega
  · have := ((alk_spec b p d).2 (alk b p d - 1) (by omega)).1
    omega
theorem bst_room {b : List Int} {p : Nat} (hp : p ≤ b.length) : (bst b p).1 ≤ b.length - p := by
  rcases (bstF_spec b p (min 255 p)).1 with h | ⟨_, _, h⟩
  · rw [bst, h]; exact Nat.zero_le _
  · rw [bst, h]; exact alk_room hp
theorem alkF_two {b : List Int} {p : Nat} (h1 : b.length ≤ p) : ∀ (f n : Nat), n ≤ 2 * b.length - p → alkF (b ++ b) p b.length f n = min (n + f) (2 * b.length - p)
  | 0, n, h => by rw [alkF]; omega
  | f + 1, n, h => by
    rw [alkF]
    by_cases hc : p + n < 2 * b.length
    · rw [if_pos ⟨by rw [List.length_append]; omega, by rw [List.getElem?_append_right (by omega), List.getElem?_append_left (by omega)]⟩, alkF_two h1 f (n + 1) (by omega)]
      omega
    · rw [if_neg (fun h => hc (by have := h.1; rw [List.length_append] at this; omega))]
      omega
theorem bst_two {b : List Int} {p : Nat} (h0 : 1 ≤ b.length) (h131 : b.length ≤ 131) (h1 : b.length ≤ p) (h2 : p ≤ 2 * b.length) : (bst (b ++ b) p).1 = 2 * b.length - p := by
  have h3 := bst_room (b := b ++ b) (p := p) (by rw [List.length_append]; omega)
  rw [List.length_append] at h3
  have h4 := (bstF_spec (b ++ b) p (min 255 p)).2 b.length h0 (by omega)
  rw [alk, alkF_two h1 131 0 (by omega)] at h4
  have e : (bst (b ++ b) p).1 = (bstF (b ++ b) p (min 255 p)).1 := rfl
  omega
theorem tw_end (b : List Int) : ∀ f, sz (tokF b f b.length b.length) = 0
  | 0 => rfl
  | f + 1 => by
    rw [tokF, if_neg (Nat.lt_irrefl _), List.drop_of_length_le (Nat.le_refl _)]
    rfl
theorem sz_part {b : List Int} {p q : Nat} (hp : p ≤ b.length) (hq : q ≤ p) : sz (runT ((b.take p).drop q)) ≤ p - q + 1 := by
  have := sz_run ((b.take p).drop q)
  rw [List.length_drop, List.length_take] at this
  omega
/-- Behind the first of the two: one copy, or few bytes. -/
theorem tw_tail {b : List Int} (h0 : 1 ≤ b.length) (h131 : b.length ≤ 131) : ∀ (f p q : Nat), b.length ≤ p → q ≤ p → p ≤ 2 * b.length → 2 * b.length - q ≤ 6 → 2 * b.length - p ≤ 3 → sz (tokF (b ++ b) f p q) ≤ 2 * b.length - q + 1
  | 0, p, q, _, _, _, _, _ => Nat.zero_le _
  | f + 1, p, q, h1, h2, h3, h4, h5 => by
    have hl : (b ++ b).length = 2 * b.length := by rw [List.length_append]; omega
    rw [tokF, hl]
    split
    · rw [bst_two h0 h131 h1 h3, if_neg (by omega), if_neg (by omega)]
      exact tw_tail h0 h131 f (p + 1) q (by omega) (by omega) (by omega) h4 (by omega)
    · have := sz_run ((b ++ b).drop q)
      rw [List.length_drop, hl] at this
      exact this
theorem tw_land {b : List Int} (h0 : 1 ≤ b.length) (h131 : b.length ≤ 131) (f p : Nat) (h1 : b.length ≤ p) (h3 : p ≤ 2 * b.length) : sz (tokF (b ++ b) f p p) ≤ 4 := by
  have hl : (b ++ b).length = 2 * b.length := by rw [List.length_append]; omega
  by_cases h : 2 * b.length - p ≤ 3
  · have := tw_tail h0 h131 f p p h1 (Nat.le_refl _) h3 (by omega) h
    omega
  · cases f with
    | zero => exact Nat.zero_le _
    | succ f =>
      rw [tokF, hl, if_pos (by omega), bst_two h0 h131 h1 h3, if_pos (by omega), sz_append, sz_cp]
      have h4 : sz (runT ((List.take p (b ++ b)).drop p)) = 0 := by
        rw [List.drop_of_length_le (by rw [List.length_take]; omega)]
        rfl
      have h5 := tw_end (b ++ b) f
      rw [hl] at h5
      rw [h4, show p + (2 * b.length - p) = 2 * b.length by omega, h5]
      omega
theorem tw_head {b : List Int} (h10 : 10 ≤ b.length) (h131 : b.length ≤ 131) : ∀ (f p q : Nat), q ≤ p → p ≤ b.length → p - q < 128 → sz (tokF (b ++ b) f p q) ≤ b.length - q + (if q ≤ 3 then 7 else 6)
  | 0, p, q, _, _, _ => Nat.zero_le _
  | f + 1, p, q, h1, h2, h3 => by
    have hl : (b ++ b).length = 2 * b.length := by rw [List.length_append]; omega
    have hp := sz_part (b := b ++ b) (p := p) (q := q) (by omega) h1
    have hp1 := sz_part (b := b ++ b) (p := p + 1) (q := q) (by omega) (by omega)
    rw [tokF, hl, if_pos (by omega)]
    by_cases he : p = b.length
    · subst he
      rw [bst_two (by omega) h131 (Nat.le_refl _) (by omega), if_pos (by omega), sz_append, sz_cp]
      have h5 := tw_end (b ++ b) f
      rw [hl] at h5
      rw [show b.length + (2 * b.length - b.length) = 2 * b.length by omega, h5]
      split <;> omega
    · split
      · rename_i h4
        rw [sz_append, sz_cp]
        have hr := bst_room (b := b ++ b) (p := p) (by omega)
        rw [hl] at hr
        obtain ⟨n, hn⟩ : ∃ n, (bst (b ++ b) p).1 = n := ⟨_, rfl⟩
        rw [hn] at h4 hr ⊢
        by_cases h5 : p + n ≤ b.length
        · have ih := tw_head h10 h131 f (p + n) (p + n) (Nat.le_refl _) h5 (by omega)
          rw [if_neg (by omega)] at ih
          split <;> omega
        · have ih := tw_land (by omega) h131 f (p + n) (by omega) (by omega)
          split <;> omega
      · split
        · rename_i h5
          rw [sz_append]
          have ih := tw_head h10 h131 f (p + 1) (p + 1) (Nat.le_refl _) (by omega) (by omega)
          rw [if_neg (by omega)] at ih
          rw [if_pos (by omega)]
          omega
        · exact tw_head h10 h131 f (p + 1) q (by omega) (by omega) (by omega)
/-- A row of 10 to 131 bytes that stands twice is packed in its bytes and 8, at most. -/
theorem pk_twice {b : List Int} (h10 : 10 ≤ b.length) (h131 : b.length ≤ 131) : (pkL (b ++ b)).length ≤ b.length + 8 := by
  have h := tw_head h10 h131 ((b ++ b).length + 1) 0 0 (Nat.le_refl _) (Nat.zero_le _) (by omega)
  rw [if_pos (by omega)] at h
  have e : (tokB (b ++ b)).length = sz (tokF (b ++ b) ((b ++ b).length + 1) 0 0) := rfl
  have hl : (b ++ b).length = 2 * b.length := by rw [List.length_append]; omega
  unfold pkL
  split
  · rw [List.length_cons]; omega
  · rename_i h2
    rw [List.length_cons]
    omega
end Go.Proofs.Ytgodoogmbdgeoab

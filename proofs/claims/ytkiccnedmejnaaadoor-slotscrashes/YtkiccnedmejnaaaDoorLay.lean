/-
  Plain facts on bytes that are laid down at a place within others: by pieces, one behind the other, read again, replayed. No conditions but that the place is within the bytes or at their end.
-/
import Derived.WalkKit
namespace Go.Proofs.YtkiccnedmejnaaaDoor
set_option linter.unusedVariables false

/-- Bytes with others laid down at a place. -/
def layN (b : List Int) (p : Nat) (x : List Int) : List Int := b.take p ++ (x ++ b.drop (p + x.length))
theorem layN_nil (b : List Int) (p : Nat) : layN b p [] = b := by simp [layN]
theorem layN_length (b : List Int) (p : Nat) (x : List Int) (h : p ≤ b.length) : (layN b p x).length = max b.length (p + x.length) := by
  simp only [layN, List.length_append, List.length_take, List.length_drop]; omega
theorem layN_head (b : List Int) (p : Nat) (x : List Int) (h : p ≤ b.length) : (layN b p x).take p = b.take p := by
  unfold layN; rw [List.take_left' (by simp; omega)]
theorem layN_mid (b : List Int) (p : Nat) (x : List Int) (h : p ≤ b.length) : ((layN b p x).drop p).take x.length = x := by
  unfold layN; rw [List.drop_left' (by simp; omega), List.take_left]
theorem layN_tail (b : List Int) (p : Nat) (x : List Int) (h : p ≤ b.length) : (layN b p x).drop (p + x.length) = b.drop (p + x.length) := by
  unfold layN; rw [← List.append_assoc, List.drop_left' (by simp; omega)]
/-- One behind the other is both at once. -/
theorem layN_more (b : List Int) (p : Nat) (x y : List Int) (h : p ≤ b.length) : layN (layN b p x) (p + x.length) y = layN b p (x ++ y) := by
  have h1 : (layN b p x).take (p + x.length) = b.take p ++ x := by
    unfold layN; rw [← List.append_assoc, List.take_left' (by simp; omega)]
  have h2 : (layN b p x).drop (p + x.length + y.length) = b.drop (p + (x ++ y).length) := by
    rw [← List.drop_drop, layN_tail b p x h, List.drop_drop, List.length_append, Nat.add_assoc]
  show (layN b p x).take (p + x.length) ++ (y ++ (layN b p x).drop (p + x.length + y.length)) = _
  rw [h1, h2]
  simp [layN]
/-- One byte more: within the bytes it takes a place, at their end it stands behind them. -/
theorem layN_in (b : List Int) (p : Nat) (x : List Int) (z : Int) (h : p + x.length < b.length) : (layN b p x).set (p + x.length) z = layN b p (x ++ [z]) := by
  have hl := layN_length b p x (by omega)
  rw [← layN_more b p x [z] (by omega)]
  have hlt : p + x.length < (layN b p x).length := by omega
  rw [List.set_eq_take_append_cons_drop, if_pos hlt]
  rfl
theorem layN_end (b : List Int) (p : Nat) (x : List Int) (z : Int) (hp : p ≤ b.length) (h : b.length ≤ p + x.length) : layN b p x ++ [z] = layN b p (x ++ [z]) := by
  have h1 : b.drop (p + x.length) = [] := List.drop_of_length_le h
  have h2 : b.drop (p + (x ++ [z]).length) = [] := List.drop_of_length_le (by simp; omega)
  unfold layN
  rw [h1, h2]; simp
/-- By pieces of so many bytes. -/
theorem layN_piece (b : List Int) (p w m : Nat) (x : List Int) (hp : p ≤ b.length) (hm : w * m ≤ x.length) :
    layN (layN b p (x.take (w * m))) (p + w * m) ((x.drop (w * m)).take w) = layN b p (x.take (w * (m + 1))) := by
  have hl : (x.take (w * m)).length = w * m := by simp; omega
  have h := layN_more b p (x.take (w * m)) ((x.drop (w * m)).take w) hp
  rw [hl] at h
  rw [h, Nat.mul_succ]
  congr 1
  exact (List.take_add).symm
/-- Raw writes, laid down in order. -/
def replay (b : List Int) (rs : List (Nat × List Int)) : List Int := rs.foldl (fun b r => layN b r.1 r.2) b
theorem replay_snoc (b : List Int) (rs : List (Nat × List Int)) (r : Nat × List Int) : replay b (rs ++ [r]) = layN (replay b rs) r.1 r.2 := by simp [replay]
end Go.Proofs.YtkiccnedmejnaaaDoor

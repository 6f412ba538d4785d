/-
  The bytes of a list of extents, and the list of bytes.
-/
import Derived.Test.YtdalkjenjnalbaaDoorNums
import Derived.Test.YtdalkjenjnalbaaDoorXMath
namespace Go.Proofs.YtdalkjenjnalbaaDoor
open Go.RowKit
set_option linter.unusedVariables false
set_option maxRecDepth 100000

/-- A number in four bytes, the highest first. -/
def d4 (u : Int) : List Int := dig2 true u 4
theorem d4_length (u : Int) : (d4 u).length = 4 := dig2_length true u 4
def xbs : List Ext → List Int
  | [] => []
  | x :: l => d4 x.1 ++ (d4 x.2 ++ xbs l)
theorem xbs_length : ∀ l : List Ext, (xbs l).length = 8 * l.length
  | [] => rfl
  | x :: l => by simp only [xbs, List.length_append, d4_length, xbs_length l, List.length_cons]; omega
theorem xbs_append : ∀ l m : List Ext, xbs (l ++ m) = xbs l ++ xbs m
  | [], m => rfl
  | x :: l, m => by simp only [List.cons_append, xbs, xbs_append l m, List.append_assoc]
theorem xbs_snoc (l : List Ext) (x : Ext) : xbs (l ++ [x]) = xbs l ++ (d4 x.1 ++ d4 x.2) := by rw [xbs_append]; simp [xbs]
/-- The bytes of a list, not sealed. -/
def plainL (l : List Ext) : List Int := d4 l.length ++ xbs l
theorem plainL_length (l : List Ext) : (plainL l).length = 4 + 8 * l.length := by rw [plainL, List.length_append, d4_length, xbs_length]
theorem byt_join {l m : List Int} (h : Byt l) (k : Byt m) : Byt (l ++ m) := fun i => by
  by_cases hi : i < l.length
  · have := h i
    simp only [List.getD_eq_getElem?_getD] at this ⊢
    rwa [List.getElem?_append_left hi]
  · have := k (i - l.length)
    simp only [List.getD_eq_getElem?_getD] at this ⊢
    rwa [List.getElem?_append_right (by omega)]
theorem xbs_byt : ∀ l : List Ext, Byt (xbs l)
  | [] => fun i => by simp [xbs]
  | x :: l => byt_join (byt_dig2 true x.1 4) (byt_join (byt_dig2 true x.2 4) (xbs_byt l))
theorem plainL_byt (l : List Ext) : Byt (plainL l) := byt_join (byt_dig2 true _ 4) (xbs_byt l)
/-- The numbers of bytes. -/
def at4 (b : List Int) (p : Nat) : Int := val true ((b.drop p).take 4)
def extOf (b : List Int) (k : Nat) : Ext := (at4 b (4 + 8 * k), at4 b (4 + 8 * k + 4))
def lstOf (b : List Int) (n : Nat) : List Ext := (List.range n).map (extOf b)
theorem lstOf_length (b : List Int) (n : Nat) : (lstOf b n).length = n := by simp [lstOf]
theorem lstOf_succ (b : List Int) (n : Nat) : lstOf b (n + 1) = lstOf b n ++ [extOf b n] := by simp [lstOf, List.range_succ]
theorem at4_app (a u r : List Int) (hu : u.length = 4) : at4 (a ++ (u ++ r)) a.length = val true u := by
  unfold at4
  rw [List.drop_left, ← hu, List.take_left]
theorem four_back {u : Int} (h0 : 0 ≤ u) (h : u < 4294967296) : val true (d4 u) = u := val_back true h0 h
theorem plainL_count (l : List Ext) (h : l.length ≤ 65536) : at4 (plainL l) 0 = l.length := by
  have := at4_app [] (d4 l.length) (xbs l) (d4_length _)
  simp only [List.nil_append, List.length_nil] at this
  rw [plainL, this, four_back (by omega) (by omega)]
theorem plainL_ext {l : List Ext} {k : Nat} (hk : k < l.length) (h : ∀ x ∈ l, 0 ≤ x.1 ∧ 0 ≤ x.2 ∧ x.1 + x.2 ≤ 4194304) : extOf (plainL l) k = l.getD k (0, 0) := by
  have hs : l = l.take k ++ (l.getD k (0, 0) :: l.drop (k + 1)) := by
    rw [← List.take_append_drop k l]
    simp [List.getD, hk]
  have hx := h _ (getD_mem hk)
  generalize l.getD k (0, 0) = x at *
  have hl : (l.take k).length = k := by rw [List.length_take]; omega
  have e : plainL l = (d4 l.length ++ xbs (l.take k)) ++ (d4 x.1 ++ (d4 x.2 ++ xbs (l.drop (k + 1)))) := by
    unfold plainL
    conv => lhs; arg 2; rw [hs, xbs_append]
    simp only [xbs, List.append_assoc]
  have e2 : plainL l = ((d4 l.length ++ xbs (l.take k)) ++ d4 x.1) ++ (d4 x.2 ++ xbs (l.drop (k + 1))) := by rw [e]; simp only [List.append_assoc]
  have n1 : (d4 l.length ++ xbs (l.take k)).length = 4 + 8 * k := by rw [List.length_append, d4_length, xbs_length, hl]
  have n2 : ((d4 l.length ++ xbs (l.take k)) ++ d4 x.1).length = 4 + 8 * k + 4 := by rw [List.length_append, n1, d4_length]
  have a1 := at4_app (d4 l.length ++ xbs (l.take k)) (d4 x.1) (d4 x.2 ++ xbs (l.drop (k + 1))) (d4_length _)
  have a2 := at4_app ((d4 l.length ++ xbs (l.take k)) ++ d4 x.1) (d4 x.2) (xbs (l.drop (k + 1))) (d4_length _)
  rw [n1, ← e, four_back (by omega) (by omega)] at a1
  rw [n2, ← e2, four_back (by omega) (by omega)] at a2
  unfold extOf
  rw [a1, a2]
theorem lstOf_plainL {l : List Ext} (h : ∀ x ∈ l, 0 ≤ x.1 ∧ 0 ≤ x.2 ∧ x.1 + x.2 ≤ 4194304) : lstOf (plainL l) l.length = l := by
  refine List.ext_getElem (by rw [lstOf_length]) fun k h1 h2 => ?_
  rw [lstOf_length] at h1
  have := plainL_ext h1 h
  simp only [lstOf, List.getElem_map, List.getElem_range]
  rw [this]
  simp [List.getD, h1]
end Go.Proofs.YtdalkjenjnalbaaDoor

/-
  Plain facts on runs of bytes that stand one behind the other, each behind its length. No conditions.
-/
import Derived.Test.YtdpjoldabnkboaaDoorWalkG
namespace Go.Proofs.YtdpjoldabnkboaaDoor
open Go.RowKit
set_option linter.unusedVariables false

/-- A run behind its length. -/
def encR (x : List Int) : List Int := dig2 true x.length 4 ++ x
theorem encR_length (x : List Int) : (encR x).length = 4 + x.length := by rw [encR, List.length_append, dig2_length]
/-- The first k runs, one behind the other. -/
def runsTo (ls : List (List Int)) : Nat → List Int
  | 0 => []
  | k + 1 => runsTo ls k ++ encR (ls.getD k [])
theorem runsTo_split (ls : List (List Int)) (k : Nat) : ∀ n, k < n → ∃ post, runsTo ls n = runsTo ls k ++ (encR (ls.getD k []) ++ post)
  | n + 1, h => by
    by_cases e : k = n
    · subst e; exact ⟨[], by rw [runsTo, List.append_nil]⟩
    · obtain ⟨post, hp⟩ := runsTo_split ls k n (by omega)
      exact ⟨post ++ encR (ls.getD n []), by rw [runsTo, hp]; simp⟩
theorem byt_append {a b : List Int} (ha : Byt a) (hb : Byt b) : Byt (a ++ b) := fun i => by
  by_cases h : i < a.length
  · have e : (a ++ b).getD i 0 = a.getD i 0 := by simp [List.getD, List.getElem?_append_left h]
    rw [e]; exact ha i
  · have e : (a ++ b).getD i 0 = b.getD (i - a.length) 0 := by simp [List.getD, List.getElem?_append_right (show a.length ≤ i by omega)]
    rw [e]; exact hb _
theorem byt_runs {ls : List (List Int)} (h : ∀ k, Byt (ls.getD k [])) : ∀ n, Byt (runsTo ls n)
  | 0 => fun i => by simp [runsTo]
  | n + 1 => byt_append (byt_runs h n) (byt_append (byt_dig2 _ _ _) (h n))

theorem run_getErr (pre x post : List Int) : getErr (pre ++ (encR x ++ post)).length pre.length 4 = 0 := by
  have e := encR_length x
  unfold getErr
  rw [if_pos ⟨wOk_true (by omega) (by omega), by simp [pOk]; omega⟩, if_neg]
  rw [List.length_append, List.length_append, e]; omega
theorem run_getNum (pre x post : List Int) (hx : x.length ≤ 65536) : getNum (pre ++ (encR x ++ post)) pre.length 4 true = x.length := by
  unfold getNum
  rw [if_pos (run_getErr pre x post), Int.toNat_natCast, List.drop_left]
  have e : (encR x ++ post).take ((4 : Int).toNat) = dig2 true x.length 4 := by
    rw [encR, List.append_assoc]
    exact List.take_left' (by rw [dig2_length]; rfl)
  rw [e]
  exact val_back true (by omega) (by have : (256 : Int) ^ 4 = 4294967296 := rfl; omega)
theorem run_gbErr (pre x post : List Int) (hx : x.length ≤ 65536) : gbErr (pre ++ (encR x ++ post)) pre.length = 0 := by
  have e := encR_length x
  unfold gbErr
  rw [if_pos (run_getErr pre x post), run_getNum pre x post hx, if_neg (by omega), if_neg]
  rw [List.length_append, List.length_append, e]; omega
theorem run_gbList (pre x post : List Int) (hx : x.length ≤ 65536) : gbList (pre ++ (encR x ++ post)) pre.length = x := by
  unfold gbList
  rw [if_pos (run_gbErr pre x post hx), run_getNum pre x post hx, Int.toNat_natCast, Int.toNat_natCast, ← List.drop_drop, List.drop_left, encR, List.append_assoc, List.drop_left' (by rw [dig2_length]), List.take_left]
theorem run_gbNext (pre x post : List Int) (hx : x.length ≤ 65536) : gbNext (pre ++ (encR x ++ post)) pre.length = (pre.length : Int) + 4 + x.length := by
  unfold gbNext
  rw [if_pos (run_gbErr pre x post hx), run_getNum pre x post hx]
theorem end_gbErr (B : List Int) : gbErr B B.length = 4 := by
  have e : getErr B.length B.length 4 = 4 := by
    unfold getErr
    rw [if_pos ⟨wOk_true (by omega) (by omega), by simp [pOk]⟩, if_pos (by omega)]
  unfold gbErr
  rw [if_neg (by omega), e]

theorem fr_mono {w : World} {lo lo' : Nat} {x : Value} {l : List Int} (h : Fr w lo x l) (hl : lo' ≤ lo) : Fr w lo' x l := by
  rcases h with h | ⟨g, hg, r⟩
  · exact .inl h
  · exact .inr ⟨g, Nat.le_trans hl hg, r⟩

/-- A slice of slices of bytes: the r-th cell holds a slice that reads as the r-th list. -/
def Rs (w : World) (v : Value) (ls : List (List Int)) : Prop :=
  ∃ ao cap, ∃ (A : Nat → Option Addr) (C : Nat → Nat), v = .slice ao ls.length cap ∧ ls.length ≤ cap ∧ (ao = none → cap = 0) ∧
    ∀ ad, ao = some ad → ∀ r, r < ls.length → w.cell? (ad.add r) = some (.slice (A r) (ls.getD r []).length (C r)) ∧ Bs w (.slice (A r) (ls.getD r []).length (C r)) (ls.getD r [])

end Go.Proofs.YtdpjoldabnkboaaDoor

/-
  What the document's Load tells is what the program's tells.
-/
import Derived.Test.YtkiccnedmejnaabDoorXBytesMath2
import Derived.Test.YtkiccnedmejnaabDoorLoadsWalk
namespace Go.Proofs.YtkiccnedmejnaabDoor
open Go.RowKit
set_option linter.unusedVariables false
set_option maxRecDepth 100000

theorem seal_un {b : List Int} (hby : Byt b) (he : unErr b = 0) : sealN (unList b) = b ∧ 4 ≤ b.length := by
  have h4 : ¬ b.length < 4 := fun h => by rw [unErr_short h] at he; cases he
  have hu : unList b = b.take (b.length - 4) := by unfold unList; rw [if_pos he]
  refine ⟨?_, by omega⟩
  rw [hu]
  refine (sealN_iff b (b.length - 4) (by omega) hby).2 ?_
  unfold unErr at he
  rw [if_neg h4] at he
  by_cases h : ((crcN (b.take (b.length - 4)) : Nat) : Int) = num ((b.drop (b.length - 4)).take 4) 4
  · exact h
  · rw [if_neg h] at he; cases he
theorem strOfNums_len (a : List Int) : (strOfNums a).size = a.length := strOfNums_size a
theorem str_neL {a b : List Int} (ha : Byt a) (hb : Byt b) (h : ¬ a = b) : ((strOfNums a).toList == (strOfNums b).toList) = false := by
  by_cases hl : a.length = b.length
  · exact str_ne ha hb hl h
  · rw [beq_eq_false_iff_ne]
    intro e
    have e2 : (strOfNums a).size = (strOfNums b).size := by
      rw [ByteArray.toList_eq, ByteArray.toList_eq] at e
      have := congrArg List.length e
      simpa using this
    rw [strOfNums_size, strOfNums_size] at e2
    exact hl e2
/-- How many extents the document's Load reads. -/
def refCnt (p : List Int) : Nat := (p.length - 4) / 8
def refOk (b : List Int) : Bool := goodB (lstOf (unList b) (refCnt (unList b))) 4194304 && decide (sealN (plainL (lstOf (unList b) (refCnt (unList b)))) = b)
theorem refOk_iff {b : List Int} (hby : Byt b) (he : unErr b = 0) : refOk b = xldOk (unList b) := by
  obtain ⟨hs, h4⟩ := seal_un hby he
  have hpb : Byt (unList b) := unList_byt hby
  unfold refOk
  generalize hp : unList b = p at *
  cases hx : xldOk p with
  | true =>
    unfold xldOk at hx
    rw [Bool.and_eq_true] at hx
    obtain ⟨h1, h2⟩ := hx
    obtain ⟨f1, f2, f3, f4⟩ := isL_iff hpb h1
    have hc : refCnt p = cntOf p := by unfold refCnt; omega
    rw [hc, h2, plain_back hpb f4 f2, hs]
    simp
  | false =>
    rw [Bool.and_eq_false_iff]
    by_cases hg : goodB (lstOf p (refCnt p)) 4194304 = true
    · right
      rw [decide_eq_false_iff_not]
      intro h
      have h2 := (load_back hg).1
      rw [h] at h2
      unfold xldErr at h2
      rw [if_pos he, hp, hx] at h2
      simp at h2
    · left; simpa using hg
theorem refOk_cnt {b : List Int} (hby : Byt b) (he : unErr b = 0) (h : refOk b = true) : xldErr b = 0 ∧ xldList b = lstOf (unList b) (refCnt (unList b)) := by
  have hx := h
  rw [refOk_iff hby he] at hx
  have h0 : xldErr b = 0 := by unfold xldErr; rw [if_pos he, if_pos hx]
  refine ⟨h0, ?_⟩
  unfold xldOk at hx
  rw [Bool.and_eq_true] at hx
  obtain ⟨f1, f2, f3, f4⟩ := isL_iff (unList_byt hby) hx.1
  have hc : refCnt (unList b) = cntOf (unList b) := by unfold refCnt; omega
  unfold xldList
  rw [if_pos h0, hc]
theorem refOk_no {b : List Int} (hby : Byt b) (he : unErr b = 0) (h : refOk b = false) : xldErr b = 5 ∧ xldList b = [] := by
  rw [refOk_iff hby he] at h
  have h0 : xldErr b = 5 := by unfold xldErr; rw [if_pos he, h]; rfl
  refine ⟨h0, ?_⟩
  unfold xldList
  rw [if_neg (by rw [h0]; decide)]
end Go.Proofs.YtkiccnedmejnaabDoor

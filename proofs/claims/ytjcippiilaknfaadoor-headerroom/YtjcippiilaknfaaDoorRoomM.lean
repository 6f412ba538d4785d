/-
  What HeaderRoom asks of the blocks. No conditions.
-/
import Derived.Test.YtjcippiilaknfaaDoorELaw
namespace Go.Proofs.YtjcippiilaknfaaDoor
open Go.RowKit
set_option linter.unusedVariables false
set_option maxRecDepth 100000

theorem roomOf_cons (x : Ext) (r : List Ext) : roomOf (x :: r) = rmX x + roomOf r := by simp [roomOf]
theorem blks_len : ∀ (r : List Ext) (s : List Int), (blksM r s).length ≤ r.length
  | [], s => by simp [blksM]
  | x :: r, s => by
    by_cases h : s = []
    · rw [h, blksM_nil]; simp
    · rw [blksM_cons h, List.length_cons, List.length_cons]
      have := blks_len r (s.drop (rmX x))
      omega
theorem blks_at : ∀ (r : List Ext) (s : List Int), (∀ x ∈ r, Wd x) → ∀ (i : Nat) (b : Int × List Int), (blksM r s)[i]? = some b → ∃ x, r[i]? = some x ∧ b.1 = x.1 ∧ b.2.length = x.2.toNat ∧ roomOf (r.take i) < s.length
  | [], s, _, i, b, h => by simp [blksM] at h
  | x :: r, s, hw, i, b, h => by
    by_cases hs : s = []
    · rw [hs, blksM_nil] at h; simp at h
    · rw [blksM_cons hs] at h
      cases i with
      | zero =>
        have e : b = (x.1, blkL (s.take (rmX x)) (if s.drop (rmX x) = [] then (0, 0) else r.headD (0, 0)) x.2.toNat) := by simpa using h.symm
        subst e
        have hx := hw x List.mem_cons_self
        refine ⟨x, rfl, rfl, ?_, by simp [roomOf]; cases s with | nil => exact absurd rfl hs | cons a l => simp⟩
        refine blkL_length ?_
        rw [List.length_take]
        have h1 := hx.2.1
        unfold rmX
        omega
      | succ i =>
        have h' : (blksM r (s.drop (rmX x)))[i]? = some b := by simpa using h
        obtain ⟨y, h1, h2, h3, h4⟩ := blks_at r _ (fun z hz => hw z (List.mem_cons_of_mem _ hz)) i b h'
        refine ⟨y, by simpa using h1, h2, h3, ?_⟩
        rw [List.take_succ_cons, roomOf_cons]
        rw [List.length_drop] at h4
        omega
theorem blks_all : ∀ (r : List Ext) (s : List Int), s.length ≤ roomOf r → s.length ≤ roomOf (r.take (blksM r s).length)
  | [], s, h => by simpa [blksM] using h
  | x :: r, s, h => by
    by_cases hs : s = []
    · rw [hs]; simp
    · rw [blksM_cons hs, List.length_cons, List.take_succ_cons, roomOf_cons]
      rw [roomOf_cons] at h
      have := blks_all r (s.drop (rmX x)) (by rw [List.length_drop]; omega)
      rw [List.length_drop] at this
      omega
theorem roomOf_next {r : List Ext} {i : Nat} {x : Ext} (h : r[i]? = some x) : roomOf (r.take (i + 1)) = roomOf (r.take i) + rmX x := by
  rw [List.take_add_one, h]
  simp [roomOf]
theorem roomOf_le (r : List Ext) (hw : ∀ x ∈ r, Wd x) : roomOf r ≤ r.length * 4194304 := by
  induction r with
  | nil => simp [roomOf]
  | cons y q ihq =>
    have h1 := ihq (fun z hz => hw z (List.mem_cons_of_mem _ hz))
    have h2 := hw y List.mem_cons_self
    have h4 : rmX y ≤ 4194304 := by unfold rmX; have := h2.1; have := h2.2.1; have := h2.2.2; omega
    rw [roomOf_cons, List.length_cons, Nat.add_mul]
    omega
/-- What Size and Lay tell together. -/
theorem lay_cases (l : List Msg) (r : List Ext) : (szErr l ≠ 0 ∧ layErr l r = szErr l ∧ layL l r = []) ∨ (szErr l = 0 ∧ (layErr l r = 2 ∨ layErr l r = 3) ∧ layL l r = []) ∨ (szErr l = 0 ∧ r.length ≤ 65536 ∧ (∀ x ∈ r, Wd x) ∧ layErr l r = 7 ∧ (roomOf r : Int) < szOf l ∧ layL l r = []) ∨ (szErr l = 0 ∧ r.length ≤ 65536 ∧ (∀ x ∈ r, Wd x) ∧ layErr l r = 0 ∧ szOf l ≤ (roomOf r : Int) ∧ layL l r = blksM r (strm l)) := by
  by_cases h0 : szErr l = 0
  · right
    have hl : layErr l r = if 65536 < r.length then 3 else if r.any narrowB then 2 else if meetsB r then 2 else if (roomOf r : Int) < szOf l then 7 else 0 := by unfold layErr; rw [if_neg (by simp [h0])]
    by_cases h1 : 65536 < r.length
    · rw [if_pos h1] at hl
      exact .inl ⟨h0, .inr hl, by unfold layL; rw [hl, if_neg (by decide)]⟩
    · rw [if_neg h1] at hl
      by_cases h2 : r.any narrowB = true
      · rw [if_pos h2] at hl
        exact .inl ⟨h0, .inl hl, by unfold layL; rw [hl, if_neg (by decide)]⟩
      · rw [if_neg h2] at hl
        have hw : ∀ x ∈ r, Wd x := fun x hx => wide_of (by
          have h3 : r.any narrowB = false := by simpa using h2
          have := (List.any_eq_false.1 h3) x hx
          simpa using this)
        by_cases h3 : meetsB r = true
        · rw [if_pos h3] at hl
          exact .inl ⟨h0, .inl hl, by unfold layL; rw [hl, if_neg (by decide)]⟩
        · rw [if_neg h3] at hl
          right
          by_cases h4 : (roomOf r : Int) < szOf l
          · rw [if_pos h4] at hl
            exact .inl ⟨h0, by omega, hw, hl, h4, by unfold layL; rw [hl, if_neg (by decide)]⟩
          · rw [if_neg h4] at hl
            exact .inr ⟨h0, by omega, hw, hl, by omega, by unfold layL; rw [if_pos hl]⟩
  · have e : layErr l r = szErr l := by unfold layErr; rw [if_pos h0]
    exact .inl ⟨h0, e, by unfold layL; rw [e, if_neg h0]⟩
theorem szOf_bd {l : List Msg} (h : szErr l = 0) : szN l = szOf l ∧ 0 ≤ szOf l ∧ szOf l ≤ 5000000000 := by
  obtain ⟨h1, h2, h3⟩ := szErr_zero h
  have h4 := szTo_bd h2 l.length
  have h5 : szTo l l.length = szOf l := by unfold szTo szOf; rw [List.take_length]
  rw [h5] at h4
  exact ⟨by rw [szN, if_pos h], h4.1, by omega⟩
/-- Blocks as they lie in memory. -/
theorem BkS.cells {w : World} {B : Nat} {v : Value} {L : List Blk} (h : BkS w B v L) : ∃ ao cap, v = .slice ao L.length cap ∧ ∀ (i : Nat) (b : Blk), L[i]? = some b → ∃ g gb capb, ao = some ⟨g, 0, none⟩ ∧ w.cell? ⟨g, i * 2, none⟩ = some (.int .i64 b.1) ∧ w.cell? ⟨g, i * 2 + 1, none⟩ = some (.slice gb b.2.2.length capb) ∧ b.2.1 = .slice gb b.2.2.length capb := by
  have hr : w.ownsRow B 47 2 v L.length (gc encBk L) := h.at_ (rowBk v L) (List.Mem.head _)
  obtain ⟨ao, cap, hv⟩ := row_sliceE hr
  refine ⟨ao, cap, hv, fun i b hb => ?_⟩
  have hi := (List.getElem?_eq_some_iff.1 hb).1
  have hrb : w.ownsRow B 5 1 b.2.1 b.2.2.length (bcells b.2.2) := h.at_ (byR b) (List.mem_cons_of_mem _ (List.mem_map.2 ⟨b, List.mem_of_getElem? hb, rfl⟩))
  obtain ⟨gb, capb, hvb⟩ := row_sliceE hrb
  rcases ownsRow_shape hr with ⟨_, h0⟩ | ⟨g, cap', hg, _, _, _, _, _, hc⟩
  · omega
  · rw [hv] at hg
    injection hg with e1 e2 e3
    have c0 := hc _ _ (gc_at encBk_len L i b hb 0 _ rfl)
    have c1 := hc _ _ (gc_at encBk_len L i b hb 1 _ rfl)
    rw [hvb] at c1
    exact ⟨g, gb, capb, e1, by simpa using c0, c1, hvb⟩
end Go.Proofs.YtjcippiilaknfaaDoor

/-
  All tuples of an extent in their order, in plain words: the tuple of a number is its digits. No conditions.
-/
import Derived.Test.YtneegijbbbebkaaGCovM
namespace Go.Proofs.Ytneegijbbbebkaa
open Go.RowKit
set_option linter.unusedVariables false
set_option maxRecDepth 100000

def dN (D : List Int) : List Nat := D.map Int.toNat
/-- The K-th tuple of an extent. -/
def tG (D : List Int) (K : Nat) : List Int := toI (dig (dN D) K)
theorem prd_dN : ∀ {D : List Int}, (∀ x ∈ D, 0 ≤ x) → ((prdN (dN D) : Nat) : Int) = prd D
  | [], _ => rfl
  | n :: D, h => by
    have ih := prd_dN (D := D) (fun x hx => h x (by simp [hx]))
    have h0 := h n (by simp)
    rw [show dN (n :: D) = n.toNat :: dN D from rfl, prdN, Int.natCast_mul, ih, prd, Int.toNat_of_nonneg h0]
theorem tG_place : ∀ {D : List Int}, (∀ x ∈ D, 0 ≤ x) → ∀ K, K < prdN (dN D) → Ins2 D (tG D K) ∧ ∀ p, placeZ D (tG D K) p = p * prd D + (K : Int)
  | [], _, K, h => by
    have h1 : K = 0 := by rw [show prdN (dN []) = 1 from rfl] at h; omega
    subst h1
    exact ⟨⟨rfl, fun i x n h => by simp [tG, toI, dN, dig] at h⟩, fun p => by simp only [placeZ, prd]; omega⟩
  | n :: D, hd, K, h => by
    have hn := hd n (by simp)
    have hD : ∀ x ∈ D, 0 ≤ x := fun x hx => hd x (by simp [hx])
    rw [show dN (n :: D) = n.toNat :: dN D from rfl, prdN] at h
    have h0 : 0 < prdN (dN D) := by
      rcases Nat.eq_zero_or_pos (prdN (dN D)) with e | e
      · rw [e, Nat.mul_zero] at h; omega
      · exact e
    have e : tG (n :: D) K = ((K / prdN (dN D) : Nat) : Int) :: tG D (K % prdN (dN D)) := rfl
    obtain ⟨i1, i2⟩ := tG_place hD (K % prdN (dN D)) (Nat.mod_lt _ h0)
    have q : K / prdN (dN D) < n.toNat := (Nat.div_lt_iff_lt_mul h0).2 h
    obtain ⟨Q, hQ⟩ : ∃ Q, K / prdN (dN D) = Q := ⟨_, rfl⟩
    rw [hQ] at e q
    refine ⟨⟨by rw [e]; simp [i1.1], fun i x m hx hm => ?_⟩, fun p => ?_⟩
    · rw [e] at hx
      cases i with
      | zero =>
        obtain rfl : (Q : Int) = x := by simpa using hx
        obtain rfl : n = m := by simpa using hm
        omega
      | succ i => exact i1.2 i x m (by simpa using hx) (by simpa using hm)
    · have h5 := Nat.div_add_mod K (prdN (dN D))
      rw [hQ] at h5
      have h6 : (prd D) * (Q : Int) + ((K % prdN (dN D) : Nat) : Int) = (K : Int) := by rw [← prd_dN hD, ← Int.natCast_mul, ← Int.natCast_add, h5]
      rw [e, placeZ, i2, prd, Int.add_mul, Int.mul_assoc, ← h6, Int.mul_comm (Q : Int), Int.add_assoc]
theorem tG_plc {D : List Int} (hd : ∀ x ∈ D, 0 ≤ x) {K : Nat} (h : K < prdN (dN D)) : Ins2 D (tG D K) ∧ plc D (tG D K) = (K : Int) := by
  obtain ⟨h1, h2⟩ := tG_place hd K h
  exact ⟨h1, by rw [plc, h2]; omega⟩
theorem dN_append (A : List Int) (n : Int) : dN (A ++ [n]) = dN A ++ [n.toNat] := by simp [dN]
theorem dN_length (A : List Int) : (dN A).length = A.length := by simp [dN]
theorem tG_length (D : List Int) (K : Nat) : (tG D K).length = D.length := by rw [tG, toI_length, dig_length, dN_length]
theorem tG_snoc (D : List Int) (n : Int) (i k : Nat) (hi : i < prdN (dN D)) (hk : k < n.toNat) : tG (D ++ [n]) (i * n.toNat + k) = tG D i ++ [(k : Int)] := by
  obtain ⟨m, hm⟩ : ∃ m, n.toNat = m := ⟨_, rfl⟩
  rw [hm] at hk
  have hK : i * m + k < prdN (dN D ++ [m]) := by
    rw [prdN_append]
    have h1 : (i + 1) * m ≤ prdN (dN D) * m := Nat.mul_le_mul_right _ hi
    rw [Nat.succ_mul] at h1
    simp only [prdN, Nat.mul_one]
    omega
  have e1 : (i * m + k) / m = i := by
    rw [Nat.mul_comm, Nat.mul_add_div (by omega), Nat.div_eq_of_lt hk, Nat.add_zero]
  have e2 : (i * m + k) % m = k := by
    rw [Nat.mul_comm, Nat.mul_add_mod, Nat.mod_eq_of_lt hk]
  rw [tG, dN_append, hm, dig_snoc _ _ _ hK, e1, e2, toI, List.map_append]
  rfl
/-- The tuples along the first dimensions; and of one more, as far as they are laid. -/
def outG (D : List Int) (d : Nat) : List (List Int) := (List.range (prdN (dN (D.take d)))).map (tG (D.take d))
def moreG (D : List Int) (d j : Nat) : List (List Int) := (List.range j).map (tG (D.take (d + 1)))
theorem outG_zero (D : List Int) : outG D 0 = [[]] := by simp [outG, prdN, tG, dN, dig, toI]
theorem outG_len (D : List Int) (d : Nat) : (outG D d).length = prdN (dN (D.take d)) := by rw [outG, List.length_map, List.length_range]
theorem outG_at {D : List Int} {d i : Nat} {t : List Int} (h : (outG D d)[i]? = some t) : i < prdN (dN (D.take d)) ∧ t = tG (D.take d) i := by
  have hi : i < prdN (dN (D.take d)) := by rw [← outG_len]; exact (List.getElem?_eq_some_iff.1 h).1
  rw [outG, List.getElem?_map, List.getElem?_range hi] at h
  exact ⟨hi, by simpa using h.symm⟩
theorem outG_succ_len {D : List Int} {d : Nat} {n : Int} (h : D[d]? = some n) : prdN (dN (D.take (d + 1))) = prdN (dN (D.take d)) * n.toNat := by
  rw [List.take_add_one, h, Option.toList, dN_append, prdN_append]
  simp [prdN]
theorem moreG_zero (D : List Int) (d : Nat) : moreG D d 0 = [] := rfl
theorem moreG_len (D : List Int) (d j : Nat) : (moreG D d j).length = j := by rw [moreG, List.length_map, List.length_range]
theorem moreG_step {D : List Int} {d : Nat} {n : Int} (h : D[d]? = some n) {i k : Nat} {t : List Int} (ht : (outG D d)[i]? = some t) (hk : k < n.toNat) : moreG D d (i * n.toNat + k + 1) = moreG D d (i * n.toNat + k) ++ [t ++ [(k : Int)]] := by
  obtain ⟨hi, rfl⟩ := outG_at ht
  rw [moreG, List.range_succ, List.map_append, moreG, List.map_cons, List.map_nil, ← tG_snoc _ _ _ _ hi hk, List.take_add_one, h]
  rfl
theorem moreG_all {D : List Int} {d : Nat} {n : Int} (h : D[d]? = some n) : moreG D d (prdN (dN (D.take d)) * n.toNat) = outG D (d + 1) := by
  rw [moreG, outG, outG_succ_len h]
theorem outG_tlen {D : List Int} {d : Nat} (hd : d ≤ D.length) {t : List Int} (h : t ∈ outG D d) : t.length = d := by
  rw [outG, List.mem_map] at h
  obtain ⟨k, _, rfl⟩ := h
  rw [tG_length, List.length_take]
  omega
theorem outG_bd {D : List Int} (hD : ∀ x ∈ D, 0 ≤ x ∧ x ≤ 1048576) {d : Nat} {t : List Int} {x : Int} (h : t ∈ outG D d) (hx : x ∈ t) : 0 ≤ x ∧ x < 1048576 := by
  rw [outG, List.mem_map] at h
  obtain ⟨k, hk, rfl⟩ := h
  have h2 := (tG_plc (D := D.take d) (fun y hy => (hD y (List.mem_of_mem_take hy)).1) (List.mem_range.1 hk)).1
  obtain ⟨i, hi⟩ := List.getElem?_of_mem hx
  have hl : i < (D.take d).length := by rw [← h2.1]; exact (List.getElem?_eq_some_iff.1 hi).1
  have h3 := h2.2 i x _ hi (List.getElem?_eq_getElem hl)
  have h4 := hD _ (List.mem_of_mem_take (List.getElem_mem hl))
  omega
theorem dN_pos {D : List Int} (h : ∀ x ∈ D, 1 ≤ x) : ∀ y ∈ dN D, 0 < y := fun y hy => by
  rw [dN, List.mem_map] at hy
  obtain ⟨x, hx, rfl⟩ := hy
  have := h x hx
  omega
/-- No part of the dimensions has more tuples than all of them. -/
theorem dN_take_le {D : List Int} (h : ∀ x ∈ D, 1 ≤ x) (d : Nat) : prdN (dN (D.take d)) ≤ prdN (dN D) ∧ 0 < prdN (dN (D.take d)) := by
  have h1 := prdN_append (dN (D.take d)) (dN (D.drop d))
  rw [dN, dN, ← List.map_append, List.take_append_drop] at h1
  have h2 := prdN_pos (L := dN (D.drop d)) (dN_pos (fun x hx => h x (List.mem_of_mem_drop hx)))
  have h3 := prdN_pos (L := dN (D.take d)) (dN_pos (fun x hx => h x (List.mem_of_mem_take hx)))
  have h4 := Nat.mul_le_mul_left (prdN (dN (D.take d))) h2
  rw [show prdN (dN D) = _ from h1]
  rw [dN] at h4 ⊢
  rw [dN] at h4
  rw [dN] at h3
  refine ⟨?_, h3⟩
  omega
end Go.Proofs.Ytneegijbbbebkaa

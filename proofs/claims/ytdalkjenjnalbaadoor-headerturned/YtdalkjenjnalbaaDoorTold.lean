/-
  Plain facts: bytes of which one is another one have another cyclic sum, and what was sealed does not bear its sum then. No conditions but that bytes are bytes.
-/
import Derived.Test.YtdalkjenjnalbaaDoorUnsealWalk
namespace Go.Proofs.YtdalkjenjnalbaaDoor
set_option linter.unusedVariables false
set_option maxRecDepth 100000

theorem numB_none : ∀ n, numB (List.replicate n false) = 0
  | 0 => rfl
  | n + 1 => by rw [List.replicate_succ, numB, numB_none n]; rfl
theorem xor_none {p t : Nat} (h : p ^^^ t = 0) : p = t := by
  have e : p ^^^ t ^^^ t = t := by rw [h, Nat.zero_xor]
  rw [Nat.xor_assoc, Nat.xor_self, Nat.xor_zero] at e
  exact e
theorem xor_other {p y : Nat} (h : y ≠ 0) : p ≠ p ^^^ y := fun e => by
  have h1 : p ^^^ (p ^^^ y) = y := by rw [← Nat.xor_assoc, Nat.xor_self, Nat.zero_xor]
  rw [← e, Nat.xor_self] at h1
  exact h h1.symm
/-- One byte that is another one. -/
theorem crc_turned (A R : List Int) (p t : Nat) (hp : p < 256) (ht : t < 256) (h : p ≠ t) : crcN (A ++ (p : Int) :: R) ≠ crcN (A ++ (t : Int) :: R) := by
  intro e
  have h1 := crc_diff _ _ (by simp) e
  have eq : ∀ z : Nat, allBits (A ++ (z : Int) :: R) = allBits A ++ (bitsN 8 z ++ allBits R) := fun z => by simp [allBits]
  rw [eq, eq, List.zipWith_append rfl, List.zipWith_append (by rw [bitsN_length, bitsN_length]), zip_self, zip_self] at h1
  have h2 := burst_zero _ _ _ (by simp [bitsN_length]) h1
  have h3 := numB_zip (bitsN 8 p) (bitsN 8 t) (by rw [bitsN_length, bitsN_length])
  rw [h2, numB_none, numB_bitsN, numB_bitsN, Nat.mod_eq_of_lt hp, Nat.mod_eq_of_lt ht] at h3
  exact h (xor_none h3.symm)
theorem set_split (l : List Int) (k : Nat) (t : Int) (h : k < l.length) : l = l.take k ++ l.getD k 0 :: l.drop (k + 1) ∧ l.set k t = l.take k ++ t :: l.drop (k + 1) := by
  have e : l = l.take k ++ l.getD k 0 :: l.drop (k + 1) := by
    have h1 := List.take_append_drop k l
    rw [List.drop_eq_getElem_cons h] at h1
    have : l.getD k 0 = l[k] := by simp [List.getD, h]
    rw [this]; exact h1.symm
  refine ⟨e, ?_⟩
  have hlen : (l.take k).length = k := by simp; omega
  rw [show l.set k t = (l.take k ++ l.getD k 0 :: l.drop (k + 1)).set k t by rw [← e], set_mid _ _ _ _ _ hlen.symm]
theorem crc_set (l : List Int) (k p t : Nat) (h : k < l.length) (hp : (p : Int) = l.getD k 0) (hp2 : p < 256) (ht : t < 256) (hne : p ≠ t) : crcN (l.set k (t : Int)) ≠ crcN l := by
  obtain ⟨e1, e2⟩ := set_split l k (t : Int) h
  have := crc_turned (l.take k) (l.drop (k + 1)) p t hp2 ht hne
  rw [hp, ← e1, ← e2] at this
  exact fun e => this e.symm
theorem fletch_set (l : List Int) (k p t : Nat) (h : k < l.length) (hp : (p : Int) = l.getD k 0) (hp2 : p < 256) (ht : t < 256) (hne : p ≠ t) : fletch (l.set k (t : Int)) ≠ fletch l := by
  obtain ⟨e1, e2⟩ := set_split l k (t : Int) h
  have := fletch_turned (l.take k) (l.drop (k + 1)) (p : Int) (t : Int) (by omega) (by omega) (by omega)
  rw [hp, ← e1, ← e2] at this
  exact fun e => this e.symm
/-- What Unseal tells of bytes with four behind them. -/
theorem unErr_of (a T : List Int) (h : T.length = 4) : unErr (a ++ T) = if ((crcN a : Nat) : Int) = num T 4 then 0 else 5 := by
  unfold unErr
  have hl : (a ++ T).length - 4 = a.length := by rw [List.length_append, h]; omega
  rw [if_neg (by rw [List.length_append, h]; omega), hl, List.take_left, List.drop_left, List.take_of_length_le (by omega)]
theorem num_crc (l : List Int) : num (digs (crcN l) 4) 4 = ((crcN l : Nat) : Int) := by
  have := crcN_lt l
  exact num_back (by omega) (by show _ < (4294967296 : Int); omega)
theorem unErr_seal (l : List Int) : unErr (sealN l) = 0 := by
  rw [sealN, unErr_of _ _ (digs_length _ _), num_crc, if_pos rfl]
theorem unList_seal (l : List Int) : unList (sealN l) = l := by
  unfold unList
  rw [unErr_seal, if_pos rfl, sealN_length, sealN]; simp
theorem unErr_set (l : List Int) (k p t : Nat) (h : k < l.length) (hp : (p : Int) = l.getD k 0) (hp2 : p < 256) (ht : t < 256) (hne : p ≠ t) : unErr ((sealN l).set k (t : Int)) = 5 := by
  rw [sealN, List.set_append_left _ _ h, unErr_of _ _ (digs_length _ _), num_crc, if_neg]
  exact fun e => crc_set l k p t h hp hp2 ht hne (by omega)
theorem unList_bad {l : List Int} (h : unErr l = 5) : unList l = [] := by unfold unList; rw [h, if_neg (by decide)]

end Go.Proofs.YtdalkjenjnalbaaDoor

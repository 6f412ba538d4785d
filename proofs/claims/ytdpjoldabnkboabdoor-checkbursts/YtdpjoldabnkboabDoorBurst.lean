/-
  Plain facts: bits turned within 32 that follow one another, of what bears its sum, are told. No conditions but that bytes are bytes.
-/
import Derived.Test.YtdpjoldabnkboabDoorTold
import Derived.Test.YtdpjoldabnkboabDoorPlace
namespace Go.Proofs.YtdpjoldabnkboabDoor
set_option linter.unusedVariables false

/-- Is one of the first j bits a one? -/
def anyB (u j : Nat) : Bool := (bitsN j u).any id
theorem bitsN_snoc (j u : Nat) : bitsN (j + 1) u = bitsN j u ++ [u.testBit j] := by
  rw [bitsN_add j 1 u, bitsN, bitsN, Nat.testBit_div_two_pow]; simp
theorem anyB_next (u j : Nat) : anyB u (j + 1) = (anyB u j || u.testBit j) := by
  unfold anyB; rw [bitsN_snoc, List.any_append]; simp
theorem anyB_none {u j : Nat} (h : bitsN j u = List.replicate (bitsN j u).length false) : anyB u j = false := by
  unfold anyB; rw [h]; simp [List.any_replicate]

/-- What a burst has made of bytes: the first j of its bits, from place k on. -/
def Burst (S M : List Int) (u k j : Nat) : Prop :=
  M.length = S.length ∧ Byt M ∧ List.zipWith (· != ·) (allBits S) (allBits M) = turnTo u k (8 * S.length) j ∧ (anyB u j = false → M = S)
theorem burst_start (S : List Int) (u k : Nat) (h : Byt S) : Burst S S u k 0 := by
  refine ⟨rfl, h, ?_, fun _ => rfl⟩
  rw [zip_self, allBits_length]; rfl
theorem burst_skip {S M : List Int} {u k j : Nat} (h : Burst S M u k j) (hb : u.testBit j = false) : Burst S M u k (j + 1) := by
  obtain ⟨h1, h2, h3, h4⟩ := h
  refine ⟨h1, h2, ?_, fun h => h4 ?_⟩
  · rw [turnTo, hb, if_neg (by simp)]; exact h3
  · rw [anyB_next, hb] at h; simpa using h
theorem burst_flip {S M : List Int} {u k j : Nat} (h : Burst S M u k j) (hb : u.testBit j = true) (x : Nat) (hq : (k + j) / 8 < M.length) (hx : (x : Int) = M.getD ((k + j) / 8) 0) (hx2 : x < 256) : Burst S (M.set ((k + j) / 8) ((x ^^^ 2 ^ ((k + j) % 8) : Nat) : Int)) u k (j + 1) := by
  obtain ⟨h1, h2, h3, h4⟩ := h
  have h8 : (k + j) % 8 < 8 := Nat.mod_lt _ (by decide)
  have hp : 2 ^ ((k + j) % 8) < 2 ^ 8 := Nat.pow_lt_pow_right (by decide) h8
  have hlt : x ^^^ 2 ^ ((k + j) % 8) < 256 := Nat.xor_lt_two_pow (n := 8) hx2 hp
  refine ⟨by rw [List.length_set, h1], byt_set h2 _ (by omega), ?_, fun h => ?_⟩
  · obtain ⟨e1, e2⟩ := set_split M ((k + j) / 8) ((x ^^^ 2 ^ ((k + j) % 8) : Nat) : Int) hq
    have hl : (M.take ((k + j) / 8)).length = (k + j) / 8 := by simp; omega
    have hf := allBits_flip (M.take ((k + j) / 8)) (M.drop ((k + j) / 8 + 1)) x ((k + j) % 8) h8
    rw [hl, Nat.div_add_mod, ← e2, hx, ← e1] at hf
    rw [hf, zip_flip, h3, turnTo, hb, if_pos rfl]
  · rw [anyB_next, hb] at h; simp at h
/-- A burst in what was sealed is told. -/
theorem burst_told {l M : List Int} {u k j : Nat} (h : Burst (sealN l) M u k j) (hj : j ≤ 32) (hk : k + j ≤ 8 * (l.length + 4)) (ht : anyB u j = true) : unErr M = 5 := by
  obtain ⟨h1, h2, h3, h4⟩ := h
  rw [sealN_length] at h1 h3
  have hT : (M.drop l.length).length = 4 := by simp; omega
  have e : M = M.take l.length ++ M.drop l.length := (List.take_append_drop _ _).symm
  have hu := unErr_of (M.take l.length) (M.drop l.length) hT
  rw [← e] at hu
  rw [hu, if_neg]
  intro he
  have hd : digs (crcN (M.take l.length)) 4 = M.drop l.length := by
    rw [he]; exact digs_four _ hT (by have := byt_take h2 l.length 4; rwa [List.take_of_length_le (by omega)] at this)
  have hlen : l.length = (M.take l.length).length := by simp; omega
  have hf := sealed_diff l (M.take l.length) (crcN (M.take l.length)) hlen (crcN_lt _) rfl
  rw [hd, ← e] at hf
  have hS : l ++ digs (crcN l) 4 = sealN l := rfl
  rw [hS, h3, turnTo_form u k (8 * (l.length + 4)) j hk] at hf
  have hb := burst_zero _ _ _ (by rw [bitsN_length]; exact hj) hf
  rw [anyB_none hb] at ht
  cases ht

end Go.Proofs.YtdpjoldabnkboabDoor

/-
  Walks of the cyclic sum, the program's (by its table of constants) and the document's: both tell moreN of the bytes. Conditions: lengths within the machine's bounds; the table stands as the program's text lays it.
-/
import Derived.Test.YtgodoogmbdgeoabFletchWalk
namespace Go.Proofs.Ytgodoogmbdgeoab
open Go.RowKit
set_option linter.unusedVariables false
set_option maxRecDepth 100000

/-- The program's table of constants, as its text lays it. -/
def tab16 : List Nat := [0, 498536548, 997073096, 651767980, 1994146192, 1802195444, 1303535960, 1342533948, 3988292384, 4027552580, 3604390888, 3412177804, 2607071920, 2262029012, 2685067896, 3183342108]
/-- The register behind the first k bytes. -/
def regN (c : Nat) (l : List Int) (k : Nat) : Nat := feed (c ^^^ ones32) (allBits (l.take k))
theorem regN_lt {c : Nat} (h : c < 4294967296) (l : List Int) (k : Nat) : regN c l k < 4294967296 := feed_lt _ (Nat.xor_lt_two_pow (n := 32) h ones_lt)
theorem regN_start (c : Nat) (l : List Int) (h : c < 4294967296) : bits .xor .u32 IntKind.u32.max (c : Int) = ((regN c l 0 : Nat) : Int) := by
  have e : (IntKind.u32.max : Int) = ((ones32 : Nat) : Int) := rfl
  rw [e, u32_xor_nat _ _ (by decide) h, Nat.xor_comm]; rfl
theorem and15 (r : Nat) (h : r < 4294967296) : bits .and .u32 (r : Int) 15 = ((r % 16 : Nat) : Int) := by
  have e := u32_and_nat r 15 h (by decide)
  rw [show ((15 : Nat) : Int) = 15 from rfl] at e
  rw [e, Nat.and_two_pow_sub_one_eq_mod r 4]

theorem step_xor (r x : Nat) (hr : r < 4294967296) (hx : x < 256) : ∃ r1, Hid (r1 = r ^^^ x) ∧ bits .xor .u32 (r : Int) (x : Int) = (r1 : Int) ∧ r1 < 4294967296 :=
  ⟨_, (show r ^^^ x = r ^^^ x from rfl), u32_xor_nat _ _ hr (by omega), Nat.xor_lt_two_pow (n := 32) hr (by omega)⟩
theorem tab_lt : ∀ j, j < 16 → tab16.getD j 0 < 4294967296 := by decide
theorem tab_feed : ∀ j, j < 16 → tab16.getD j 0 = feed j (List.replicate 4 false) := by decide
theorem regN_step {c : Nat} {l : List Int} {k : Nat} (hlt : k < l.length) : regN c l (k + 1) = feed (regN c l k) (bitsN 8 (l.getD k 0).toNat) := by
  unfold regN
  have : l.getD k 0 = l[k] := by simp [List.getD, hlt]
  rw [List.take_succ_eq_append_getElem hlt, allBits_append, feed_append, this]
  simp [allBits]
theorem regN_next {c : Nat} {l : List Int} {k x r r1 r2 r3 : Nat} (hc : c < 4294967296) (hby : Byt l) (hlt : k < l.length) (hx : (x : Int) = l.getD k 0) (hr : r = regN c l k) (h1 : r1 = r ^^^ x) (h2 : r2 = feed r1 (List.replicate 4 false)) (h3 : r3 = feed r2 (List.replicate 4 false)) : regN c l (k + 1) = r3 := by
  have hb := hby k
  rw [regN_step hlt, ← hx, Int.toNat_natCast, ← hr, feed_in r x 8 (by omega), ← h1, h3, h2, ← feed_append]
  rfl
theorem regN_end {c : Nat} (h : c < 4294967296) (l : List Int) : bits .xor .u32 IntKind.u32.max ((regN c l l.length : Nat) : Int) = ((moreN c l : Nat) : Int) := by
  have e : (IntKind.u32.max : Int) = ((ones32 : Nat) : Int) := rfl
  rw [e, u32_xor_nat _ _ (by decide) (regN_lt h l _), Nat.xor_comm]
  unfold regN moreN
  rw [List.take_length]

theorem feed_bit (r x j : Nat) : feed r (bitsN (j + 1) x) = stp (feed r (bitsN j x)) (x.testBit j) := by
  rw [bitsN_add j 1 x, feed_append, bitsN, bitsN, Nat.testBit_div_two_pow, Nat.zero_add, feed_cons, feed_nil]
theorem and1 (r : Nat) (h : r < 4294967296) : bits .and .u32 (r : Int) 1 = ((r.testBit 0).toNat : Int) := by
  have e := u32_and_nat r 1 h (by decide)
  rw [show ((1 : Nat) : Int) = 1 from rfl] at e
  rw [e, Nat.and_one_is_mod, Nat.testBit_zero]
  rcases Nat.mod_two_eq_zero_or_one r with h | h <;> simp [h]
theorem bit_turn (q x j : Nat) (hq : q < 4294967296) (hx : x < 256) : (bits .xor .u32 (bits .and .u32 (q : Int) 1) (bits .and .u32 ((x : Int) / 2 ^ j) 1) == 1) = (q.testBit 0 != x.testBit j) := by
  have e : (x : Int) / 2 ^ j = ((x / 2 ^ j : Nat) : Int) := by simp
  have hd : x / 2 ^ j ≤ x := Nat.div_le_self _ _
  rw [and1 q hq, e, and1 _ (by omega), Nat.testBit_div_two_pow, Nat.zero_add]
  cases q.testBit 0 <;> cases x.testBit j <;> rfl

end Go.Proofs.Ytgodoogmbdgeoab

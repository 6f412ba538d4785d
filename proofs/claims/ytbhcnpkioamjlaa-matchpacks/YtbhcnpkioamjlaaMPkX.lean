/-
  What the program packs, in plain words: it comes back, and is short; and that it tells the document's examples. No conditions.
-/
import Derived.Test.YtbhcnpkioamjlaaMUn
import Derived.Lib.SlBytesConst
namespace Go.Proofs.Ytbhcnpkioamjlaa
open Go.RowKit
set_option linter.unusedVariables false
set_option maxRecDepth 100000

theorem un_pkX (c : Nat) (b : List Int) (most : Nat) : unE (pkX c b) most = if b.length ≤ most then (b, 0) else ([], 3) := by
  unfold pkX
  split
  · obtain ⟨h1, h2⟩ := toks_good b
    rw [unE, if_neg (by omega), if_neg (by omega), tokB, dec_good most (toks b) _ [] h2 (Nat.zero_le _) (by have := flat_len (toks b); omega), h1]
  · rw [unE, if_neg (by omega), if_pos rfl]
    by_cases h : b.length ≤ most
    · rw [if_neg (by omega), if_pos h]
    · rw [if_pos (by omega), if_neg h]
theorem pkX_short (c : Nat) (b : List Int) : 1 ≤ (pkX c b).length ∧ (pkX c b).length ≤ b.length + 1 := by
  unfold pkX
  split <;> simp <;> omega
theorem pkX_le {c : Nat} (hc : c ≤ 1) (b : List Int) : (pkX c b).length ≤ (pkL b).length + 1 := by
  unfold pkX pkL
  split <;> split <;> simp <;> omega
theorem pkX_alike {c : Nat} (hc : c ≤ 1) (k : Nat) (x : Int) : (pkX c (List.replicate k x)).length ≤ k / 64 + 128 := by
  have key : (tokB (List.replicate k x)).length ≤ 2 * ((k + 127) / 131) + 10 := by
    show sz (tokF (List.replicate k x) ((List.replicate k x).length + 1) 0 0) ≤ _
    rw [tokF, List.length_replicate]
    have hb0 : (bst (List.replicate k x) 0).1 = 0 := rfl
    split
    · rename_i hk
      rw [hb0, if_neg (by omega), if_neg (by omega), Nat.zero_add]
      by_cases h3 : k - 1 ≤ 3
      · have := rep_tail (k := k) (x := x) k 1 0 (Nat.le_refl _) (by omega) (by omega) h3 (by omega)
        omega
      · cases k with
        | zero => omega
        | succ k =>
          rw [tokF, List.length_replicate, if_pos (by omega), bst_rep (Nat.le_refl _), if_pos (by omega), sz_append, sz_cp]
          have h4 := sz_run ((List.take 1 (List.replicate (k + 1) x)).drop 0)
          have h4l : ((List.take 1 (List.replicate (k + 1) x)).drop 0).length = 1 := by rw [List.drop_zero, List.length_take, List.length_replicate]; omega
          rw [h4l] at h4
          have h5 := rep_row (k := k + 1) (x := x) k (1 + min 131 (k + 1 - 1)) (by omega) (by omega)
          have h6 : (k + 1 - (1 + min 131 (k + 1 - 1)) + 127) / 131 ≤ (k + 1 + 127) / 131 := Nat.div_le_div_right (by omega)
          omega
    · have := sz_run ((List.replicate k x).drop 0)
      rw [List.length_drop, List.length_replicate] at this
      omega
  have h2 : 2 * ((k + 127) / 131) ≤ k / 64 + 10 := by
    have h3 := Nat.div_mul_le_self (k + 127) 131
    have h4 := Nat.lt_div_mul_add (a := k) (b := 64) (by omega)
    omega
  unfold pkX
  split
  · rw [List.length_cons]; omega
  · rename_i h
    rw [List.length_replicate] at h
    rw [List.length_cons, List.length_replicate]
    omega
theorem pkX_twice {c : Nat} (hc : c ≤ 1) {b : List Int} (h10 : 10 ≤ b.length) (h131 : b.length ≤ 131) : (pkX c (b ++ b)).length ≤ b.length + 8 := by
  have h := tw_head h10 h131 ((b ++ b).length + 1) 0 0 (Nat.le_refl _) (Nat.zero_le _) (by omega)
  rw [if_pos (by omega)] at h
  have e : (tokB (b ++ b)).length = sz (tokF (b ++ b) ((b ++ b).length + 1) 0 0) := rfl
  have hl : (b ++ b).length = 2 * b.length := by rw [List.length_append]; omega
  unfold pkX
  split
  · rw [List.length_cons]; omega
  · rename_i h2
    rw [List.length_cons]
    omega
theorem lv15 : pkX 0 [97, 97, 97, 97, 97, 97, 97, 97, 97] = [1, 0, 97, 132, 1] ∧ unE [1, 0, 97, 132, 1] 9 = ([97, 97, 97, 97, 97, 97, 97, 97, 97], 0) := by decide +kernel
set_option maxHeartbeats 16000000 in
theorem lives15_any (w : World) : Calls Try.prog 9 #[] w fun e w' => e = .returned (.bool true) ∧ Below w.heap.size w w' := by
  obtain ⟨L1, L2⟩ := lv15
  have HE1 : Hid (((strOfNums [1, 0, 97, 132, 1]).toList == [1, 0, 97, 132, 1]) = true) := by unfold Hid; kernel_rfl
  have HE2 : Hid (((strOfNums [97, 97, 97, 97, 97, 97, 97, 97, 97]).toList == [97, 97, 97, 97, 97, 97, 97, 97, 97]) = true) := by unfold Hid; kernel_rfl
  have HPK : Hid (∀ W a n1, Bs W (.slice a 9 n1) [97, 97, 97, 97, 97, 97, 97, 97, 97] → Calls Try.prog 11 #[.slice a 9 n1] W (TlP W 0 [1, 0, 97, 132, 1])) := fun W a n1 h => by
    have := pack_any _ _ W h (by simp)
    rwa [L1] at this
  have HUN : Hid (∀ W a n1, Bs W (.slice a 5 n1) [1, 0, 97, 132, 1] → Calls Try.prog 14 #[.slice a 5 n1, .int .i64 9] W (TlP W 0 [97, 97, 97, 97, 97, 97, 97, 97, 97])) := fun W a n1 h => by
    have := unpack_in _ _ 9 W h (fun i => by rcases i with _ | _ | _ | _ | _ | i <;> simp [List.getD]) (by omega) (by simp)
    rwa [L2] at this
  obtain ⟨w1, hw1, b1, s1⟩ : ∃ w1, w.alloc (.cells #[.int .u8 97, .int .u8 97, .int .u8 97, .int .u8 97, .int .u8 97, .int .u8 97, .int .u8 97, .int .u8 97, .int .u8 97] 5 (9, 10)) = w1 ∧ Below w.heap.size w w1 ∧ w1.heap.size = w.heap.size + 1 := ⟨_, rfl, (Below.refl _ _).alloc (Nat.le_refl _) _, World.size_alloc _ _⟩
  have hcv1 : (convert 22 22 (.slice (some ⟨w.heap.size, 0, none⟩) 9 9)).run Try.prog (w.alloc (.cells #[.int .u8 97, .int .u8 97, .int .u8 97, .int .u8 97, .int .u8 97, .int .u8 97, .int .u8 97, .int .u8 97, .int .u8 97] 5)) = .ok (.slice (some ⟨w.heap.size, 0, none⟩) 9 9) w1 := by
    rw [← hw1]; exact Lib.run_convert_bytes_const (P := Try.prog) w 22 5 _ 9 9 Try.underlying22 Try.underlying5
  have HC1 : Hid _ := HPK.out w1 (some ⟨w.heap.size, 0, none⟩) 9 (by rw [← hw1]; exact Bs.litM w _ _ _ 9 rfl rfl)
  have HB1 : Hid (Below w.heap.size w w1) := b1
  clear L1 L2 b1 s1
  go_enter Try.func9, Try.ntmps9
  go_wp2_with fail
  refine Calls.mono HC1.out ?_
  rintro e w2 ⟨x2, rfl, ho2, hb2⟩
  have HX2 : Hid (Bs w2 x2 [1, 0, 97, 132, 1]) := ho2.bs
  have HB2 : Hid (Below w.heap.size w w2) := HB1.out.trans (hb2.mono HB1.out.size)
  clear ho2 hb2 hcv1
  obtain ⟨w3, hw3, b3⟩ : ∃ w3, w2.alloc (.cells #[.int .u8 1, .int .u8 0, .int .u8 97, .int .u8 132, .int .u8 1] 5) = w3 ∧ Below w2.heap.size w2 w3 := ⟨_, rfl, (Below.refl _ _).alloc (Nat.le_refl _) _⟩
  have HC3 : Hid _ := HUN.out w3 (some ⟨w2.heap.size, 0, none⟩) 5 (by rw [← hw3]; exact Bs.litM w2 _ (0, 0) _ 5 rfl rfl)
  have HB3 : Hid (Below w2.heap.size w2 w3) := b3
  clear b3
  go_wp2_with fail
  refine Calls.mono HC3.out ?_
  rintro e w4 ⟨x4, rfl, ho4, hb4⟩
  have hb24 : Below w2.heap.size w2 w4 := HB3.out.trans (hb4.mono HB3.out.size)
  have HBZ : Hid (Below w.heap.size w w4) := HB2.out.trans (hb24.mono HB2.out.size)
  have hsx := Bs.str (P := Try.prog) (HX2.out.below hb24) Try.underlying22 Try.underlying5 (dst := 9) Try.underlying9
  have hsy := Bs.str (P := Try.prog) ho4.bs Try.underlying22 Try.underlying5 (dst := 9) Try.underlying9
  have hE1 : (strOfNums [1, 0, 97, 132, 1]).toList = [1, 0, 97, 132, 1] := eq_of_beq HE1.out
  have hE2 : (strOfNums [97, 97, 97, 97, 97, 97, 97, 97, 97]).toList = [97, 97, 97, 97, 97, 97, 97, 97, 97] := eq_of_beq HE2.out
  clear ho4 hb4 hb24
  go_wp2_with fail
  go_ret
  exact ⟨rfl, HBZ.out⟩
end Go.Proofs.Ytbhcnpkioamjlaa

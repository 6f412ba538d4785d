/-
  That the program tells the document's examples of filters. No conditions.
-/
import Derived.Test.YtgodoogmbdgeoabFiUn
import Derived.Lib.SlBytesConst
namespace Go.Proofs.Ytgodoogmbdgeoab
open Go.RowKit
set_option linter.unusedVariables false
set_option maxRecDepth 100000

theorem fls_lit (w : World) (k z : Int) (fr : Nat × Nat) : Fls (w.alloc (.cells #[.int .i64 k, .int .i64 z] 26 fr)) (.slice (some ⟨w.heap.size, 0, none⟩) 1 1) [(k, z)] := by
  refine ⟨_, _, rfl, Nat.le_refl _, (fun h => by cases h), fun ad ha j u hj => ?_⟩
  obtain rfl := Option.some.inj ha
  rw [addr_addF, Nat.zero_add, World.cell?_alloc_mark]
  have hj' := fcells_get hj
  rcases j with _ | _ | j
  · simpa [fcells, encF] using hj
  · simpa [fcells, encF] using hj
  · simp at hj'; omega
theorem lv16 : apE [(4, 0)] 2 = 0 ∧ apR [(4, 0)] [97, 98] = [97, 98, 1, 36, 0, 195] ∧ udE [(4, 0)] [97, 98, 1, 36, 0, 195] 2 = 0 ∧ udR [(4, 0)] [97, 98, 1, 36, 0, 195] 2 = [97, 98] ∧ chE [(1, 0)] = 2 := by decide +kernel
set_option maxHeartbeats 16000000 in
theorem lives16_any (w : World) : Calls Try.prog 5 #[] w fun e w' => e = .returned (.bool true) ∧ Below w.heap.size w w' := by
  obtain ⟨L1, L2, L3, L4, L5⟩ := lv16
  have HE1 : Hid (((strOfNums [97, 98, 1, 36, 0, 195]).toList == [97, 98, 1, 36, 0, 195]) = true) := by unfold Hid; kernel_rfl
  have HE2 : Hid (((strOfNums [97, 98]).toList == [97, 98]) = true) := by unfold Hid; kernel_rfl
  have HAP : Hid (∀ W v x, Fls W v [(4, 0)] → Bs W x [97, 98] → Calls Try.prog 4 #[v, x] W (TlP W 0 [97, 98, 1, 36, 0, 195])) := fun W v x h1 h2 => by
    have := apply_any v x [(4, 0)] [97, 98] W h1 h2 (fun i => by rcases i with _ | _ | i <;> simp [List.getD]) (by simp) (by simp)
    rwa [show ([97, 98] : List Int).length = 2 from rfl, L1, L2] at this
  have HUN : Hid (∀ W v x, Fls W v [(4, 0)] → Bs W x [97, 98, 1, 36, 0, 195] → Calls Try.prog 6 #[v, x, .int .i64 2] W (TlP W 0 [97, 98])) := fun W v x h1 h2 => by
    have := undo_any v x [(4, 0)] [97, 98, 1, 36, 0, 195] 2 W h1 h2 (fun i => by rcases i with _ | _ | _ | _ | _ | _ | i <;> simp [List.getD]) (by simp) (by simp)
    rwa [L3, L4] at this
  have HCH : Hid (∀ W v, Fls W v [(1, 0)] → Calls Try.prog 7 #[v] W fun e w' => e = .returned (.int .i64 2) ∧ Below W.heap.size W w') := fun W v h => by
    have := check_any v [(1, 0)] W h (by simp)
    rwa [L5] at this
  clear L1 L2 L3 L4 L5
  have bel : ∀ (W : World) o, Below W.heap.size W (W.alloc o) := fun W o => (Below.refl _ _).alloc (Nat.le_refl _) _
  obtain ⟨w1, hw1, s1, f1, b1⟩ : ∃ w1, w.alloc (.cells #[.int .i64 4, .int .i64 0] 26) = w1 ∧ w1.heap.size = w.heap.size + 1 ∧ Fls w1 (.slice (some ⟨w.heap.size, 0, none⟩) 1 1) [(4, 0)] ∧ Below w.heap.size w w1 := ⟨_, rfl, World.size_alloc _ _, fls_lit _ _ _ _, bel _ _⟩
  obtain ⟨w2, hw2, b2, x2⟩ : ∃ w2, w1.alloc (.cells #[.int .u8 97, .int .u8 98] 5 (2, 3)) = w2 ∧ Below w1.heap.size w1 w2 ∧ Bs w2 (.slice (some ⟨w1.heap.size, 0, none⟩) 2 2) [97, 98] := ⟨_, rfl, bel _ _, Bs.litM w1 _ _ _ 2 rfl rfl⟩
  have hcv1 : (convert 23 23 (.slice (some ⟨w1.heap.size, 0, none⟩) 2 2)).run Try.prog (w1.alloc (.cells #[.int .u8 97, .int .u8 98] 5)) = .ok (.slice (some ⟨w1.heap.size, 0, none⟩) 2 2) w2 := by
    rw [← hw2]; exact Lib.run_convert_bytes_const (P := Try.prog) w1 23 5 _ 2 2 Try.underlying23 Try.underlying5
  have HC1 : Hid _ := HAP.out w2 _ _ (f1.below b2) x2
  have HB2 : Hid (Below w.heap.size w w2) := box_next b1 b1.size b2
  clear b2 x2 s1 f1 b1 bel
  go_enter Try.func5, Try.ntmps5
  go_wp2_with fail
  refine Calls.mono HC1.out ?_
  rintro e w3 ⟨x3, rfl, ho3, hb3⟩
  have bel : ∀ (W : World) o, Below W.heap.size W (W.alloc o) := fun W o => (Below.refl _ _).alloc (Nat.le_refl _) _
  have HX3 : Hid (Bs w3 x3 [97, 98, 1, 36, 0, 195]) := ho3.bs
  have HB3 : Hid (Below w.heap.size w w3) := HB2.out.trans (hb3.mono HB2.out.size)
  clear ho3 hb3 hcv1
  obtain ⟨w4, hw4, f4, b4⟩ : ∃ w4, w3.alloc (.cells #[.int .i64 4, .int .i64 0] 26) = w4 ∧ Fls w4 (.slice (some ⟨w3.heap.size, 0, none⟩) 1 1) [(4, 0)] ∧ Below w3.heap.size w3 w4 := ⟨_, rfl, fls_lit _ _ _ _, bel _ _⟩
  obtain ⟨w5, hw5, b5, x5⟩ : ∃ w5, w4.alloc (.cells #[.int .u8 97, .int .u8 98, .int .u8 1, .int .u8 36, .int .u8 0, .int .u8 195] 5 (6, 7)) = w5 ∧ Below w4.heap.size w4 w5 ∧ Bs w5 (.slice (some ⟨w4.heap.size, 0, none⟩) 6 6) [97, 98, 1, 36, 0, 195] := ⟨_, rfl, bel _ _, Bs.litM w4 _ _ _ 6 rfl rfl⟩
  have hcv5 : (convert 23 23 (.slice (some ⟨w4.heap.size, 0, none⟩) 6 6)).run Try.prog (w4.alloc (.cells #[.int .u8 97, .int .u8 98, .int .u8 1, .int .u8 36, .int .u8 0, .int .u8 195] 5)) = .ok (.slice (some ⟨w4.heap.size, 0, none⟩) 6 6) w5 := by
    rw [← hw5]; exact Lib.run_convert_bytes_const (P := Try.prog) w4 23 5 _ 6 6 Try.underlying23 Try.underlying5
  have HC2 : Hid _ := HUN.out w5 _ _ (f4.below b5) x5
  have b35 : Below w3.heap.size w3 w5 := box_next b4 b4.size b5
  have HX5 : Hid (Bs w5 x3 [97, 98, 1, 36, 0, 195]) := HX3.out.below b35
  have HB5 : Hid (Below w.heap.size w w5) := HB3.out.trans (b35.mono HB3.out.size)
  clear b4 f4 b5 x5 b35 bel
  go_wp2_with fail
  refine Calls.mono HC2.out ?_
  rintro e w6 ⟨x6, rfl, ho6, hb6⟩
  have bel : ∀ (W : World) o, Below W.heap.size W (W.alloc o) := fun W o => (Below.refl _ _).alloc (Nat.le_refl _) _
  have HB6 : Hid (Below w.heap.size w w6) := HB5.out.trans (hb6.mono HB5.out.size)
  have hsx := Bs.str (P := Try.prog) (HX5.out.below hb6) Try.underlying23 Try.underlying5 (dst := 9) Try.underlying9
  have hsy := Bs.str (P := Try.prog) ho6.bs Try.underlying23 Try.underlying5 (dst := 9) Try.underlying9
  have hE1 : (strOfNums [97, 98, 1, 36, 0, 195]).toList = [97, 98, 1, 36, 0, 195] := eq_of_beq HE1.out
  have hE2 : (strOfNums [97, 98]).toList = [97, 98] := eq_of_beq HE2.out
  obtain ⟨w7, hw7, f7, b7⟩ : ∃ w7, w6.alloc (.cells #[.int .i64 1, .int .i64 0] 26) = w7 ∧ Fls w7 (.slice (some ⟨w6.heap.size, 0, none⟩) 1 1) [(1, 0)] ∧ Below w6.heap.size w6 w7 := ⟨_, rfl, fls_lit _ _ _ _, bel _ _⟩
  have HC7 : Hid _ := HCH.out w7 _ f7
  have HB7 : Hid (Below w.heap.size w w7) := HB6.out.trans (b7.mono HB6.out.size)
  clear ho6 hb6 f7 b7 bel
  go_wp2_with fail
  refine Calls.mono HC7.out ?_
  rintro e w8 ⟨rfl, hb8⟩
  have HB8 : Hid (Below w.heap.size w w8) := HB7.out.trans (hb8.mono HB7.out.size)
  clear hb8
  go_wp2_with fail
  go_ret
  exact ⟨rfl, HB8.out⟩
end Go.Proofs.Ytgodoogmbdgeoab

/-
  The program tells the document's examples. No conditions.
-/
import Derived.Test.YtlmmfbdndneecaaFTop
import Derived.Lib.SlBytesConst
namespace Go.Proofs.Ytlmmfbdndneecaa
open Go.RowKit Go.Shelf
set_option linter.unusedVariables false
set_option maxRecDepth 100000

theorem Bs.litM (w : World) (l : List Int) (fr : Nat × Nat) (cs : Array Value) (n : Nat) (hcs : cs = (bcells l).toArray) (hn : n = l.length) : Bs (w.alloc (.cells cs 5 fr)) (.slice (some ⟨w.heap.size, 0, none⟩) n n) l := by
  subst hcs hn
  refine ⟨_, _, rfl, Nat.le_refl _, (fun h => by cases h), fun ad ha i hi => ?_⟩
  obtain rfl := Option.some.inj ha
  rw [addr_add, Nat.zero_add, World.cell?_alloc_mark]
  simp [bcells, hi]
theorem lv14 : shL 2 [97, 65, 98, 66, 99, 67, 120] = [97, 98, 99, 65, 66, 67, 120] ∧ deL 1 [5, 7, 6] = [5, 2, 255] := by decide +kernel
/-- What is told where there is no error and something is told. -/
theorem shP_yes {w w' : World} {R : List Int} {e : Ending} {n : Nat} (h : ShP w 0 R e w') (hn : R.length = n) (h0 : 0 < n) : ∃ g, w.heap.size ≤ g ∧ e = .returned (.tuple #[.slice (some ⟨g, 0, none⟩) n n, .int .i64 0]) ∧ Row w' g R ∧ Below w.heap.size w w' := by
  obtain ⟨x, rfl, ⟨_, hR⟩ | ⟨g, hg, rfl, hr⟩, hb⟩ := h
  · subst hR; simp at hn; omega
  · subst hn; exact ⟨g, hg, rfl, hr, hb⟩
set_option maxHeartbeats 8000000 in
theorem lives14_any (w : World) : Calls Try.prog 15 #[] w fun e w' => e = .returned (.bool true) ∧ Below w.heap.size w w' := by
  obtain ⟨L1, L2⟩ := lv14
  have HE1 : Hid (((strOfNums [97, 98, 99, 65, 66, 67, 120]).toList == [97, 98, 99, 65, 66, 67, 120]) = true) := by unfold Hid; kernel_rfl
  have HE2 : Hid (((strOfNums [5, 2, 255]).toList == [5, 2, 255]) = true) := by unfold Hid; kernel_rfl
  have HSH : Hid (∀ W a n1, Bs W (.slice a 7 n1) [97, 65, 98, 66, 99, 67, 120] → Calls Try.prog 9 #[.int .i64 2, .slice a 7 n1] W fun e w' => ∃ g, W.heap.size ≤ g ∧ e = .returned (.tuple #[.slice (some ⟨g, 0, none⟩) 7 7, .int .i64 0]) ∧ Row w' g [97, 98, 99, 65, 66, 67, 120] ∧ Below W.heap.size W w') := fun W a n1 h => by
    refine (shuffle_any 2 _ _ W h (fun i => ?_) (by simp)).mono fun e w' h => ?_
    · rcases i with _ | _ | _ | _ | _ | _ | _ | i <;> simp [List.getD]
    · rw [show wE 2 = 0 from rfl, show wL 2 shL [97, 65, 98, 66, 99, 67, 120] = shL 2 [97, 65, 98, 66, 99, 67, 120] from rfl, L1] at h
      exact shP_yes h rfl (by omega)
  have HDE : Hid (∀ W a n1, Bs W (.slice a 3 n1) [5, 7, 6] → Calls Try.prog 16 #[.int .i64 1, .slice a 3 n1] W fun e w' => ∃ g, W.heap.size ≤ g ∧ e = .returned (.tuple #[.slice (some ⟨g, 0, none⟩) 3 3, .int .i64 0]) ∧ Row w' g [5, 2, 255] ∧ Below W.heap.size W w') := fun W a n1 h => by
    refine (delta_any 1 _ _ W h (fun i => ?_) (by simp)).mono fun e w' h => ?_
    · rcases i with _ | _ | _ | i <;> simp [List.getD]
    · rw [show wE 1 = 0 from rfl, show wL 1 deL [5, 7, 6] = deL 1 [5, 7, 6] from rfl, L2] at h
      exact shP_yes h rfl (by omega)
  obtain ⟨w1, hw1, b1, s1⟩ : ∃ w1, w.alloc (.cells #[.int .u8 97, .int .u8 65, .int .u8 98, .int .u8 66, .int .u8 99, .int .u8 67, .int .u8 120] 5 (7, 8)) = w1 ∧ Below w.heap.size w w1 ∧ w1.heap.size = w.heap.size + 1 := ⟨_, rfl, (Below.refl _ _).alloc (Nat.le_refl _) _, World.size_alloc _ _⟩
  have hcv1 : (convert 22 22 (.slice (some ⟨w.heap.size, 0, none⟩) 7 7)).run Try.prog (w.alloc (.cells #[.int .u8 97, .int .u8 65, .int .u8 98, .int .u8 66, .int .u8 99, .int .u8 67, .int .u8 120] 5)) = .ok (.slice (some ⟨w.heap.size, 0, none⟩) 7 7) w1 := by
    rw [← hw1]; exact Lib.run_convert_bytes_const (P := Try.prog) w 22 5 _ 7 7 Try.underlying22 Try.underlying5
  have HC1 : Hid _ := HSH.out w1 (some ⟨w.heap.size, 0, none⟩) 7 (by rw [← hw1]; exact Bs.litM w _ _ _ 7 rfl rfl)
  have HB1 : Hid (Below w.heap.size w w1) := b1
  clear L1 L2 b1 s1
  go_enter Try.func15, Try.ntmps15
  go_wp2_with fail
  refine Calls.mono HC1.out ?_
  rintro e w2 ⟨g2, hg2, rfl, hr2, hb2⟩
  have HR2 : Hid (Row w2 g2 [97, 98, 99, 65, 66, 67, 120]) := hr2
  have HB2 : Hid (Below w.heap.size w w2) := HB1.out.trans (hb2.mono HB1.out.size)
  clear hr2 hb2 hcv1 hg2
  obtain ⟨w3, hw3, b3⟩ : ∃ w3, w2.alloc (.cells #[.int .u8 5, .int .u8 7, .int .u8 6] 5) = w3 ∧ Below w2.heap.size w2 w3 := ⟨_, rfl, (Below.refl _ _).alloc (Nat.le_refl _) _⟩
  have HC3 : Hid _ := HDE.out w3 (some ⟨w2.heap.size, 0, none⟩) 3 (by rw [← hw3]; exact Bs.litM w2 _ (0, 0) _ 3 rfl rfl)
  have HB3 : Hid (Below w2.heap.size w2 w3) := b3
  clear b3
  go_wp2_with fail
  refine Calls.mono HC3.out ?_
  rintro e w4 ⟨g4, hg4, rfl, hr4, hb4⟩
  have hb24 : Below w2.heap.size w2 w4 := HB3.out.trans (hb4.mono HB3.out.size)
  have HBZ : Hid (Below w.heap.size w w4) := HB2.out.trans (hb24.mono HB2.out.size)
  have hx4 := (HR2.out.below hb24 HR2.out.lt).whole
  have hy4 := hr4.whole
  simp only [List.length_cons, List.length_nil] at hx4 hy4
  have hsx := Bs.str (P := Try.prog) hx4 Try.underlying22 Try.underlying5 (dst := 9) Try.underlying9
  have hsy := Bs.str (P := Try.prog) hy4 Try.underlying22 Try.underlying5 (dst := 9) Try.underlying9
  have hE1 : (strOfNums [97, 98, 99, 65, 66, 67, 120]).toList = [97, 98, 99, 65, 66, 67, 120] := eq_of_beq HE1.out
  have hE2 : (strOfNums [5, 2, 255]).toList = [5, 2, 255] := eq_of_beq HE2.out
  clear hr4 hb4 hb24 hx4 hy4 hg4
  go_wp2_with fail
  go_ret
  exact ⟨rfl, HBZ.out⟩
end Go.Proofs.Ytlmmfbdndneecaa

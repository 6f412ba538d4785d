/-
  The program tells the document's examples. No conditions.
-/
import Derived.Test.YtneegijbbbebkaaGTopB
import Derived.Lib.SlBytesConst
namespace Go.Proofs.Ytneegijbbbebkaa
open Go.RowKit Go.Shelf
set_option linter.unusedVariables false
set_option maxRecDepth 100000

theorem Bs.litM (w : World) (l : List Int) (fr : Nat × Nat) (cs : Array Value) (n : Nat) (hcs : cs = (bcells l).toArray) (hn : n = l.length) : Bs (w.alloc (.cells cs 5 fr)) (.slice (some ⟨w.heap.size, 0, none⟩) n n) l := by
  subst hcs hn
  refine ⟨_, _, rfl, Nat.le_refl _, (fun h => by cases h), fun ad ha i hi => ?_⟩
  obtain rfl := Option.some.inj ha
  rw [addr_add, Nat.zero_add, World.cell?_alloc_mark]
  simp [bcells, hi]
theorem lit_is {w w' : World} {l : List Int} {g n : Nat} (h : w'.heap[g]? = some (.cells (l.map fun x => Value.int .i64 x).toArray 3 (0, 0))) (hn : l.length = n) (hb : n ≤ 10) (hx : ∀ x ∈ l, 0 ≤ x ∧ x ≤ 10) : Is w' (.slice (some ⟨g, 0, none⟩) n n) l := by
  have := RI.is (w := w') (g := g) (l := l) h (by omega) (fun x hx' => ⟨by have := hx x hx'; omega, by have := hx x hx'; omega⟩)
  rwa [hn] at this
theorem lv_facts : chN [5] [2] = 3 ∧ fitE [5] [2] = 0 ∧ cutE 5 1 [5] [2] [2] 1 = 0 ∧ cutR [97, 98, 99, 100, 101] [45] [5] [2] [2] 1 = [101, 45] ∧ rsE 4 1 [2, 2] [3, 1] 1 = 0 ∧ rsR [97, 98, 99, 100] [45] [2, 2] [3, 1] 1 = [97, 99, 45] := by decide +kernel
/-- What is told of bytes where there is no error. -/
theorem byP_yes {w w' : World} {R : List Int} {e : Ending} (h : ByP w 0 R e w') : ∃ g cap, e = .returned (.tuple #[.slice (some ⟨g, 0, none⟩) R.length cap, .int .i64 0]) ∧ Bs w' (.slice (some ⟨g, 0, none⟩) R.length cap) R ∧ Below w.heap.size w w' := by
  obtain ⟨v, rfl, hb, _, h2⟩ := h
  obtain ⟨g, cap, rfl, hc, hd, _⟩ := h2 rfl
  exact ⟨g, cap, rfl, hd.bs cap hc, hb⟩
set_option maxHeartbeats 8000000 in
theorem lives13_any (w : World) : Calls Try.prog 14 #[] w fun e w' => e = .returned (.bool true) ∧ Below w.heap.size w w' := by
  obtain ⟨L1, L2, L3, L4, L5, L6⟩ := lv_facts
  have HE1 : Hid (((strOfNums [101, 45]).toList == [101, 45]) = true) := by unfold Hid; kernel_rfl
  have HE2 : Hid (((strOfNums [97, 99, 45]).toList == [97, 99, 45]) = true) := by unfold Hid; kernel_rfl
  obtain ⟨w1, hw1, b1, s1, g1⟩ := alloc_facts w (.cells #[.int .i64 5] 3)
  obtain ⟨w2, hw2, b2, s2, g2⟩ := alloc_facts w1 (.cells #[.int .i64 2] 3)
  have HB2 : Hid (Below w.heap.size w w2) := b1.trans (b2.mono b1.size)
  have HCH : Hid (Calls Try.prog 9 #[.slice (some ⟨w.heap.size, 0, none⟩) 1 1, .slice (some ⟨w1.heap.size, 0, none⟩) 1 1] w2 fun e w' => e = .returned (.tuple #[.int .i64 3, .int .i64 0]) ∧ Below w2.heap.size w2 w') := by
    have := chunks_any [5] [2] _ _ w2 (lit_is (w := w) (l := [5]) (g := w.heap.size) (n := 1) ((b2.block _ (by omega)).trans g1) rfl (by omega) (by simp)) (lit_is (w := w) (l := [2]) (g := w1.heap.size) (n := 1) g2 rfl (by omega) (by simp))
    rwa [L1, L2] at this
  have HCUT : Hid (∀ W a n1 c1 b1 c2 c3 b2 c4, Bs W (.slice a 5 n1) [97, 98, 99, 100, 101] → Is W (.slice b1 1 c1) [5] → Is W (.slice b2 1 c2) [2] → Is W (.slice c3 1 c4) [2] → ∀ f fc, Bs W (.slice f 1 fc) [45] → Calls Try.prog 19 #[.slice a 5 n1, .int .i64 1, .slice b1 1 c1, .slice b2 1 c2, .slice c3 1 c4, .slice f 1 fc] W fun e w' => (∃ g cap, e = .returned (.tuple #[.slice (some ⟨g, 0, none⟩) 2 cap, .int .i64 0]) ∧ Bs w' (.slice (some ⟨g, 0, none⟩) 2 cap) [101, 45]) ∧ Below W.heap.size W w') := fun W a n1 c1 b1 c2 c3 b2 c4 h1 h2 h3 h4 f fc h5 => by
    have key := cut_any [97, 98, 99, 100, 101] [45] [5] [2] [2] _ _ _ _ _ 1 W h1 (by simp) h5 (by simp) h2 h3 h4 ⟨by omega, by omega⟩
    simp only [List.length_cons, List.length_nil] at key
    rw [show (0 + 1 + 1 + 1 + 1 + 1 : Nat) = 5 from rfl, show (0 + 1 : Nat) = 1 from rfl, L3, show (1 : Int).toNat = 1 from rfl, L4] at key
    refine Calls.mono key ?_
    intro e w' h
    obtain ⟨g, cap, rfl, hb, hbl⟩ := byP_yes h
    exact ⟨⟨g, cap, rfl, hb⟩, hbl⟩
  have HRES : Hid (∀ W a n1 b1 c1 b2 c2 f fc, Bs W (.slice a 4 n1) [97, 98, 99, 100] → Is W (.slice b1 2 c1) [2, 2] → Is W (.slice b2 2 c2) [3, 1] → Bs W (.slice f 1 fc) [45] → Calls Try.prog 25 #[.slice a 4 n1, .int .i64 1, .slice b1 2 c1, .slice b2 2 c2, .slice f 1 fc] W fun e w' => (∃ g cap, e = .returned (.tuple #[.slice (some ⟨g, 0, none⟩) 3 cap, .int .i64 0]) ∧ Bs w' (.slice (some ⟨g, 0, none⟩) 3 cap) [97, 99, 45]) ∧ Below W.heap.size W w') := fun W a n1 b1 c1 b2 c2 f fc h1 h2 h3 h4 => by
    have key := resize_any [97, 98, 99, 100] [45] [2, 2] [3, 1] _ _ _ _ 1 W h1 (by simp) h4 (by simp) h2 h3 ⟨by omega, by omega⟩
    simp only [List.length_cons, List.length_nil] at key
    rw [show (0 + 1 + 1 + 1 + 1 : Nat) = 4 from rfl, show (0 + 1 : Nat) = 1 from rfl, L5, show (1 : Int).toNat = 1 from rfl, L6] at key
    refine Calls.mono key ?_
    intro e w' h
    obtain ⟨g, cap, rfl, hb, hbl⟩ := byP_yes h
    exact ⟨⟨g, cap, rfl, hb⟩, hbl⟩
  clear L1 L2 L3 L4 L5 L6 b1 s1 g1 b2 s2 g2
  go_enter Try.func14, Try.ntmps14
  go_wp2_with fail
  refine Calls.mono HCH.out ?_
  rintro e w3 ⟨rfl, hb3⟩
  have HB3 : Hid (Below w.heap.size w w3) := HB2.out.trans (hb3.mono HB2.out.size)
  clear hb3
  obtain ⟨w4, hw4, b4, s4, g4⟩ := alloc_facts w3 (.cells #[.int .u8 97, .int .u8 98, .int .u8 99, .int .u8 100, .int .u8 101] 5 (5, 6))
  obtain ⟨w5, hw5, b5, s5, g5⟩ := alloc_facts w4 (.cells #[.int .i64 5] 3)
  obtain ⟨w6, hw6, b6, s6, g6⟩ := alloc_facts w5 (.cells #[.int .i64 2] 3)
  obtain ⟨w7, hw7, b7, s7, g7⟩ := alloc_facts w6 (.cells #[.int .i64 2] 3)
  obtain ⟨w8, hw8, b8, s8, g8⟩ := alloc_facts w7 (.cells #[.int .u8 45] 5 (1, 2))
  have hcv1 : (convert 37 37 (.slice (some ⟨w3.heap.size, 0, none⟩) 5 5)).run Try.prog (w3.alloc (.cells #[.int .u8 97, .int .u8 98, .int .u8 99, .int .u8 100, .int .u8 101] 5)) = .ok (.slice (some ⟨w3.heap.size, 0, none⟩) 5 5) w4 := by
    rw [← hw4]; exact Lib.run_convert_bytes_const (P := Try.prog) w3 37 5 _ 5 5 Try.underlying37 Try.underlying5
  have hcv2 : (convert 37 37 (.slice (some ⟨w7.heap.size, 0, none⟩) 1 1)).run Try.prog (w7.alloc (.cells #[.int .u8 45] 5)) = .ok (.slice (some ⟨w7.heap.size, 0, none⟩) 1 1) w8 := by
    rw [← hw8]; exact Lib.run_convert_bytes_const (P := Try.prog) w7 37 5 _ 1 1 Try.underlying37 Try.underlying5
  have B58 : Below w5.heap.size w5 w8 := (b6.trans (b7.mono b6.size)).trans (b8.mono (Nat.le_trans b6.size b7.size))
  have B48 : Below w4.heap.size w4 w8 := b5.trans (B58.mono b5.size)
  have HC8 : Hid _ := HCUT.out w8 (some ⟨w3.heap.size, 0, none⟩) 5 1 (some ⟨w4.heap.size, 0, none⟩) 1 (some ⟨w6.heap.size, 0, none⟩) (some ⟨w5.heap.size, 0, none⟩) 1 ((show Bs w4 (.slice (some ⟨w3.heap.size, 0, none⟩) 5 5) [97, 98, 99, 100, 101] by rw [← hw4]; exact Bs.litM w3 _ _ _ 5 rfl rfl).below B48)
    (lit_is (w := w) (l := [5]) (g := w4.heap.size) (n := 1) ((B58.block _ (by omega)).trans g5) rfl (by omega) (by simp)) (lit_is (w := w) (l := [2]) (g := w5.heap.size) (n := 1) ((b8.block _ (by omega)).trans ((b7.block _ (by omega)).trans g6)) rfl (by omega) (by simp)) (lit_is (w := w) (l := [2]) (g := w6.heap.size) (n := 1) ((b8.block _ (by omega)).trans g7) rfl (by omega) (by simp)) (some ⟨w7.heap.size, 0, none⟩) 1 (by rw [← hw8]; exact Bs.litM w7 [45] _ _ 1 rfl rfl)
  have HB8 : Hid (Below w.heap.size w w8) := by
    have h4 := HB3.out.trans (b4.mono HB3.out.size)
    exact h4.trans (B48.mono h4.size)
  clear b4 s4 g4 b5 s5 g5 b6 s6 g6 b7 s7 g7 b8 s8 g8 B58 B48 HCUT HCH
  go_wp2_with fail
  refine Calls.mono HC8.out ?_
  rintro e w9 ⟨⟨gx, cx, rfl, hx⟩, hb9⟩
  have HX9 : Hid (Bs w9 (.slice (some ⟨gx, 0, none⟩) 2 cx) [101, 45]) := hx
  have HB9 : Hid (Below w.heap.size w w9) := HB8.out.trans (hb9.mono HB8.out.size)
  clear hx hb9 hcv1 hcv2
  obtain ⟨v4, hv4, b4, s4, g4⟩ := alloc_facts w9 (.cells #[.int .u8 97, .int .u8 98, .int .u8 99, .int .u8 100] 5 (4, 5))
  obtain ⟨v5, hv5, b5, s5, g5⟩ := alloc_facts v4 (.cells #[.int .i64 2, .int .i64 2] 3)
  obtain ⟨v6, hv6, b6, s6, g6⟩ := alloc_facts v5 (.cells #[.int .i64 3, .int .i64 1] 3)
  obtain ⟨v8, hv8, b8, s8, g8⟩ := alloc_facts v6 (.cells #[.int .u8 45] 5 (1, 2))
  have hcv1 : (convert 37 37 (.slice (some ⟨w9.heap.size, 0, none⟩) 4 4)).run Try.prog (w9.alloc (.cells #[.int .u8 97, .int .u8 98, .int .u8 99, .int .u8 100] 5)) = .ok (.slice (some ⟨w9.heap.size, 0, none⟩) 4 4) v4 := by
    rw [← hv4]; exact Lib.run_convert_bytes_const (P := Try.prog) w9 37 5 _ 4 4 Try.underlying37 Try.underlying5
  have hcv2 : (convert 37 37 (.slice (some ⟨v6.heap.size, 0, none⟩) 1 1)).run Try.prog (v6.alloc (.cells #[.int .u8 45] 5)) = .ok (.slice (some ⟨v6.heap.size, 0, none⟩) 1 1) v8 := by
    rw [← hv8]; exact Lib.run_convert_bytes_const (P := Try.prog) v6 37 5 _ 1 1 Try.underlying37 Try.underlying5
  have B58 : Below v5.heap.size v5 v8 := b6.trans (b8.mono b6.size)
  have B48 : Below v4.heap.size v4 v8 := b5.trans (B58.mono b5.size)
  have HC9 : Hid _ := HRES.out v8 (some ⟨w9.heap.size, 0, none⟩) 4 (some ⟨v4.heap.size, 0, none⟩) 2 (some ⟨v5.heap.size, 0, none⟩) 2 (some ⟨v6.heap.size, 0, none⟩) 1 ((show Bs v4 (.slice (some ⟨w9.heap.size, 0, none⟩) 4 4) [97, 98, 99, 100] by rw [← hv4]; exact Bs.litM w9 _ _ _ 4 rfl rfl).below B48)
    (lit_is (w := w) (l := [2, 2]) (g := v4.heap.size) (n := 2) ((B58.block _ (by omega)).trans g5) rfl (by omega) (by simp)) (lit_is (w := w) (l := [3, 1]) (g := v5.heap.size) (n := 2) ((b8.block _ (by omega)).trans g6) rfl (by omega) (by simp)) (by rw [← hv8]; exact Bs.litM v6 [45] _ _ 1 rfl rfl)
  have HB10 : Hid (Below w9.heap.size w9 v8) := b4.trans (B48.mono b4.size)
  clear b4 s4 g4 b5 s5 g5 b6 s6 g6 b8 s8 g8 B58 B48 HRES HC8
  go_wp2_with fail
  refine Calls.mono HC9.out ?_
  rintro e w10 ⟨⟨gy, cy, rfl, hy⟩, hb10⟩
  have HB : Hid (Below w9.heap.size w9 w10) := HB10.out.trans (hb10.mono HB10.out.size)
  have hsx := Bs.str (P := Try.prog) (HX9.out.below HB.out) Try.underlying37 Try.underlying5 (dst := 9) Try.underlying9
  have hsy := Bs.str (P := Try.prog) hy Try.underlying37 Try.underlying5 (dst := 9) Try.underlying9
  have HBZ : Hid (Below w.heap.size w w10) := HB9.out.trans (HB.out.mono HB9.out.size)
  clear hy hb10 hcv1 hcv2 HC9
  have hE1 : (strOfNums [101, 45]).toList = [101, 45] := eq_of_beq HE1.out
  have hE2 : (strOfNums [97, 99, 45]).toList = [97, 99, 45] := eq_of_beq HE2.out
  go_wp2_with fail
  go_ret
  exact ⟨rfl, HBZ.out⟩
end Go.Proofs.Ytneegijbbbebkaa

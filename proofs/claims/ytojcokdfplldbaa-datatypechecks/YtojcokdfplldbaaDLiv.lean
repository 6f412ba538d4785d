/-
  The law's lives: the program tells the document's examples. No conditions.
-/
import Derived.Test.YtojcokdfplldbaaDLives
import Derived.Lib.SlBytesConst
namespace Go.Proofs.Ytojcokdfplldbaa
open Go.RowKit Go.Shelf
set_option linter.unusedVariables false
set_option maxRecDepth 100000

set_option maxHeartbeats 16000000 in
theorem lives9_any (w : World) : Calls Try.prog 10 #[] w fun e w' => e = .returned (.bool true) ∧ Below w.heap.size w w' := by
  obtain ⟨L1, L2, L3, L4, L5⟩ := lv9
  have HE1 : Hid (((strOfNums [1, 3, 0]).toList == [1, 3, 0]) = true) := by unfold Hid; kernel_rfl
  have HPA : Hid (∀ wd w', I64 wd → Calls Try.prog 29 #[.int .i64 wd] w' fun e w2 => (∃ g, e = .returned (.agg #[.int .i64 5, .int .i64 wd, .bool false, .slice (some ⟨g, 0, none⟩) 2 2, .slice none 0 0, .slice none 0 0, .slice none 0 0]) ∧ TR 2 w2 (pairV g) (pairT wd)) ∧ Below w'.heap.size w' w2) := fun wd w' h => pair_any wd w' h
  have HSI : Hid (∀ g w', TR 2 w' (pairV g) (pairT 12) → Calls Try.prog 12 #[.agg #[.int .i64 5, .int .i64 12, .bool false, .slice (some ⟨g, 0, none⟩) 2 2, .slice none 0 0, .slice none 0 0, .slice none 0 0]] w' fun e w2 => e = .returned (.tuple #[.int .i64 12, .int .i64 0]) ∧ Below w'.heap.size w' w2) := fun g w' h => by
    have := size_any 2 (pairT 12) (pairV g) w' h
    rw [L1, L2] at this
    exact this
  have HPL : Hid (∀ g w', TR 2 w' (pairV g) (pairT 12) → Calls Try.prog 16 #[.agg #[.int .i64 5, .int .i64 12, .bool false, .slice (some ⟨g, 0, none⟩) 2 2, .slice none 0 0, .slice none 0 0, .slice none 0 0]] w' fun e w2 => (∃ v, e = .returned (.tuple #[v, .int .i64 0]) ∧ OwnPl w2 w'.heap.size v [⟨0, 2, 2, false⟩, ⟨4, 3, 4, false⟩, ⟨8, 3, 4, false⟩]) ∧ Below w'.heap.size w' w2) := fun g w' h => by
    have := places_any 2 (pairT 12) (pairV g) w' h
    rw [L3, L2] at this
    exact this
  have HBY : Hid (∀ w', Calls Try.prog 24 #[.agg #[.int .i64 1, .int .i64 3, .bool false, .slice none 0 0, .slice none 0 0, .slice none 0 0, .slice none 0 0]] w' fun e w2 => (∃ v, e = .returned (.tuple #[v, .int .i64 0]) ∧ Own w2 w'.heap.size v [1, 3, 0]) ∧ Below w'.heap.size w' w2) := fun w' =>
    bytesN_any 0 int3T nilV w' (tr_num w' 1 3 ⟨by decide, by decide⟩ ⟨by decide, by decide⟩) (.inl rfl) ⟨by decide, by decide⟩ L5
  have HCK : Hid (∀ g w', TR 2 w' (pairV g) (pairT 8) → Calls Try.prog 14 #[.agg #[.int .i64 5, .int .i64 8, .bool false, .slice (some ⟨g, 0, none⟩) 2 2, .slice none 0 0, .slice none 0 0, .slice none 0 0]] w' fun e w2 => e = .returned (.int .i64 15) ∧ Below w'.heap.size w' w2) := fun g w' h => by
    have := check_any 2 (pairT 8) (pairV g) w' h
    rw [L4] at this
    exact this
  clear L1 L2 L3 L4 L5
  go_enter Try.func10, Try.ntmps10
  go_wp2_with fail
  refine Calls.mono (HPA.out 12 _ ⟨by decide, by decide⟩) ?_
  rintro e w1 ⟨⟨g1, rfl, ht1⟩, hb1⟩
  have HB1 : Hid (Below w.heap.size w w1) := hb1
  have HT1 : Hid (TR 2 w1 (pairV g1) (pairT 12)) := ht1
  clear hb1 ht1
  go_wp2_with fail
  refine Calls.mono (HSI.out _ _ HT1.out) ?_
  rintro e w2 ⟨rfl, hb2⟩
  have HB2 : Hid (Below w.heap.size w w2) := bel_next HB1.out hb2
  clear hb2
  go_wp2_with fail
  refine Calls.mono (HPA.out 12 _ ⟨by decide, by decide⟩) ?_
  rintro e w3 ⟨⟨g3, rfl, ht3⟩, hb3⟩
  have HB3 : Hid (Below w.heap.size w w3) := bel_next HB2.out hb3
  have HT3 : Hid (TR 2 w3 (pairV g3) (pairT 12)) := ht3
  clear hb3 ht3
  go_wp2_with fail
  refine Calls.mono (HPL.out _ _ HT3.out) ?_
  rintro e w4 ⟨⟨v4, rfl, ho4⟩, hb4⟩
  have HB4 : Hid (Below w.heap.size w w4) := bel_next HB3.out hb4
  obtain ⟨g4, c4, rfl, hc4, hk⟩ : ∃ g cap, v4 = .slice (some ⟨g, 0, none⟩) 3 cap ∧ 3 ≤ cap ∧ ∀ j u, (gc encP [(⟨0, 2, 2, false⟩ : Pl), ⟨4, 3, 4, false⟩, ⟨8, 3, 4, false⟩])[j]? = some u → w4.cell? ⟨g, j, none⟩ = some u := by
    rcases ownsRow_shape ho4 with ⟨_, h0⟩ | ⟨g, cap, e, _, _, h3, _, _, h4⟩
    · simp at h0
    · exact ⟨g, cap, e, h3, h4⟩
  have HK : Hid (∀ w', Below w4.heap.size w4 w' → w'.cell? ⟨g4, 8, none⟩ = some (.int .i64 8) ∧ w'.cell? ⟨g4, 9, none⟩ = some (.int .i64 3) ∧ w'.cell? ⟨g4, 10, none⟩ = some (.int .i64 4) ∧ w'.cell? ⟨g4, 11, none⟩ = some (.bool false)) := fun w' hb => by
    have K : ∀ {p : Addr} {x : Value}, w4.cell? p = some x → w'.cell? p = some x := fun h => (hb.cell (World.block_lt_of_cell? w4 _ h)).trans h
    exact ⟨K (hk 8 _ rfl), K (hk 9 _ rfl), K (hk 10 _ rfl), K (hk 11 _ rfl)⟩
  clear hb4 ho4 hk
  go_wp2_with fail
  refine Calls.mono (HBY.out _) ?_
  rintro e w5 ⟨⟨v5, rfl, ho5⟩, hb5⟩
  have HB5 : Hid (Below w.heap.size w w5) := bel_next HB4.out hb5
  obtain ⟨k8, k9, k10, k11⟩ := HK.out w5 hb5
  have hsx := Bs.str (P := Try.prog) ho5.bs Try.underlying55 Try.underlying5 (dst := 9) Try.underlying9
  have hE1 : (strOfNums [1, 3, 0]).toList = [1, 3, 0] := eq_of_beq HE1.out
  clear ho5 hb5
  go_wp2_with (first | (go_at_call 29; refine Calls.mono (HPA.out 8 _ ⟨by decide, by decide⟩) ?_; rintro e w6 ⟨⟨g6, rfl, ht6⟩, hb6⟩; have HB6 : Hid (Below w.heap.size w w6) := bel_next HB5.out hb6; have HT6 : Hid (TR 2 w6 (pairV g6) (pairT 8)) := ht6; clear hb6 ht6) | (go_at_call 14; refine Calls.mono (HCK.out _ _ HT6.out) ?_; rintro e w7 ⟨rfl, hb7⟩; have HB7 : Hid (Below w.heap.size w w7) := bel_next HB6.out hb7; clear hb7))
  go_ret
  exact ⟨rfl, HB7.out⟩
end Go.Proofs.Ytojcokdfplldbaa

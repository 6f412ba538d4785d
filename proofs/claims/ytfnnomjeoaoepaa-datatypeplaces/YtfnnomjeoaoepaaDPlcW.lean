/-
  The numbers within an element of any type are told as the document says: the law's walk. No conditions.
-/
import Derived.Test.YtfnnomjeoaoepaaRPlaces
import Derived.Test.YtfnnomjeoaoepaaDLiv
import Derived.Test.YtfnnomjeoaoepaaDLeft
namespace Go.Proofs.Ytfnnomjeoaoepaa
open Go.RowKit Go.Shelf
set_option linter.unusedVariables false
set_option maxRecDepth 100000

theorem pl_row {w : World} {B n : Nat} {T : TypeId} {v : Value} {L : List Pl} (h : w.ownsRow B T 4 v L.length (gc encP L)) : ∃ ao cap, v = .slice ao L.length cap ∧ L.length ≤ cap ∧ ∀ i q, L[i]? = some q → ∃ g, ao = some ⟨g, 0, none⟩ ∧ w.cell? ⟨g, i * 4, none⟩ = some (.int .i64 q.a) ∧ w.cell? ⟨g, i * 4 + 1, none⟩ = some (.int .i64 q.c) ∧ w.cell? ⟨g, i * 4 + 2, none⟩ = some (.int .i64 q.w) ∧ w.cell? ⟨g, i * 4 + 3, none⟩ = some (.bool q.b) := by
  rcases ownsRow_shape h with ⟨rfl, h0⟩ | ⟨g, cap, e, _, _, h3, _, _, h4⟩
  · exact ⟨none, 0, by rw [h0], by omega, fun i q hq => by have := (List.getElem?_eq_some_iff.1 hq).1; omega⟩
  · exact ⟨_, cap, e, h3, fun i q hq => ⟨g, rfl, h4 _ _ (gc_at encP_len L i q hq 0 _ rfl), h4 _ _ (gc_at encP_len L i q hq 1 _ rfl), h4 _ _ (gc_at encP_len L i q hq 2 _ rfl), h4 _ _ (gc_at encP_len L i q hq 3 _ rfl)⟩⟩
set_option maxHeartbeats 32000000 in
theorem datatypePlaces_walk (n : Nat) (T : Ty n) (V : TV) (w : World) (h : TR n w V T) :
    Calls Try.prog 4 #[tyV (hd T) V] w fun e w' => e = .returned (.bool true) ∧ Below w.heap.size w w' := by
  have HBG : Hid (∀ w', Below w.heap.size w w' → Calls Try.prog 7 #[.agg #[.int .i64 (hd T).1, .int .i64 (hd T).2.1, .bool (hd T).2.2, V.f, V.d, V.b, V.n]] w' fun e w2 => (∃ b, e = .returned (.bool b)) ∧ Below w'.heap.size w' w2) := fun w' hb => big_any n T V w' (h.below hb)
  have HRP : Hid (∀ w', Below w.heap.size w w' → Calls Try.prog 15 #[.agg #[.int .i64 (hd T).1, .int .i64 (hd T).2.1, .bool (hd T).2.2, V.f, V.d, V.b, V.n]] w' fun e w2 => (∃ v, e = .returned (.tuple #[v, .int .i64 (szE T)]) ∧ OwnRp w2 w'.heap.size v (plT T)) ∧ Below w'.heap.size w' w2) := fun w' hb => refPlaces_any n T V w' (h.below hb)
  have HPL : Hid (∀ w', Below w.heap.size w w' → Calls Try.prog 14 #[.agg #[.int .i64 (hd T).1, .int .i64 (hd T).2.1, .bool (hd T).2.2, V.f, V.d, V.b, V.n]] w' fun e w2 => (∃ v, e = .returned (.tuple #[v, .int .i64 (szE T)]) ∧ OwnPl w2 w'.heap.size v (plT T)) ∧ Below w'.heap.size w' w2) := fun w' hb => places_any n T V w' (h.below hb)
  have HLI : Hid (∀ w', Calls Try.prog 8 #[] w' fun e w2 => e = .returned (.bool true) ∧ Below w'.heap.size w' w2) := fun w' => lives9_any w'
  have HL256 : (plT T).length ≤ 256 := by
    rw [plT]
    split
    · simp
    · rename_i h0
      have h1 := ord_len (plF_ord n T 1 0 (Nat.le_refl _) h0).1
      have hr := sz_rng n T 1
      omega
  unfold tyV
  clear h
  generalize szE T = E at *
  generalize plT T = L at *
  generalize (hd T).1 = x1 at *
  generalize (hd T).2.1 = x2 at *
  generalize (hd T).2.2 = x3 at *
  obtain ⟨w1, hw1, hb1, hs1, hx1⟩ := bx_made w x1 x2 x3 V.f V.d V.b V.n
  have HB1 : Hid (Below w.heap.size w w1) := hb1
  have HX1 : Hid (∀ w', Below w1.heap.size w1 w' → Bx w' w.heap.size x1 x2 x3 V.f V.d V.b V.n) := fun w' hb => hx1.below hb
  obtain ⟨c0, c1, c2, c3, c4, c5, c6⟩ := hx1
  clear hb1 hs1
  go_enter Try.func4, Try.ntmps4
  go_wp2_with fail
  refine Calls.mono (HBG.out _ HB1.out) ?_
  rintro e w2 ⟨⟨b, rfl⟩, hb2⟩
  have HB2 : Hid (Below w1.heap.size w1 w2) := hb2
  clear c0 c1 c2 c3 c4 c5 c6
  obtain ⟨c0, c1, c2, c3, c4, c5, c6⟩ := HX1.out w2 hb2
  clear hb2
  cases b with
  | true =>
    go_wp2_with (go_at_call 8; refine Calls.mono (HLI.out _) ?_; rintro e w3 ⟨rfl, hb3⟩; have HB3 : Hid (Below w.heap.size w w3) := bel_next (bel_next HB1.out HB2.out) hb3; clear hb3)
    go_ret
    exact ⟨rfl, HB3.out⟩
  | false =>
    go_wp2_with fail
    refine Calls.mono (HPL.out _ (bel_next HB1.out HB2.out)) ?_
    rintro e w3 ⟨⟨v3, rfl, ho3⟩, hb3⟩
    have HB3 : Hid (Below w1.heap.size w1 w3) := bel_next HB2.out hb3
    have HO3 : Hid (OwnPl w3 w2.heap.size v3 L) := ho3
    clear c0 c1 c2 c3 c4 c5 c6 hb3 ho3
    obtain ⟨c0, c1, c2, c3, c4, c5, c6⟩ := HX1.out w3 HB3.out
    obtain ⟨ap, cp, rfl, hcp, hcl⟩ := pl_row (n := 0) HO3.out
    have HCP : Hid (∀ i q, L[i]? = some q → ∃ g, ap = some ⟨g, 0, none⟩ ∧ w3.cell? ⟨g, i * 4, none⟩ = some (.int .i64 q.a) ∧ w3.cell? ⟨g, i * 4 + 1, none⟩ = some (.int .i64 q.c) ∧ w3.cell? ⟨g, i * 4 + 2, none⟩ = some (.int .i64 q.w) ∧ w3.cell? ⟨g, i * 4 + 3, none⟩ = some (.bool q.b)) := hcl
    clear hcl
    go_wp2_with fail
    refine Calls.mono (HRP.out _ (bel_next HB1.out HB3.out)) ?_
    rintro e w4 ⟨⟨v4, rfl, ho4⟩, hb4⟩
    have HB34 : Hid (Below w3.heap.size w3 w4) := hb4
    have HB4 : Hid (Below w.heap.size w w4) := bel_next (bel_next HB1.out HB3.out) hb4
    obtain ⟨aq, cq, rfl, hcq, hcl⟩ := pl_row (n := 0) ho4
    have HCQ : Hid (∀ i q, L[i]? = some q → ∃ g, aq = some ⟨g, 0, none⟩ ∧ w4.cell? ⟨g, i * 4, none⟩ = some (.int .i64 q.a) ∧ w4.cell? ⟨g, i * 4 + 1, none⟩ = some (.int .i64 q.c) ∧ w4.cell? ⟨g, i * 4 + 2, none⟩ = some (.int .i64 q.w) ∧ w4.cell? ⟨g, i * 4 + 3, none⟩ = some (.bool q.b)) := hcl
    clear c0 c1 c2 c3 c4 c5 c6 hb4 ho4 hcl
    obtain ⟨N, hN⟩ : ∃ N, L.length = N := ⟨_, rfl⟩
    have HN : Hid (L.length = N) := hN
    rw [hN] at hcp hcq HL256 HO3 ⊢
    clear hN HO3
    go_wp2_with fail
    go_loopw [7] (fun y wr => ∃ i : Nat, i ≤ N ∧ y = .int .i64 (i : Int) ∧ Hid (Below w4.heap.size w4 wr)) (fun y _ => N - (intOf y).toNat)
    case atStart => exact ⟨0, Nat.zero_le _, by simp, Below.refl _ _⟩
    case round =>
      obtain ⟨i, hin, rfl, HB⟩ := hrel
      by_cases hlt : i < N
      · obtain ⟨q, hq⟩ : ∃ q, L[i]? = some q := ⟨L[i]'(by rw [HN.out]; exact hlt), List.getElem?_eq_getElem _⟩
        obtain ⟨gp, rfl, k0, k1, k2, k3⟩ := HCP.out i q hq
        obtain ⟨gq, rfl, j0, j1, j2, j3⟩ := HCQ.out i q hq
        have K3 : ∀ {p : Addr} {x : Value}, w3.cell? p = some x → wr.cell? p = some x := fun h => ((bel_next HB34.out HB.out).cell (World.block_lt_of_cell? w3 _ h)).trans h
        have K4 : ∀ {p : Addr} {x : Value}, w4.cell? p = some x → wr.cell? p = some x := fun h => (HB.out.cell (World.block_lt_of_cell? w4 _ h)).trans h
        replace k0 := K3 k0
        replace k1 := K3 k1
        replace k2 := K3 k2
        replace k3 := K3 k3
        replace j0 := K4 j0
        replace j1 := K4 j1
        replace j2 := K4 j2
        replace j3 := K4 j3
        clear K3 K4 hq
        generalize q.a = qa at *
        generalize q.c = qc at *
        generalize q.w = qw at *
        generalize q.b = qb at *
        go_wp2_with fail
        go_quiet (fail)
        go_wp2_with fail
        go_roundw
        case rel => exact ⟨i + 1, by omega, by go_num, below_dN HB.out _⟩
        case measure => simp [intOf]; omega
      · obtain rfl : i = N := by omega
        go_wp2_with (go_at_call 8; refine Calls.mono (HLI.out _) ?_; rintro e' w5 ⟨rfl, hb5⟩; have HB5 : Hid (Below w.heap.size w w5) := bel_next (bel_next HB4.out HB.out) hb5; clear hb5)
        go_ret
        exact ⟨rfl, HB5.out⟩
end Go.Proofs.Ytfnnomjeoaoepaa

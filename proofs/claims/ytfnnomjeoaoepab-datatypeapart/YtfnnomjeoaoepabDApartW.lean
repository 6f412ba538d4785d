/-
  No two numbers of an element have a byte in common: the law's walk. No conditions.
-/
import Derived.Test.YtfnnomjeoaoepabDLiv
import Derived.Test.YtfnnomjeoaoepabDLeft
namespace Go.Proofs.Ytfnnomjeoaoepab
open Go.RowKit Go.Shelf
set_option linter.unusedVariables false
set_option maxRecDepth 100000

theorem ownPl_open {w : World} {B : Nat} {v : Value} {L : List Pl} (h : OwnPl w B v L) (hL : L ≠ []) : ∃ g N cap, v = .slice (some ⟨g, 0, none⟩) N cap ∧ L.length = N ∧ N ≤ cap ∧ ∀ i q, L[i]? = some q → w.cell? ⟨g, i * 4, none⟩ = some (.int .i64 q.a) ∧ w.cell? ⟨g, i * 4 + 1, none⟩ = some (.int .i64 q.c) ∧ w.cell? ⟨g, i * 4 + 2, none⟩ = some (.int .i64 q.w) ∧ w.cell? ⟨g, i * 4 + 3, none⟩ = some (.bool q.b) := by
  rcases ownsRow_shape h with ⟨_, h0⟩ | ⟨g, cap, e, _, _, h3, _, _, h4⟩
  · exact absurd (List.length_eq_zero_iff.1 h0) hL
  · exact ⟨g, _, cap, e, rfl, h3, fun i q hq => ⟨h4 _ _ (gc_at encP_len L i q hq 0 _ rfl), h4 _ _ (gc_at encP_len L i q hq 1 _ rfl), h4 _ _ (gc_at encP_len L i q hq 2 _ rfl), h4 _ _ (gc_at encP_len L i q hq 3 _ rfl)⟩⟩
theorem ord_at {L : List Pl} {i : Nat} {q : Pl} {e S : Int} (hq : L[i]? = some q) (h : ord e (L.drop i) S) : e ≤ q.a ∧ 1 ≤ q.w ∧ q.w ≤ 8 ∧ ord (q.a + q.w) (L.drop (i + 1)) S := by
  obtain ⟨hi, rfl⟩ := List.getElem?_eq_some_iff.1 hq
  rw [List.drop_eq_getElem_cons hi] at h
  exact h
set_option maxHeartbeats 32000000 in
theorem datatypeApart_walk (n : Nat) (T : Ty n) (V : TV) (w : World) (h : TR n w V T) :
    Calls Try.prog 7 #[tyV (hd T) V] w fun e w' => e = .returned (.bool true) ∧ Below w.heap.size w w' := by
  have HBG : Hid (∀ w', Below w.heap.size w w' → Calls Try.prog 8 #[.agg #[.int .i64 (hd T).1, .int .i64 (hd T).2.1, .bool (hd T).2.2, V.f, V.d, V.b, V.n]] w' fun e w2 => (∃ b, e = .returned (.bool b)) ∧ Below w'.heap.size w' w2) := fun w' hb => big_any n T V w' (h.below hb)
  have HSI : Hid (∀ w', Below w.heap.size w w' → Calls Try.prog 18 #[.agg #[.int .i64 (hd T).1, .int .i64 (hd T).2.1, .bool (hd T).2.2, V.f, V.d, V.b, V.n]] w' fun e w2 => e = .returned (.tuple #[.int .i64 (szT T), .int .i64 (szE T)]) ∧ Below w'.heap.size w' w2) := fun w' hb => size_any n T V w' (h.below hb)
  have HPL : Hid (∀ w', Below w.heap.size w w' → Calls Try.prog 19 #[.agg #[.int .i64 (hd T).1, .int .i64 (hd T).2.1, .bool (hd T).2.2, V.f, V.d, V.b, V.n]] w' fun e w2 => (∃ v, e = .returned (.tuple #[v, .int .i64 (szE T)]) ∧ OwnPl w2 w'.heap.size v (plT T)) ∧ Below w'.heap.size w' w2) := fun w' hb => places_any n T V w' (h.below hb)
  have HLI : Hid (∀ w', Calls Try.prog 9 #[] w' fun e w2 => e = .returned (.bool true) ∧ Below w'.heap.size w' w2) := fun w' => lives9_any w'
  have HCS : Hid ((szE T = 15 ∧ szT T = 0 ∧ plT T = []) ∨ (szE T = 0 ∧ ord 0 (plT T) (szT T) ∧ plT T ≠ [] ∧ 0 ≤ szT T ∧ szT T ≤ 256)) := by
    rw [Hid, szE, szT, plT]
    by_cases h0 : sz n T 1 = 0
    · exact .inl ⟨if_pos h0, h0, if_pos h0⟩
    · have := plF_ord n T 1 0 (Nat.le_refl _) h0
      rw [Int.zero_add] at this
      have hr := sz_rng n T 1
      exact .inr ⟨if_neg h0, by rw [if_neg h0]; exact this.1, by rw [if_neg h0]; exact this.2, hr.1, hr.2⟩
  unfold tyV
  clear h
  generalize szT T = S at *
  generalize szE T = E at *
  generalize plT T = L at *
  generalize (hd T).1 = x1 at *
  generalize (hd T).2.1 = x2 at *
  generalize (hd T).2.2 = x3 at *
  obtain ⟨w1, hw1, hb1, hs1, hx1⟩ := bx_made w x1 x2 x3 V.f V.d V.b V.n
  have HB1 : Hid (Below w.heap.size w w1) := hb1
  have HX1 : Hid (∀ w', Below w1.heap.size w1 w' → Bx w' w.heap.size x1 x2 x3 V.f V.d V.b V.n) := fun w' hb => hx1.below hb
  obtain ⟨c0, c1, c2, c3, c4, c5, c6⟩ := hx1
  clear hb1 hs1
  go_enter Try.func7, Try.ntmps7
  go_wp2_with fail
  refine Calls.mono (HBG.out _ HB1.out) ?_
  rintro e w2 ⟨⟨b, rfl⟩, hb2⟩
  have HB2 : Hid (Below w1.heap.size w1 w2) := hb2
  clear c0 c1 c2 c3 c4 c5 c6
  obtain ⟨c0, c1, c2, c3, c4, c5, c6⟩ := HX1.out w2 hb2
  clear hb2
  cases b with
  | true =>
    go_wp2_with (go_at_call 9; refine Calls.mono (HLI.out _) ?_; rintro e w3 ⟨rfl, hb3⟩; have HB3 : Hid (Below w.heap.size w w3) := bel_next (bel_next HB1.out HB2.out) hb3; clear hb3)
    go_ret
    exact ⟨rfl, HB3.out⟩
  | false =>
    go_wp2_with fail
    refine Calls.mono (HSI.out _ (bel_next HB1.out HB2.out)) ?_
    rintro e w3 ⟨rfl, hb3⟩
    have HB3 : Hid (Below w1.heap.size w1 w3) := bel_next HB2.out hb3
    clear c0 c1 c2 c3 c4 c5 c6 hb3
    obtain ⟨c0, c1, c2, c3, c4, c5, c6⟩ := HX1.out w3 HB3.out
    go_wp2_with fail
    refine Calls.mono (HPL.out _ (bel_next HB1.out HB3.out)) ?_
    rintro e w4 ⟨⟨v4, rfl, ho4⟩, hb4⟩
    have HB4 : Hid (Below w.heap.size w w4) := bel_next (bel_next HB1.out HB3.out) hb4
    clear c0 c1 c2 c3 c4 c5 c6
    rcases HCS.out with ⟨he, hs, hl⟩ | ⟨he, hord, hne, hs1, hs2⟩
    · subst he hs hl
      obtain ⟨a4, c4, rfl⟩ : ∃ a c, v4 = .slice a 0 c := by
        rcases ownsRow_shape ho4 with ⟨e, _⟩ | ⟨g, cap, e, _⟩
        · exact ⟨_, _, e⟩
        · exact ⟨_, _, e⟩
      clear ho4 hb4 HCS
      go_wp2_with (go_at_call 9; refine Calls.mono (HLI.out _) ?_; rintro e w5 ⟨rfl, hb5⟩; have HB5 : Hid (Below w.heap.size w w5) := bel_next HB4.out hb5; clear hb5)
      go_ret
      exact ⟨rfl, HB5.out⟩
    · subst he
      obtain ⟨g, N, cap, rfl, hN, hNc, hcell⟩ := ownPl_open ho4 hne
      have HC : Hid (∀ i q, L[i]? = some q → w4.cell? ⟨g, i * 4, none⟩ = some (.int .i64 q.a) ∧ w4.cell? ⟨g, i * 4 + 1, none⟩ = some (.int .i64 q.c) ∧ w4.cell? ⟨g, i * 4 + 2, none⟩ = some (.int .i64 q.w) ∧ w4.cell? ⟨g, i * 4 + 3, none⟩ = some (.bool q.b)) := hcell
      have HN : Hid (L.length = N) := hN
      have HORD : Hid (ord 0 L S) := hord
      have hN0 : 0 < N := by
        have := List.length_pos_iff.2 hne
        omega
      have hN256 : N ≤ 256 := by have := ord_len hord; omega
      clear ho4 hb4 HCS hcell hord hne hN
      go_wp2_with fail
      go_loopw [7, 8] (fun x y wr => ∃ (i : Nat) (e : Int), i ≤ N ∧ 0 ≤ e ∧ x = .int .i64 e ∧ y = .int .i64 (i : Int) ∧ Hid (ord e (L.drop i) S) ∧ Hid (Below w4.heap.size w4 wr)) (fun _ y _ => N - (intOf y).toNat)
      case atStart => exact ⟨0, 0, Nat.zero_le _, by omega, rfl, by simp, by rw [List.drop_zero]; exact HORD.out, Below.refl _ _⟩
      case round =>
        obtain ⟨i, e, hin, he0, rfl, rfl, HO, HB⟩ := hrel
        by_cases hlt : i < N
        · obtain ⟨q, hq⟩ : ∃ q, L[i]? = some q := ⟨L[i]'(by rw [HN.out]; exact hlt), List.getElem?_eq_getElem _⟩
          obtain ⟨k0, k1, k2, k3⟩ := HC.out i q hq
          obtain ⟨o1, o2, o3, o4⟩ := ord_at hq HO.out
          have HNX : Hid (ord (q.a + q.w) (L.drop (i + 1)) S) := o4
          have ole := ord_le o4
          have K : ∀ {p : Addr} {x : Value}, w4.cell? p = some x → wr.cell? p = some x := fun h => (HB.out.cell (World.block_lt_of_cell? w4 _ h)).trans h
          replace k0 := K k0
          replace k2 := K k2
          clear K k1 k3 hq o4
          generalize q.a = qa at *
          generalize q.w = qw at *
          have t1 : ¬ qa < e := by omega
          have t2 : ¬ qw < 1 := by omega
          have t3 : ¬ 8 < qw := by omega
          have hwr : IntKind.i64.wrap (qa + qw) = qa + qw := wrap_i64_inD _ (by omega) (by omega)
          go_wp2_with fail
          go_quiet (fail)
          go_wp2_with fail
          go_roundw
          case rel => exact ⟨i + 1, qa + qw, by omega, by omega, rfl, by go_num, HNX.out, below_dN HB.out _⟩
          case measure => simp [intOf]; omega
        · obtain rfl : i = N := by omega
          have hfin : e ≤ S := by
            have := HO.out
            rw [List.drop_of_length_le (by rw [HN.out]; exact Nat.le_refl _)] at this
            exact this
          have hNi : 0 < (i : Int) := by omega
          go_wp2_with (go_at_call 9; refine Calls.mono (HLI.out _) ?_; rintro e' w5 ⟨rfl, hb5⟩; have HB5 : Hid (Below w.heap.size w w5) := bel_next (bel_next HB4.out HB.out) hb5; clear hb5)
          go_ret
          exact ⟨rfl, HB5.out⟩
end Go.Proofs.Ytfnnomjeoaoepab

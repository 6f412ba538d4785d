/-
  The law's left and big: some number, some answer; and its own. Conditions: what is handed in lies in memory as a type.
-/
import Derived.Test.YtojcokdfplldbaaDTy
import Derived.Test.YtojcokdfplldbaaTail
namespace Go.Proofs.Ytojcokdfplldbaa
open Go.RowKit
set_option linter.unusedVariables false
set_option maxRecDepth 100000

def LfP (w : World) (e : Ending) (w' : World) : Prop := (∃ z, e = .returned (.int .i64 z)) ∧ Below w.heap.size w w'
set_option maxHeartbeats 16000000 in
theorem left_any : ∀ (n : Nat) (T : Ty n) (V : TV) (z : Int) (w : World), TR n w V T → Calls Try.prog 28 #[tyV (hd T) V, .int .i64 z] w (LfP w)
  | 0, T, V, z, w, h => h.elim
  | n + 1, T, V, z, w, h => by
    have ih := left_any n
    have H : Hid (TRN (TR n) hd w V T) := h
    obtain ⟨fa, fn, fc, da, dn, dc, ba, bn, bc, na, nn, nc, rfl, ⟨f1, f2, f3⟩, ⟨d1, d2, d3⟩, ⟨b1, b2, b3⟩, ⟨n1, n2, n3⟩⟩ := H.out.open
    have IH : Hid _ := ih
    obtain ⟨c, hc⟩ : ∃ c, T.c = c := ⟨_, rfl⟩
    obtain ⟨wd, hw⟩ : ∃ c, T.w = c := ⟨_, rfl⟩
    obtain ⟨b, hb⟩ : ∃ c, T.b = c := ⟨_, rfl⟩
    show Calls _ _ #[.agg #[.int .i64 T.c, .int .i64 T.w, .bool T.b, _, _, _, _], _] _ _
    rw [hc, hw, hb]
    clear h hc hw hb ih f1 d1 b1 n1 f2 d2 b2 n2
    obtain ⟨w1, hw1, hb1, hs1, hx1⟩ := bx_made w c wd b (.slice fa fn fc) (.slice da dn dc) (.slice ba bn bc) (.slice na nn nc)
    have HB1 : Hid (Below w.heap.size w w1) := hb1
    have HX1 : Hid (Bx w1 w.heap.size c wd b (.slice fa fn fc) (.slice da dn dc) (.slice ba bn bc) (.slice na nn nc)) := hx1
    obtain ⟨c0, c1, c2, c3, c4, c5, c6⟩ := hx1
    clear hb1 hs1
    go_enter Try.func28, Try.ntmps28
    go_wp2_with fail
    clear c0 c1 c2 c3 c4 c5 c6
    go_loopw [1, 5] (fun q y wr => ∃ (z : Int) (i : Nat), i ≤ nn ∧ q = .int .i64 z ∧ y = .int .i64 i ∧ Hid (Below w1.heap.size w1 wr)) (fun _ y _ => nn - (intOf y).toNat)
    case atStart => exact ⟨_, 0, Nat.zero_le _, rfl, rfl, Below.refl _ _⟩
    case round =>
      obtain ⟨z, i, hi, rfl, rfl, HB⟩ := hrel
      obtain ⟨c0, c1, c2, c3, c4, c5, c6⟩ := HX1.out.below HB.out
      by_cases hlt : i < nn
      · obtain ⟨g, o, q, rfl, _, _, k1, k2⟩ := H.out.ns.at hlt
        have HBB : Hid (Below w.heap.size w wr) := HB1.out.trans (HB.out.mono HB1.out.size)
        have d1 := (HBB.out.cell (World.block_lt_of_cell? w _ k1)).trans k1
        clear k1 k2
        go_wp2_with fail
        go_roundw
        case rel => exact ⟨_, i + 1, hlt, rfl, by go_num, HB.out⟩
        case measure => simp [intOf]; omega
      · clear c0 c1 c2 c4 c5
        go_wp2_with fail
        go_loopw [1, 6] (fun q y wr => ∃ (z : Int) (i : Nat), i ≤ fn ∧ q = .int .i64 z ∧ y = .int .i64 i ∧ Hid (Below w1.heap.size w1 wr)) (fun _ y _ => fn - (intOf y).toNat)
        case atStart => exact ⟨_, 0, Nat.zero_le _, rfl, rfl, HB.out⟩
        case round =>
          clear c3 c6
          obtain ⟨z2, j, hj, rfl, rfl, HB2⟩ := hrel
          obtain ⟨c0, c1, c2, c3, c4, c5, c6⟩ := HX1.out.below HB2.out
          have HBB : Hid (Below w.heap.size w wr) := HB1.out.trans (HB2.out.mono HB1.out.size)
          by_cases hgo : j < fn ∧ 0 < z2
          · obtain ⟨hlt2, hz⟩ := hgo
            clear c0 c1 c2 c4 c5 c6
            obtain ⟨g, o, U, q, rfl, _, _, hr, k0, k1, k2, k3, k4, k5, k6, k7, k8⟩ := H.out.fs.at hlt2
            have K : ∀ {p : Addr} {x : Value}, w.cell? p = some x → wr.cell? p = some x := fun h => (HBB.out.cell (World.block_lt_of_cell? w _ h)).trans h
            replace k0 := K k0
            replace k2 := K k2
            replace k3 := K k3
            replace k4 := K k4
            replace k5 := K k5
            replace k6 := K k6
            replace k7 := K k7
            replace k8 := K k8
            clear K k1
            have HR : Hid (∀ z w', Below w.heap.size w w' → Calls Try.prog 28 #[.agg #[.int .i64 (hd q.2.2).1, .int .i64 (hd q.2.2).2.1, .bool (hd q.2.2).2.2, U.f, U.d, U.b, U.n], .int .i64 z] w' (LfP w')) := fun z w' hb => IH.out q.2.2 U z w' (hr.below hb)
            clear hr
            generalize (hd q.2.2).1 = x1 at *
            generalize (hd q.2.2).2.1 = x2 at *
            generalize (hd q.2.2).2.2 = x3 at *
            go_upto_region 9 with fail
            refine wp_region_quiet_tail (C := fun w' => ∃ n, w' = wr.drewN n) 17 (by kernel_rfl) (by kernel_rfl) ⟨1, rfl⟩ ?_
            simp only [List.take_succ_cons, List.take_zero, List.drop_succ_cons, List.drop_zero]
            repeat (go_big_quiet_step (fail))
            refine wpQuiet_nil ?_
            intro w4 hw4
            have HB4 : Hid (Below w1.heap.size w1 w4) := by obtain ⟨n2, hw4⟩ := hw4; rw [hw4]; exact below_dN HB2.out n2
            have HBB4 : Hid (Below w.heap.size w w4) := HB1.out.trans (HB4.out.mono HB1.out.size)
            clear hw4
            go_wp2_with (go_at_call 28; refine (HR.out _ _ HBB4.out).mono ?_; rintro e w5 ⟨⟨z5, rfl⟩, hb5⟩; have HB5 : Hid (Below w1.heap.size w1 w5) := HB4.out.trans (hb5.mono HB4.out.size); clear hb5)
            go_roundw
            case rel => exact ⟨_, j + 1, hlt2, rfl, by go_num, HB5.out⟩
            case measure => simp [intOf]; omega
          · have hge : ¬ j < fn ∨ (j < fn ∧ ¬ 0 < z2) := by omega
            clear c0 c1 c2 c4 c6 hgo
            rcases hge with hg1 | ⟨hg1, hg2⟩
            all_goals
              go_wp2_with fail
              clear c3 c5
              go_loopw [1, 7] (fun q y wq => ∃ (z : Int) (i : Nat), i ≤ bn ∧ q = .int .i64 z ∧ y = .int .i64 i ∧ Hid (Below w1.heap.size w1 wq)) (fun _ y _ => bn - (intOf y).toNat)
              case atStart => exact ⟨_, 0, Nat.zero_le _, rfl, rfl, HB2.out⟩
              case round =>
                obtain ⟨z3, m, hm, rfl, rfl, HB3⟩ := hrel
                obtain ⟨c0, c1, c2, c3, c4, c5, c6⟩ := HX1.out.below HB3.out
                have HBB3 : Hid (Below w.heap.size w wr) := HB1.out.trans (HB3.out.mono HB1.out.size)
                clear c0 c1 c2 c3 c4 c6
                by_cases hl3 : m < bn
                · by_cases hz3 : 0 < z3
                  · obtain ⟨g, o, U, q, rfl, _, hr, k0, k1, k2, k3, k4, k5, k6⟩ := H.out.bs.at hl3
                    have K : ∀ {p : Addr} {x : Value}, w.cell? p = some x → wr.cell? p = some x := fun h => (HBB3.out.cell (World.block_lt_of_cell? w _ h)).trans h
                    replace k0 := K k0
                    replace k1 := K k1
                    replace k2 := K k2
                    replace k3 := K k3
                    replace k4 := K k4
                    replace k5 := K k5
                    replace k6 := K k6
                    clear K
                    have HR : Hid (∀ z w', Below w.heap.size w w' → Calls Try.prog 28 #[.agg #[.int .i64 (hd q).1, .int .i64 (hd q).2.1, .bool (hd q).2.2, U.f, U.d, U.b, U.n], .int .i64 z] w' (LfP w')) := fun z w' hb => IH.out q U z w' (hr.below hb)
                    clear hr
                    generalize (hd q).1 = x1 at *
                    generalize (hd q).2.1 = x2 at *
                    generalize (hd q).2.2 = x3 at *
                    go_wp2_with (go_at_call 28; refine (HR.out _ _ HBB3.out).mono ?_; rintro e w5 ⟨⟨z5, rfl⟩, hb5⟩; have HB5 : Hid (Below w1.heap.size w1 w5) := HB3.out.trans (hb5.mono HB3.out.size); clear hb5)
                    go_roundw
                    case rel => exact ⟨_, m + 1, hl3, rfl, by go_num, HB5.out⟩
                    case measure => simp [intOf]; omega
                  · go_wp2_with fail
                    go_ret
                    exact ⟨⟨_, rfl⟩, HBB3.out⟩
                · go_wp2_with fail
                  go_ret
                  exact ⟨⟨_, rfl⟩, HBB3.out⟩
theorem big_any (n : Nat) (T : Ty n) (V : TV) (w : World) (h : TR n w V T) : Calls Try.prog 9 #[tyV (hd T) V] w fun e w' => (∃ b, e = .returned (.bool b)) ∧ Below w.heap.size w w' := by
  have HL : Hid (∀ z w', Below w.heap.size w w' → Calls Try.prog 28 #[.agg #[.int .i64 (hd T).1, .int .i64 (hd T).2.1, .bool (hd T).2.2, V.f, V.d, V.b, V.n], .int .i64 z] w' (LfP w')) := fun z w' hb => left_any n T V z w' (h.below hb)
  clear h
  unfold tyV
  generalize (hd T).1 = x1 at *
  generalize (hd T).2.1 = x2 at *
  generalize (hd T).2.2 = x3 at *
  obtain ⟨w1, hw1, hb1, hs1, c0, c1, c2, c3, c4, c5, c6⟩ := bx_made w x1 x2 x3 V.f V.d V.b V.n
  have HB1 : Hid (Below w.heap.size w w1) := hb1
  clear hb1 hs1
  go_enter Try.func9, Try.ntmps9
  go_wp2_with (go_at_call 28; refine (HL.out _ _ HB1.out).mono ?_; rintro e w5 ⟨⟨z5, rfl⟩, hb5⟩; have HB5 : Hid (Below w.heap.size w w5) := HB1.out.trans (hb5.mono HB1.out.size); clear hb5)
  go_ret
  exact ⟨⟨_, rfl⟩, HB5.out⟩
end Go.Proofs.Ytojcokdfplldbaa

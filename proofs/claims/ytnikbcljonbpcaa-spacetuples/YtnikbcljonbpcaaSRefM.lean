/-
  The document's 'may': may the selection's numbers be? Conditions: the rank is at most 4.
-/
import Derived.Test.YtnikbcljonbpcaaSRef
namespace Go.Proofs.Ytnikbcljonbpcaa
open Go.RowKit Go.Shelf
set_option linter.unusedVariables false
set_option maxRecDepth 100000

/-- May the selection's numbers be, at a rank? -/
def mayS (n : Nat) (s : Sel) : Bool := if s.kind = 1 then true else if s.kind = 2 then s.pts.all (okB n) else if s.kind = 3 then (okB n s.st && okB n s.sd && okB n s.ct && okB n s.bl) else false
set_option maxHeartbeats 8000000 in
theorem refMay_any (s : Sel) (V : SV) (rank : Nat) (w : World) (hS : Ss w V s) (hr : rank ≤ 4) : Calls Try.prog 27 #[.int .i64 (rank : Int), selV s.kind V] w fun e w' => e = .returned (.bool (mayS rank s)) ∧ Below w.heap.size w w' := by
  have HS : Hid (Ss w V s) := hS
  have HP : Hid (Iss w V.p s.pts) := hS.p
  obtain ⟨a0, n0, c0, a1, n1, c1, a2, n2, c2, a3, n3, c3, a4, n4, c4, e, hV⟩ := selV_open hS
  rw [hV] at HP
  have HPO : Hid (Iss w (.slice a0 n0 c0) s.pts) := HP.out
  obtain ⟨_, _, _, e9, hl, hc, hb⟩ := HPO.out.open
  injection e9 with e1 e2 e3
  subst e1 e2 e3
  have HL : Hid (s.pts.length = n0) := hl
  obtain ⟨W1, hW1, hb1, hz1, b0, b1, b2, b3, b4, b5⟩ := box_sel w s.kind (.slice a0 n0 c0) (.slice a1 n1 c1) (.slice a2 n2 c2) (.slice a3 n3 c3) (.slice a4 n4 c4)
  have HB1 : Hid (Below w.heap.size w W1) := hb1
  obtain ⟨r, HR⟩ : ∃ r, Hid (mayS rank s = r) := ⟨_, rfl⟩
  have hrI : (rank : Int) ≤ 4 := by omega
  have HR1 : Hid (∀ w2, Below W1.heap.size W1 w2 → Calls Try.prog 37 #[.slice a1 n1 c1, .int .i64 (rank : Int)] w2 fun e w' => e = .returned (.bool (okB rank s.st)) ∧ Below w2.heap.size w2 w') := fun w2 hb2 => by
    have := (hS.below (hb1.trans (hb2.mono hb1.size))).a
    rw [hV] at this
    exact refRight_any _ _ rank w2 this hr
  have HR2 : Hid (∀ w2, Below W1.heap.size W1 w2 → Calls Try.prog 37 #[.slice a2 n2 c2, .int .i64 (rank : Int)] w2 fun e w' => e = .returned (.bool (okB rank s.sd)) ∧ Below w2.heap.size w2 w') := fun w2 hb2 => by
    have := (hS.below (hb1.trans (hb2.mono hb1.size))).b
    rw [hV] at this
    exact refRight_any _ _ rank w2 this hr
  have HR3 : Hid (∀ w2, Below W1.heap.size W1 w2 → Calls Try.prog 37 #[.slice a3 n3 c3, .int .i64 (rank : Int)] w2 fun e w' => e = .returned (.bool (okB rank s.ct)) ∧ Below w2.heap.size w2 w') := fun w2 hb2 => by
    have := (hS.below (hb1.trans (hb2.mono hb1.size))).c
    rw [hV] at this
    exact refRight_any _ _ rank w2 this hr
  have HR4 : Hid (∀ w2, Below W1.heap.size W1 w2 → Calls Try.prog 37 #[.slice a4 n4 c4, .int .i64 (rank : Int)] w2 fun e w' => e = .returned (.bool (okB rank s.bl)) ∧ Below w2.heap.size w2 w') := fun w2 hb2 => by
    have := (hS.below (hb1.trans (hb2.mono hb1.size))).d
    rw [hV] at this
    exact refRight_any _ _ rank w2 this hr
  rw [e, HR.out]
  clear hS HP hb1 e hV hl
  obtain ⟨k, HK⟩ : ∃ k, Hid (s.kind = k) := ⟨_, rfl⟩
  rw [HK.out] at b0 hW1 ⊢
  by_cases k1 : k = 1
  · subst k1
    have hr1 : r = true := by rw [← HR.out, mayS, if_pos HK.out]
    subst hr1
    go_enter Try.func27, Try.ntmps27
    go_wp2_with fail
    go_ret
    exact ⟨rfl, HB1.out⟩
  by_cases k2 : k = 2
  · subst k2
    have HRR : Hid (s.pts.all (okB rank) = r) := by rw [Hid, ← HR.out, mayS, if_neg (by rw [HK.out]; omega), if_pos HK.out]
    go_enter Try.func27, Try.ntmps27
    go_wp2_with fail
    go_loopw [5] (fun x wr => ∃ i : Nat, i ≤ n0 ∧ x = .int .i64 (i : Int) ∧ Hid (∀ (j : Nat) t, j < i → s.pts[j]? = some t → okB rank t = true) ∧ Hid (Below W1.heap.size W1 wr)) (fun x _ => n0 - (intOf x).toNat)
    case atStart => exact ⟨0, Nat.zero_le _, rfl, fun j t h => by omega, Below.refl _ _⟩
    case round =>
      obtain ⟨i, hin, rfl, HA, HB⟩ := hrel
      rename World => w6
      have q1 := (HB.out.cell (World.block_lt_of_cell? W1 _ b1)).trans b1
      by_cases hlt : i < n0
      · obtain ⟨g, o, l, u, k, c, rfl, hl, _, _, hk, hcell, his⟩ := ((HPO.out.below HB1.out).below HB.out).at hlt
        have hili : (i : Int) < (n0 : Int) := by omega
        have HLI : Hid (s.pts[i]? = some l) := hl
        have HIS : Hid (Is w6 (.slice u k c) l) := his
        obtain ⟨ok, HOK⟩ : ∃ ok, Hid (okB rank l = ok) := ⟨_, rfl⟩
        have HRT : Hid (Calls Try.prog 37 #[.slice u k c, .int .i64 (rank : Int)] w6 fun e w' => e = .returned (.bool ok) ∧ Below w6.heap.size w6 w') := by
          have := refRight_any l _ rank w6 his hr
          rwa [HOK.out] at this
        clear hl his
        cases ok
        · have hr0 : r = false := by
            rw [← HRR.out, List.all_eq_false]
            exact ⟨l, List.mem_of_getElem? HLI.out, by rw [HOK.out]; simp⟩
          subst hr0
          go_wp2_with (go_at_call 37; refine HRT.out.mono ?_; rintro e w7 ⟨rfl, hb7⟩; have HB7 : Hid (Below w6.heap.size w6 w7) := hb7; clear hb7)
          go_ret
          exact ⟨rfl, HB1.out.trans ((HB.out.trans (HB7.out.mono HB.out.size)).mono HB1.out.size)⟩
        · go_wp2_with (go_at_call 37; refine HRT.out.mono ?_; rintro e w7 ⟨rfl, hb7⟩; have HB7 : Hid (Below w6.heap.size w6 w7) := hb7; clear hb7)
          go_roundw
          case rel =>
            refine ⟨i + 1, by omega, by simp, fun j t hj ht => ?_, HB.out.trans (HB7.out.mono HB.out.size)⟩
            by_cases hji : j = i
            · subst hji
              rw [HLI.out] at ht
              rw [← Option.some.inj ht]
              exact HOK.out
            · exact HA.out j t (by omega) ht
          case measure => simp [intOf]; omega
      · have hr0 : r = true := by
          rw [← HRR.out, List.all_eq_true]
          intro t ht
          obtain ⟨j, hj⟩ := List.getElem?_of_mem ht
          have := (List.getElem?_eq_some_iff.1 hj).1
          have := HL.out
          exact HA.out j t (by omega) hj
        subst hr0
        go_wp2_with fail
        go_ret
        exact ⟨rfl, HB1.out.trans (HB.out.mono HB1.out.size)⟩
  by_cases k3 : k = 3
  · subst k3
    have HRR : Hid ((okB rank s.st && okB rank s.sd && okB rank s.ct && okB rank s.bl) = r) := by rw [Hid, ← HR.out, mayS, if_neg (by rw [HK.out]; omega), if_neg (by rw [HK.out]; omega), if_pos HK.out]
    obtain ⟨o1, HO1⟩ : ∃ o, Hid (okB rank s.st = o) := ⟨_, rfl⟩
    obtain ⟨o2, HO2⟩ : ∃ o, Hid (okB rank s.sd = o) := ⟨_, rfl⟩
    obtain ⟨o3, HO3⟩ : ∃ o, Hid (okB rank s.ct = o) := ⟨_, rfl⟩
    obtain ⟨o4, HO4⟩ : ∃ o, Hid (okB rank s.bl = o) := ⟨_, rfl⟩
    rw [HO1.out, HO2.out, HO3.out, HO4.out] at HRR
    rw [HO1.out] at HR1
    rw [HO2.out] at HR2
    rw [HO3.out] at HR3
    rw [HO4.out] at HR4
    have hrr := HRR.out
    go_enter Try.func27, Try.ntmps27
    go_wp2_with (first
      | (have hg := HB4; clear hg; go_at_call 37; refine (HR4.out _ HB4.out).mono ?_; rintro e w5 ⟨rfl, hb5⟩; have HB5 : Hid (Below W1.heap.size W1 w5) := HB4.out.trans (hb5.mono HB4.out.size); clear hb5)
      | (have hg := HB3; clear hg; go_at_call 37; refine (HR3.out _ HB3.out).mono ?_; rintro e w4 ⟨rfl, hb4⟩; have HB4 : Hid (Below W1.heap.size W1 w4) := HB3.out.trans (hb4.mono HB3.out.size); have g5 := (HB4.out.cell (World.block_lt_of_cell? W1 _ b5)).trans b5; clear hb4; cases o3)
      | (have hg := HB2; clear hg; go_at_call 37; refine (HR2.out _ HB2.out).mono ?_; rintro e w3 ⟨rfl, hb3⟩; have HB3 : Hid (Below W1.heap.size W1 w3) := HB2.out.trans (hb3.mono HB2.out.size); have g4 := (HB3.out.cell (World.block_lt_of_cell? W1 _ b4)).trans b4; have g5 := (HB3.out.cell (World.block_lt_of_cell? W1 _ b5)).trans b5; clear hb3; cases o2)
      | (go_at_call 37; refine (HR1.out _ (Below.refl _ _)).mono ?_; rintro e w2 ⟨rfl, hb2⟩; have HB2 : Hid (Below W1.heap.size W1 w2) := hb2; have g3 := (HB2.out.cell (World.block_lt_of_cell? W1 _ b3)).trans b3; have g4 := (HB2.out.cell (World.block_lt_of_cell? W1 _ b4)).trans b4; have g5 := (HB2.out.cell (World.block_lt_of_cell? W1 _ b5)).trans b5; clear hb2; cases o1))
    all_goals
      go_ret
      first
        | exact ⟨by rw [← hrr]; simp, HB1.out.trans (HB5.out.mono HB1.out.size)⟩
        | exact ⟨by rw [← hrr]; simp, HB1.out.trans (HB4.out.mono HB1.out.size)⟩
        | exact ⟨by rw [← hrr]; simp, HB1.out.trans (HB3.out.mono HB1.out.size)⟩
        | exact ⟨by rw [← hrr]; simp, HB1.out.trans (HB2.out.mono HB1.out.size)⟩
  · have hr1 : r = false := by rw [← HR.out, mayS, if_neg (by rw [HK.out]; exact k1), if_neg (by rw [HK.out]; exact k2), if_neg (by rw [HK.out]; exact k3)]
    subst hr1
    have e1 : decide (k = 1) = false := decide_eq_false k1
    have e2 : decide (k = 2) = false := decide_eq_false k2
    have e3 : decide (k = 3) = false := decide_eq_false k3
    have f1 : (k == 1) = false := by simpa using k1
    have f2 : (k == 2) = false := by simpa using k2
    have f3 : (k == 3) = false := by simpa using k3
    go_enter Try.func27, Try.ntmps27
    go_wp2_with fail
    go_ret
    exact ⟨rfl, HB1.out⟩
end Go.Proofs.Ytnikbcljonbpcaa

/-
  The walks of the document's Total, common and Meets. Conditions: the numbers are ints, the list's length is one that memory bears.
-/
import Derived.Test.YtdalkjenjnalbaaDoorXTotal
import Derived.Test.YtdalkjenjnalbaaDoorXRefGood
namespace Go.Proofs.YtdalkjenjnalbaaDoor
open Go.RowKit Go.Sort Go.Shelf Go.Lib
set_option linter.unusedVariables false
set_option maxRecDepth 100000

theorem common_any (a b c d : Int) (w : World) (h1 : mayB (a, b) = true) (h2 : mayB (c, d) = true) :
    Calls Tryd.prog 56 #[.agg #[.int .i64 a, .int .i64 b], .agg #[.int .i64 c, .int .i64 d]] w fun e w' => e = .returned (.bool (comB (a, b) (c, d))) ∧ ∃ q os', w' = grow (w.drewN q) os' := by
  have m1 := mayB_iff.1 h1
  have m2 := mayB_iff.1 h2
  dsimp only at m1 m2
  obtain ⟨p1, p2, p3⟩ := m1
  obtain ⟨q1, q2, q3⟩ := m2
  clear h1 h2
  have HC : Hid (comB (a, b) (c, d) = decide (max a c < min (a + b) (c + d))) := rfl
  have HA : Hid (∀ o o', (w.alloc o).alloc o' = grow (w.drewN 0) #[o, o']) := fun o o' => by rw [alloc_eq_grow, alloc_eq_grow, grow_grow]; rfl
  go_enter Tryd.func56, Tryd.ntmps56
  go_wp2
  go_ret
  exact ⟨ret_boolX (by rw [HC.out]), 0, _, HA.out _ _⟩

set_option maxHeartbeats 16000000 in
theorem refMeets_any (v : Value) (l : List Ext) (w : World) (hl : Xs w v l) (hE : EWs l) (hn : l.length ≤ 8796093022208) :
    Calls Tryd.prog 36 #[v] w fun e w' => e = .returned (.bool (meetsB l)) ∧ Below w.heap.size w w' := by
  obtain ⟨ao, cap, rfl, hcap, hcell⟩ := hl.opened
  have HC : Hid (∀ i, i < l.length → ∃ b off, ao = some ⟨b, off, none⟩ ∧ w.cell? ⟨b, off + i * 2, none⟩ = some (.int .i64 (l.getD i (0, 0)).1) ∧ w.cell? ⟨b, off + i * 2 + 1, none⟩ = some (.int .i64 (l.getD i (0, 0)).2) ∧ b < w.heap.size) := hcell
  have HE : Hid (EWs l) := hE
  clear hl hcell hE
  obtain ⟨N, HN⟩ : ∃ N, Hid (l.length = N) := ⟨_, rfl⟩
  rw [HN.out] at hcap hn ⊢
  go_enter Tryd.func36, Tryd.ntmps36
  go_wp2
  go_loopw [3] (fun i wr => ∃ p : Nat, p ≤ N ∧ i = .int .i64 (p : Int) ∧ Hid (∀ i', i' < p → ∀ k', k' < i' → bothB (l.getD i' (0, 0)) (l.getD k' (0, 0)) = false) ∧ Hid (Below w.heap.size w wr)) (fun i _ => N - (intOf i).toNat)
  case atStart => exact ⟨0, Nat.zero_le _, rfl, fun i' h => by omega, Below.refl _ _⟩
  case round =>
    obtain ⟨p, hp, rfl, HP, HB⟩ := hrel
    by_cases hlt : p < N
    · have hpl : p < l.length := by rw [HN.out]; exact hlt
      generalize wr = wa at *
      go_wp2
      go_loopw [4] (fun i wr => ∃ k : Nat, k ≤ p ∧ i = .int .i64 (k : Int) ∧ Hid (∀ k', k' < k → bothB (l.getD p (0, 0)) (l.getD k' (0, 0)) = false) ∧ Hid (Below w.heap.size w wr)) (fun i _ => p - (intOf i).toNat)
      case atStart => exact ⟨0, Nat.zero_le _, rfl, fun k' h => by omega, HB.out⟩
      case round =>
        obtain ⟨k, hk, rfl, HK, HB2⟩ := hrel
        by_cases hkp : k < p
        · obtain ⟨b, off, rfl, c1, c2, hb⟩ := HC.out p hpl
          obtain ⟨b', off', e', c3, c4, _⟩ := HC.out k (by omega)
          injection e' with e'
          injection e' with e1 e2
          subst e1; subst e2
          have hbr : b < wr.heap.size := Nat.lt_of_lt_of_le hb HB2.out.size
          have d1 := cell_grown (w := wr) (a := ⟨b, off + p * 2, none⟩) hbr ((HB2.out.cell (p := ⟨b, off + p * 2, none⟩) hb).trans c1)
          have d2 := cell_grown (w := wr) (a := ⟨b, off + p * 2 + 1, none⟩) hbr ((HB2.out.cell (p := ⟨b, off + p * 2 + 1, none⟩) hb).trans c2)
          have d3 := cell_grown (w := wr) (a := ⟨b, off + k * 2, none⟩) hbr ((HB2.out.cell (p := ⟨b, off + k * 2, none⟩) hb).trans c3)
          have d4 := cell_grown (w := wr) (a := ⟨b, off + k * 2 + 1, none⟩) hbr ((HB2.out.cell (p := ⟨b, off + k * 2 + 1, none⟩) hb).trans c4)
          have hx := HE.out.at p
          have hy := HE.out.at k
          have HYES : Hid (bothB (l.getD p (0, 0)) (l.getD k (0, 0)) = true → meetsB l = true) := meetsB_of hpl hkp
          have HNO : Hid (bothB (l.getD p (0, 0)) (l.getD k (0, 0)) = false → ∀ k', k' < k + 1 → bothB (l.getD p (0, 0)) (l.getD k' (0, 0)) = false) := fun h k' hk' => by
            by_cases e : k' = k
            · subst e; exact h
            · exact HK.out k' (by omega)
          clear c1 c2 c3 c4
          generalize l.getD p (0, 0) = x at *
          generalize l.getD k (0, 0) = y at *
          obtain ⟨xa, xs⟩ := x
          obtain ⟨ya, ys⟩ := y
          have HX : Hid (EW (xa, xs)) := hx
          have HY : Hid (EW (ya, ys)) := hy
          clear hx hy
          dsimp only at d1 d2 d3 d4
          have hkN : (k : Int) < (N : Int) := by omega
          have hpN : (p : Int) < (N : Int) := by omega
          cases hmx : mayB (xa, xs) with
          | false =>
            have HBF : Hid (bothB (xa, xs) (ya, ys) = false) := by unfold Hid bothB; rw [hmx]; rfl
            have HC1 : Hid (∀ W : World, Calls Tryd.prog 55 #[.agg #[.int .i64 xa, .int .i64 xs]] W fun e w' => e = .returned (.bool false) ∧ ∃ q os', w' = grow (W.drewN q) os') := fun W => by have := refMay_eq xa xs W HX.out; rwa [hmx] at this
            clear hmx
            go_wp2
            refine wp_region_quiet_grown (by kernel_rfl) (by kernel_rfl) ?_
            repeat (go_big_quiet_step ((go_at_call_of 55 xa; exact Calls.grown_of (HC1.out _))))
            refine wpQuiet_nil ?_
            intro w4 hw4
            obtain ⟨⟨nq, osq⟩, rfl⟩ := hw4
            go_wp2
            go_roundw
            case rel => exact ⟨k + 1, by omega, by simp, HNO.out HBF.out, below_grown HB2.out HB2.out.size _ _⟩
            case measure => simp [intOf]; omega
          | true =>
            have HMX : Hid (mayB (xa, xs) = true) := hmx
            have HC1 : Hid (∀ W : World, Calls Tryd.prog 55 #[.agg #[.int .i64 xa, .int .i64 xs]] W fun e w' => e = .returned (.bool true) ∧ ∃ q os', w' = grow (W.drewN q) os') := fun W => by have := refMay_eq xa xs W HX.out; rwa [hmx] at this
            clear hmx
            cases hmy : mayB (ya, ys) with
            | false =>
              have HBF : Hid (bothB (xa, xs) (ya, ys) = false) := by unfold Hid bothB; rw [hmy, Bool.and_false]; rfl
              have HC2 : Hid (∀ W : World, Calls Tryd.prog 55 #[.agg #[.int .i64 ya, .int .i64 ys]] W fun e w' => e = .returned (.bool false) ∧ ∃ q os', w' = grow (W.drewN q) os') := fun W => by have := refMay_eq ya ys W HY.out; rwa [hmy] at this
              clear hmy
              go_wp2
              refine wp_region_quiet_grown (by kernel_rfl) (by kernel_rfl) ?_
              repeat (go_big_quiet_step (first | (go_at_call_of 55 xa; exact Calls.grown_of (HC1.out _)) | (go_at_call_of 55 ya; exact Calls.grown_of (HC2.out _))))
              refine wpQuiet_nil ?_
              intro w4 hw4
              obtain ⟨⟨nq, osq⟩, rfl⟩ := hw4
              go_wp2
              go_roundw
              case rel => exact ⟨k + 1, by omega, by simp, HNO.out HBF.out, below_grown HB2.out HB2.out.size _ _⟩
              case measure => simp [intOf]; omega
            | true =>
              have HMY : Hid (mayB (ya, ys) = true) := hmy
              have HC2 : Hid (∀ W : World, Calls Tryd.prog 55 #[.agg #[.int .i64 ya, .int .i64 ys]] W fun e w' => e = .returned (.bool true) ∧ ∃ q os', w' = grow (W.drewN q) os') := fun W => by have := refMay_eq ya ys W HY.out; rwa [hmy] at this
              clear hmy
              cases hcm : comB (xa, xs) (ya, ys) with
              | false =>
                have HBF : Hid (bothB (xa, xs) (ya, ys) = false) := by unfold Hid bothB; rw [hcm, Bool.and_false]
                have HC3 : Hid (∀ W : World, Calls Tryd.prog 56 #[.agg #[.int .i64 xa, .int .i64 xs], .agg #[.int .i64 ya, .int .i64 ys]] W fun e w' => e = .returned (.bool false) ∧ ∃ q os', w' = grow (W.drewN q) os') := fun W => by have := common_any xa xs ya ys W HMX.out HMY.out; rwa [hcm] at this
                clear hcm
                go_wp2
                refine wp_region_quiet_grown (by kernel_rfl) (by kernel_rfl) ?_
                repeat (go_big_quiet_step (first | (go_at_call_of 55 xa; exact Calls.grown_of (HC1.out _)) | (go_at_call_of 55 ya; exact Calls.grown_of (HC2.out _)) | (go_at_call 56; exact Calls.grown_of (HC3.out _))))
                refine wpQuiet_nil ?_
                intro w4 hw4
                obtain ⟨⟨nq, osq⟩, rfl⟩ := hw4
                go_wp2
                go_roundw
                case rel => exact ⟨k + 1, by omega, by simp, HNO.out HBF.out, below_grown HB2.out HB2.out.size _ _⟩
                case measure => simp [intOf]; omega
              | true =>
                have HBF : Hid (bothB (xa, xs) (ya, ys) = true) := by unfold Hid bothB; rw [hcm, HMX.out, HMY.out]; rfl
                have HC3 : Hid (∀ W : World, Calls Tryd.prog 56 #[.agg #[.int .i64 xa, .int .i64 xs], .agg #[.int .i64 ya, .int .i64 ys]] W fun e w' => e = .returned (.bool true) ∧ ∃ q os', w' = grow (W.drewN q) os') := fun W => by have := common_any xa xs ya ys W HMX.out HMY.out; rwa [hcm] at this
                clear hcm
                go_wp2
                refine wp_region_quiet_grown (by kernel_rfl) (by kernel_rfl) ?_
                repeat (go_big_quiet_step (first | (go_at_call_of 55 xa; exact Calls.grown_of (HC1.out _)) | (go_at_call_of 55 ya; exact Calls.grown_of (HC2.out _)) | (go_at_call 56; exact Calls.grown_of (HC3.out _))))
                refine wpQuiet_nil ?_
                intro w4 hw4
                obtain ⟨⟨nq, osq⟩, rfl⟩ := hw4
                go_wp2
                go_ret
                exact ⟨ret_boolX (HYES.out HBF.out).symm, below_grown HB2.out HB2.out.size _ _⟩
        · obtain rfl : k = p := by omega
          go_wp2
          go_roundw
          case rel =>
            refine ⟨k + 1, by omega, by simp, fun i' hi' k' hk' => ?_, HB2.out⟩
            by_cases e : i' = k
            · subst e; exact HK.out k' hk'
            · exact HP.out i' (by omega) k' hk'
          case measure => simp [intOf]; omega
    · obtain rfl : p = N := by omega
      have HF : Hid (meetsB l = false) := meetsB_no (by rw [HN.out]; exact HP.out)
      go_wp2
      go_ret
      exact ⟨ret_boolX HF.out.symm, HB.out⟩
end Go.Proofs.YtdalkjenjnalbaaDoor

/-
  The document's 'selected': how many tuples, at most one more than may be. Conditions: the extent and the selection's numbers may be.
-/
import Derived.Test.YtnikbcljonbpcaaSRefS
import Derived.Test.YtnikbcljonbpcaaSElem
import Derived.Test.YtnikbcljonbpcaaSAllM
namespace Go.Proofs.Ytnikbcljonbpcaa
open Go.RowKit Go.Shelf
set_option linter.unusedVariables false
set_option maxRecDepth 100000

set_option maxHeartbeats 8000000 in
theorem refSelected_any (D : List Int) (s : Sel) (vd : Value) (V : SV) (w : World) (hD : Is w vd D) (hS : Ss w V s) (hE : elE D = 0) (hM : mayS D.length s = true) : Calls Try.prog 28 #[vd, selV s.kind V] w fun e w' => e = .returned (.int .i64 (min (slN D s) 4097)) ∧ Below w.heap.size w w' := by
  have HI : Hid (Is w vd D) := hD
  have HS : Hid (Ss w V s) := hS
  obtain ⟨ao, n, cap, rfl, hn, hc, hb⟩ := hD.open
  have HN : Hid (D.length = n) := hn
  obtain ⟨a0, n0, c0, a1, n1, c1, a2, n2, c2, a3, n3, c3, a4, n4, c4, e, hV⟩ := selV_open hS
  obtain ⟨W1, hW1, hb1, hz1, b0, b1, b2, b3, b4, b5⟩ := box_sel w s.kind (.slice a0 n0 c0) (.slice a1 n1 c1) (.slice a2 n2 c2) (.slice a3 n3 c3) (.slice a4 n4 c4)
  have HB1 : Hid (Below w.heap.size w W1) := hb1
  obtain ⟨r, HR⟩ : ∃ r, Hid (slN D s = r) := ⟨_, rfl⟩
  have HP : Hid (Iss w (.slice a0 n0 c0) s.pts) := by have := hS.p; rwa [hV] at this
  have HC : Hid (Is w (.slice a3 n3 c3) s.ct) := by have := hS.c; rwa [hV] at this
  have HBL : Hid (Is w (.slice a4 n4 c4) s.bl) := by have := hS.d; rwa [hV] at this
  have hn4 : n ≤ 4 := by have := (dims_of (elE_ok hE).1).1; omega
  have hpb : prd D ≤ 1048576 := (elE_ok hE).2
  have hel : elN D = prd D := by rw [elN, if_pos (elE_ok hE)]
  have HM : Hid (mayS n s = true) := by rw [Hid, ← hn]; exact hM
  have HEL : Hid (Calls Try.prog 10 #[.slice ao n cap] W1 fun e w' => e = .returned (.tuple #[.int .i64 (prd D), .int .i64 0]) ∧ Below W1.heap.size W1 w') := by
    have := refElements_any D _ W1 (hD.below hb1)
    rwa [hel, hE] at this
  rw [e, HR.out]
  clear hD hS hn hb1 e hV hM hel
  obtain ⟨k, HK⟩ : ∃ k, Hid (s.kind = k) := ⟨_, rfl⟩
  rw [HK.out] at b0 hW1 ⊢
  have hp0 : 0 ≤ prd D := prd_nonneg fun x hx => ((dims_of (elE_ok hE).1).2 x hx).1
  by_cases k1 : k = 1
  · subst k1
    have hr1 : r = prd D := by rw [← HR.out, slN, if_neg (by rw [HK.out]; omega), axA, if_pos HK.out, whole_prd]
    obtain ⟨q, hq⟩ : ∃ q, prd D = q := ⟨_, rfl⟩
    rw [hq] at hr1 HEL hpb hp0
    subst hr1
    go_enter Try.func28, Try.ntmps28
    go_wp2_with (go_at_call 10; refine HEL.out.mono ?_; rintro e w2 ⟨rfl, hb2⟩; have HB2 : Hid (Below W1.heap.size W1 w2) := hb2; clear hb2)
    go_ret
    exact ⟨by simp, HB1.out.trans (HB2.out.mono HB1.out.size)⟩
  by_cases k2 : k = 2
  · subst k2
    obtain ⟨_, _, _, e9, hl, hc9, hb9⟩ := HP.out.open
    injection e9 with e1 e2 e3
    subst e1 e2 e3
    have hr1 : r = (n0 : Int) := by rw [← HR.out, slN, if_pos HK.out, hl]
    subst hr1
    clear hl
    go_enter Try.func28, Try.ntmps28
    go_wp2_with fail
    go_ret
    exact ⟨by simp, HB1.out⟩
  by_cases k3 : k = 3
  · subst k3
    have hm := HM.out
    rw [mayS, if_neg (by rw [HK.out]; omega), if_neg (by rw [HK.out]; omega), if_pos HK.out] at hm
    simp only [Bool.and_eq_true] at hm
    obtain ⟨⟨⟨o1, o2⟩, o3⟩, o4⟩ := hm
    rw [okB_iff] at o1 o2 o3 o4
    obtain ⟨A, HAA⟩ : ∃ A, Hid (slabA s.st s.sd s.ct s.bl = A) := ⟨_, rfl⟩
    have HAL : Hid (A.length = n) := by rw [Hid, ← HAA.out]; exact slabA_length _ _ _ _ n o1.1 o2.1 o3.1 o4.1
    have HAT : Hid (∀ (i : Nat) (c b : Int), s.ct[i]? = some c → s.bl[i]? = some b → ∃ a, A[i]? = some a ∧ a.ct = c ∧ a.bl = b) := fun i c b h1 h2 => by
      have hi : i < n := by have := (List.getElem?_eq_some_iff.1 h1).1; omega
      have q1 : s.st[i]? = some (s.st[i]'(by omega)) := List.getElem?_eq_getElem _
      have q2 : s.sd[i]? = some (s.sd[i]'(by omega)) := List.getElem?_eq_getElem _
      exact ⟨_, by rw [← HAA.out]; exact slabA_at _ _ _ _ i _ _ _ _ q1 q2 h1 h2, rfl, rfl⟩
    have HRA : Hid (prd (cnts A) = r) := by rw [Hid, ← HR.out, slN, if_neg (by rw [HK.out]; omega), axA, if_neg (by rw [HK.out]; omega), HAA.out]
    have HCP : Hid (∀ (i : Nat) c, s.ct[i]? = some c → 0 ≤ c) := fun i c h => o3.2 c (List.mem_of_getElem? h)
    have HBP : Hid (∀ (i : Nat) c, s.bl[i]? = some c → 0 ≤ c) := fun i c h => o4.2 c (List.mem_of_getElem? h)
    have hn3 : n3 = n := by
      obtain ⟨_, _, _, e9, hl, _, _⟩ := HC.out.open
      injection e9 with e1 e2 e3
      omega
    have hn4' : n4 = n := by
      obtain ⟨_, _, _, e9, hl, _, _⟩ := HBL.out.open
      injection e9 with e1 e2 e3
      omega
    subst hn3 hn4'
    clear o1 o2 o3 o4
    go_enter Try.func28, Try.ntmps28
    go_wp2_with fail
    go_loopw [6] (fun x wr => ∃ i : Nat, i ≤ n4 ∧ x = .int .i64 (i : Int) ∧ Hid (∀ (j : Nat) a, j < i → A[j]? = some a → 1 ≤ a.ct ∧ 1 ≤ a.bl) ∧ Hid (Below W1.heap.size W1 wr)) (fun x _ => n4 - (intOf x).toNat)
    case atStart => exact ⟨0, Nat.zero_le _, rfl, fun j t h => by omega, Below.refl _ _⟩
    case round =>
      obtain ⟨i, hin, rfl, HJ, HB⟩ := hrel
      rename World => w6
      have q3 := (HB.out.cell (World.block_lt_of_cell? W1 _ b4)).trans b4
      have q4 := (HB.out.cell (World.block_lt_of_cell? W1 _ b5)).trans b5
      by_cases hlt : i < n4
      · obtain ⟨g7, o7, c, rfl, hcc, _, cc⟩ := ((HC.out.below HB1.out).below HB.out).at hlt
        obtain ⟨g8, o8, b, rfl, hbb, _, cb⟩ := ((HBL.out.below HB1.out).below HB.out).at hlt
        obtain ⟨a, ha, hac, hab⟩ := HAT.out i c b hcc hbb
        have HAI : Hid (A[i]? = some a ∧ a.ct = c ∧ a.bl = b) := ⟨ha, hac, hab⟩
        have hc0 := HCP.out i c hcc
        have hb0 := HBP.out i b hbb
        have hili : (i : Int) < (n4 : Int) := by omega
        clear ha hac hab hcc hbb
        by_cases hcz : c = 0
        · have hr0 : r = 0 := by rw [← HRA.out]; exact cnts_zero HAI.out.1 (.inl (by rw [HAI.out.2.1]; exact hcz))
          subst hr0 hcz
          go_wp2_with fail
          go_ret
          exact ⟨rfl, HB1.out.trans (HB.out.mono HB1.out.size)⟩
        · have f1 : (c == 0) = false := by simpa using hcz
          by_cases hbz : b = 0
          · have hr0 : r = 0 := by rw [← HRA.out]; exact cnts_zero HAI.out.1 (.inr (by rw [HAI.out.2.2]; exact hbz))
            subst hr0 hbz
            go_wp2_with fail
            go_ret
            exact ⟨rfl, HB1.out.trans (HB.out.mono HB1.out.size)⟩
          · have f2 : (b == 0) = false := by simpa using hbz
            go_wp2_with fail
            go_roundw
            case rel =>
              refine ⟨i + 1, by omega, by simp, fun j t hj ht => ?_, HB.out⟩
              by_cases hji : j = i
              · subst hji
                rw [HAI.out.1] at ht
                rw [← Option.some.inj ht, HAI.out.2.1, HAI.out.2.2]
                exact ⟨by omega, by omega⟩
              · exact HJ.out j t (by omega) ht
            case measure => simp [intOf]; omega
      · have HPOS : Hid (∀ a ∈ A, 1 ≤ a.ct ∧ 1 ≤ a.bl) := fun a ha => by
          obtain ⟨j, hj⟩ := List.getElem?_of_mem ha
          have := (List.getElem?_eq_some_iff.1 hj).1
          have := HAL.out
          exact HJ.out j a (by omega) hj
        go_wp2_with fail
        go_loopw [7, 5] (fun x y wr => ∃ i : Nat, i ≤ n4 ∧ x = .int .i64 (i : Int) ∧ y = .int .i64 (min (prd (cnts (A.take i))) 4097) ∧ Hid (Below W1.heap.size W1 wr)) (fun x _ _ => n4 - (intOf x).toNat)
        case atStart => exact ⟨0, Nat.zero_le _, rfl, rfl, HB.out⟩
        case round =>
          obtain ⟨i, hin, rfl, rfl, HB7⟩ := hrel
          rename World => w7
          have q5 := (HB7.out.cell (World.block_lt_of_cell? W1 _ b4)).trans b4
          have q6 := (HB7.out.cell (World.block_lt_of_cell? W1 _ b5)).trans b5
          have hpp := cnts_take_pos HPOS.out i
          by_cases hlt : i < n4
          · obtain ⟨g7, o7, c, rfl, hcc, _, cc⟩ := ((HC.out.below HB1.out).below HB7.out).at hlt
            obtain ⟨g8, o8, b, rfl, hbb, _, cb⟩ := ((HBL.out.below HB1.out).below HB7.out).at hlt
            obtain ⟨a, ha, hac, hab⟩ := HAT.out i c b hcc hbb
            have hpa := HPOS.out a (List.mem_of_getElem? ha)
            rw [hac, hab] at hpa
            have hst := cnts_take_step ha
            rw [hac, hab] at hst
            obtain ⟨p, HPI⟩ : ∃ p, Hid (prd (cnts (A.take i)) = p) := ⟨_, rfl⟩
            rw [HPI.out] at hst hpp ⊢
            have HST : Hid (min (prd (cnts (A.take (i + 1)))) 4097 = capP (min p 4097) (capP c b)) := by rw [Hid, hst, cap_step p c b hpp hpa.1 hpa.2]
            obtain ⟨u, hu⟩ : ∃ u, min p 4097 = u := ⟨_, rfl⟩
            rw [hu] at HST ⊢
            have hu0 : 0 ≤ u := by omega
            obtain ⟨z, hz⟩ : ∃ z, capP c b = z := ⟨_, rfl⟩
            have hz0 : 0 ≤ z := by rw [← hz, capP_min c b hpa.1 hpa.2]; have := Int.mul_nonneg (show 0 ≤ c by omega) (show 0 ≤ b by omega); omega
            have HQ1 : Hid (∀ w2, Calls Try.prog 38 #[.int .i64 c, .int .i64 b] w2 fun e w' => e = .returned (.int .i64 z) ∧ w' = w2) := fun w2 => by
              have := refProduct_any c b w2 (by omega) (by omega)
              rwa [hz] at this
            have HQ2 : Hid (∀ w2, Calls Try.prog 38 #[.int .i64 u, .int .i64 z] w2 fun e w' => e = .returned (.int .i64 (capP u z)) ∧ w' = w2) := fun w2 => refProduct_any u z w2 hu0 hz0
            rw [hz] at HST
            have hili : (i : Int) < (n4 : Int) := by omega
            clear ha hac hab hcc hbb hst hpa hz hu
            go_wp2_with fail
            go_region_law (first
              | (refine step_call rfl 38 (enters_of Try.func38 (by kernel_rfl) rfl) #[.tmp 55, .tmp 60] _ rfl _ (by go_simp) (fun v w' => v = .int .i64 z ∧ w' = w7.drew) (Calls.mono (HQ1.out _) (by rintro e w' ⟨rfl, rfl⟩; exact ⟨_, rfl, rfl, rfl⟩)) ?_; rintro v9 w9 ⟨rfl, rfl⟩)
              | (refine step_call rfl 38 (enters_of Try.func38 (by kernel_rfl) rfl) #[.tmp 50, .tmp 61] _ rfl _ (by go_simp) (fun v w' => v = .int .i64 (capP u z) ∧ w' = w7.drew) (Calls.mono (HQ2.out _) (by rintro e w' ⟨rfl, rfl⟩; exact ⟨_, rfl, rfl, rfl⟩)) ?_; rintro v9 w9 ⟨rfl, rfl⟩))
            all_goals
              go_wp2_with fail
              go_roundw
              case rel => exact ⟨i + 1, by omega, by simp, by rw [HST.out], HB7.out.drew⟩
              case measure => simp [intOf]; omega
          · have hi : i = n4 := by omega
            subst hi
            have HV : Hid (prd (cnts (A.take i)) = r) := by rw [Hid, List.take_of_length_le (by rw [HAL.out]; exact Nat.le_refl _), HRA.out]
            rw [HV.out] at hpp ⊢
            obtain ⟨u, hu⟩ : ∃ u, min r 4097 = u := ⟨_, rfl⟩
            have HU : Hid (min u 4097 = u) := by rw [Hid]; omega
            have HUU : Hid (min r 4097 = u) := hu
            rw [hu]
            clear hu
            go_wp2_with fail
            go_ret
            exact ⟨by rw [HUU.out]; simpa using HU.out, HB1.out.trans (HB7.out.mono HB1.out.size)⟩
  · exfalso
    have hm := HM.out
    rw [mayS, if_neg (by rw [HK.out]; exact k1), if_neg (by rw [HK.out]; exact k2), if_neg (by rw [HK.out]; exact k3)] at hm
    cases hm
end Go.Proofs.Ytnikbcljonbpcaa

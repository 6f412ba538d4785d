/-
  The very same lists, the very same selections. Conditions: lengths are such as memory bears.
-/
import Derived.Test.YtnikbcljonbpcaaSLaw
import Derived.Test.YtnikbcljonbpcaaSTup2
import Derived.Test.YtnikbcljonbpcaaRLast
namespace Go.Proofs.Ytnikbcljonbpcaa
open Go.RowKit Go.Shelf
set_option linter.unusedVariables false
set_option maxRecDepth 100000

set_option maxHeartbeats 8000000 in
theorem lists_yes (A : List (List Int)) (va vb : Value) (w : World) (hA : Iss w va A) (hB : Iss w vb A) : Calls Try.prog 20 #[va, vb] w fun e w' => e = .returned (.bool true) ∧ Below w.heap.size w w' := by
  have HA : Hid (Iss w va A) := hA
  have HB : Hid (Iss w vb A) := hB
  obtain ⟨ao, n, cap, rfl, hn, hc, hb⟩ := hA.open
  obtain ⟨bo, m, dap, rfl, hm, hdc, hb2⟩ := hB.open
  obtain rfl : n = m := by omega
  have HN : Hid (A.length = n) := hn
  have HIN : Hid (∀ (t : List Int) (u v : Value) w9, Is w9 u t → Is w9 v t → Calls Try.prog 23 #[u, v] w9 fun e w' => e = .returned (.bool true) ∧ Below w9.heap.size w9 w') := fun t u v w9 h1 h2 => by
    have := ints_any t t u v w9 h1 h2
    rwa [decide_eq_true rfl] at this
  have hq : ((n : Int) != (n : Int)) = false := by simp
  clear hA hB hn hm
  go_enter Try.func20, Try.ntmps20
  go_wp2_with fail
  go_loopw [5] (fun x wr => ∃ i : Nat, i ≤ n ∧ x = .int .i64 (i : Int) ∧ Hid (Below w.heap.size w wr)) (fun x _ => n - (intOf x).toNat)
  case atStart => exact ⟨0, Nat.zero_le _, rfl, Below.refl _ _⟩
  case round =>
    obtain ⟨i, hin, rfl, HW⟩ := hrel
    rename World => w2
    by_cases hlt : i < n
    · have hil : (i : Int) < (n : Int) := by omega
      have hi0 : (0 : Int) ≤ (i : Int) := by omega
      obtain ⟨g, o, t, u, um, uc, rfl, ht, htl, _, _, hcu, hiu⟩ := (HA.out.below HW.out).at hlt
      obtain ⟨g2, o2, t2, u2, um2, uc2, rfl, ht2, htl2, _, _, hcu2, hiu2⟩ := (HB.out.below HW.out).at hlt
      rw [ht] at ht2
      obtain rfl := Option.some.inj ht2
      have HSK : Hid (∀ w9, Below w2.heap.size w2 w9 → w9.cell? ⟨g, o + i, none⟩ = some (.slice u um uc) ∧ w9.cell? ⟨g2, o2 + i, none⟩ = some (.slice u2 um2 uc2)) := fun w9 h9 => ⟨(h9.cell (World.block_lt_of_cell? w2 _ hcu)).trans hcu, (h9.cell (World.block_lt_of_cell? w2 _ hcu2)).trans hcu2⟩
      have HD2 : Hid (Below w2.heap.size w2 w2.drew) := (Below.refl _ _).drew
      have HC : Hid (Calls Try.prog 23 #[.slice u um uc, .slice u2 um2 uc2] w2.drew fun e w' => e = .returned (.bool true) ∧ Below w2.drew.heap.size w2.drew w') := HIN.out t _ _ w2.drew (hiu.below HD2.out) (hiu2.below HD2.out)
      clear ht htl hiu htl2 hiu2
      go_wp2_with fail
      clear hcu hcu2
      have e0 := HSK.out _ HD2.out
      refine wp_region_L (S := fun w9 => w9.cell? ⟨g, o + i, none⟩ = some (.slice u um uc) ∧ w9.cell? ⟨g2, o2 + i, none⟩ = some (.slice u2 um2 uc2)) 9 (by kernel_rfl) e0 (fun hHeld => ?_)
      refine GoL.takeD (some 17) (i := 0) (v := ?_) rfl rfl (by kernel_rfl) (by kernel_rfl) (by kernel_rfl) (by decide) (fun _ _ _ h => h) (Or.inl ⟨by rfl, ?_⟩) (by assumption) ?_
      rotate_left 1
      · intro w9 hSw
        obtain ⟨s0, s1⟩ := hSw
        go_simp
        try with_reducible rfl
      try simp only [Act.put, List.setIfInBounds_toArray, List.set_cons_zero, List.set_cons_succ]
      refine GoL.takeD (some 18) (i := 1) (v := ?_) rfl rfl (by kernel_rfl) (by kernel_rfl) (by kernel_rfl) (by decide) (fun _ _ _ h => h) (Or.inl ⟨by rfl, ?_⟩) (by assumption) ?_
      rotate_left 1
      · intro w9 hSw
        obtain ⟨s0, s1⟩ := hSw
        go_simp
        try with_reducible rfl
      try simp only [Act.put, List.setIfInBounds_toArray, List.set_cons_zero, List.set_cons_succ]
      refine GoL.takeD (some 19) (i := 2) (v := ?_) rfl rfl (by kernel_rfl) (by kernel_rfl) (by kernel_rfl) (by decide) (fun _ _ _ h => h) (Or.inl ⟨by rfl, ?_⟩) (by assumption) ?_
      rotate_left 1
      · intro w9 hSw
        obtain ⟨s0, s1⟩ := hSw
        go_simp
        try with_reducible rfl
      try simp only [Act.put, List.setIfInBounds_toArray, List.set_cons_zero, List.set_cons_succ]
      refine GoL.takeD (some 20) (i := 3) (v := ?_) rfl rfl (by kernel_rfl) (by kernel_rfl) (by kernel_rfl) (by decide) (fun _ _ _ h => h) (Or.inl ⟨by rfl, ?_⟩) (by assumption) ?_
      rotate_left 1
      · intro w9 hSw
        obtain ⟨s0, s1⟩ := hSw
        go_simp
        try with_reducible rfl
      try simp only [Act.put, List.setIfInBounds_toArray, List.set_cons_zero, List.set_cons_succ]
      refine GoL.takeD (some 21) (i := 4) (v := ?_) rfl rfl (by kernel_rfl) (by kernel_rfl) (by kernel_rfl) (by decide) (fun _ _ _ h => h) (Or.inl ⟨by rfl, ?_⟩) (by assumption) ?_
      rotate_left 1
      · intro w9 hSw
        obtain ⟨s0, s1⟩ := hSw
        go_simp
        try with_reducible rfl
      try simp only [Act.put, List.setIfInBounds_toArray, List.set_cons_zero, List.set_cons_succ]
      refine GoL.takeD (some 22) (i := 5) (v := ?_) rfl rfl (by kernel_rfl) (by kernel_rfl) (by kernel_rfl) (by decide) (fun _ _ _ h => h) (Or.inl ⟨by rfl, ?_⟩) (by assumption) ?_
      rotate_left 1
      · intro w9 hSw
        obtain ⟨s0, s1⟩ := hSw
        go_simp
        try with_reducible rfl
      try simp only [Act.put, List.setIfInBounds_toArray, List.set_cons_zero, List.set_cons_succ]
      refine GoL.takeD (some 23) (i := 6) (v := ?_) rfl rfl (by kernel_rfl) (by kernel_rfl) (by kernel_rfl) (by decide) (fun _ _ _ h => h) (Or.inl ⟨by rfl, ?_⟩) (by assumption) ?_
      rotate_left 1
      · intro w9 hSw
        obtain ⟨s0, s1⟩ := hSw
        go_simp
        try with_reducible rfl
      try simp only [Act.put, List.setIfInBounds_toArray, List.set_cons_zero, List.set_cons_succ]
      refine GoL.takeD (some 24) (i := 7) (v := ?_) rfl rfl (by kernel_rfl) (by kernel_rfl) (by kernel_rfl) (by decide) (fun _ _ _ h => h) (Or.inl ⟨by rfl, ?_⟩) (by assumption) ?_
      rotate_left 1
      · intro w9 hSw
        obtain ⟨s0, s1⟩ := hSw
        go_simp
        try with_reducible rfl
      try simp only [Act.put, List.setIfInBounds_toArray, List.set_cons_zero, List.set_cons_succ]
      refine GoL.ready (rs := [8]) (by kernel_rfl) (by simp) (by decide) (AllL.cons rfl (fun K hK => ?_) AllL.nil)
      refine step_call rfl 23 (enters_of Try.func23 (by kernel_rfl) rfl) #[.tmp 20, .tmp 24] _ rfl _ (by go_simp) (fun v w' => v = .bool true ∧ Below w2.heap.size w2 w') (Calls.mono HC.out (by rintro e w' ⟨rfl, hb3⟩; exact ⟨_, rfl, rfl, HD2.out.trans (hb3.mono (Nat.le_refl _))⟩)) ?_
      rintro v3 w3 ⟨rfl, hb3⟩
      have HW3 : Hid (Below w.heap.size w w3) := HW.out.trans (hb3.mono HW.out.size)
      have e1 := HSK.out _ hb3
      refine hK.out _ _ e1 (fun hHeld => ?_)
      clear hK K hb3
      show GoL _ _ _ _ _ _ _ _ (Act.put _ (some 25) (.bool true)) _
      try simp only [Act.put, List.setIfInBounds_toArray, List.set_cons_zero, List.set_cons_succ]
      refine GoL.last (by kernel_rfl) (by kernel_rfl) rfl (fun K hK => ?_)
      go_simp
      refine hK.out _ _ ?_
      clear hK K
      go_wp2_with fail
      go_roundw
      case rel => exact ⟨i + 1, hlt, by simp, HW3.out⟩
      case measure => simp [intOf]; omega
    · go_wp2_with fail
      go_ret
      exact ⟨rfl, HW.out⟩
set_option maxHeartbeats 8000000 in
theorem alike_yes (s : Sel) (V V' : SV) (w : World) (hS : Ss w V s) (hS' : Ss w V' s) : Calls Try.prog 21 #[selV s.kind V, selV s.kind V'] w fun e w' => e = .returned (.bool true) ∧ Below w.heap.size w w' := by
  obtain ⟨a0, n0, c0, a1, n1, c1, a2, n2, c2, a3, n3, c3, a4, n4, c4, e, hV⟩ := selV_open hS
  obtain ⟨b0, m0, e0, b1, m1, e1, b2, m2, e2, b3, m3, e3, b4, m4, e4, e', hV'⟩ := selV_open hS'
  have HP : Hid (Iss w (.slice a0 n0 c0) s.pts ∧ Iss w (.slice b0 m0 e0) s.pts) := by have h1 := hS.p; have h2 := hS'.p; rw [hV] at h1; rw [hV'] at h2; exact ⟨h1, h2⟩
  have HA : Hid (Is w (.slice a1 n1 c1) s.st ∧ Is w (.slice b1 m1 e1) s.st) := by have h1 := hS.a; have h2 := hS'.a; rw [hV] at h1; rw [hV'] at h2; exact ⟨h1, h2⟩
  have HB : Hid (Is w (.slice a2 n2 c2) s.sd ∧ Is w (.slice b2 m2 e2) s.sd) := by have h1 := hS.b; have h2 := hS'.b; rw [hV] at h1; rw [hV'] at h2; exact ⟨h1, h2⟩
  have HC : Hid (Is w (.slice a3 n3 c3) s.ct ∧ Is w (.slice b3 m3 e3) s.ct) := by have h1 := hS.c; have h2 := hS'.c; rw [hV] at h1; rw [hV'] at h2; exact ⟨h1, h2⟩
  have HDD : Hid (Is w (.slice a4 n4 c4) s.bl ∧ Is w (.slice b4 m4 e4) s.bl) := by have h1 := hS.d; have h2 := hS'.d; rw [hV] at h1; rw [hV'] at h2; exact ⟨h1, h2⟩
  have HIN : Hid (∀ (t : List Int) (u v : Value) w9, Is w9 u t → Is w9 v t → Calls Try.prog 23 #[u, v] w9 fun e w' => e = .returned (.bool true) ∧ Below w9.heap.size w9 w') := fun t u v w9 h1 h2 => by
    have := ints_any t t u v w9 h1 h2
    rwa [decide_eq_true rfl] at this
  obtain ⟨W1, hW1, hb1, hz1, y0, y1, y2, y3, y4, y5⟩ := box_sel w s.kind (.slice a0 n0 c0) (.slice a1 n1 c1) (.slice a2 n2 c2) (.slice a3 n3 c3) (.slice a4 n4 c4)
  obtain ⟨W2, hW2, hb2, hz2, z0, z1, z2, z3, z4, z5⟩ := box_sel W1 s.kind (.slice b0 m0 e0) (.slice b1 m1 e1) (.slice b2 m2 e2) (.slice b3 m3 e3) (.slice b4 m4 e4)
  rw [hz1] at z0 z1 z2 z3 z4 z5
  have HB2 : Hid (Below w.heap.size w W2) := hb1.trans (hb2.mono hb1.size)
  have HC6 : Hid (∀ w9, Below W2.heap.size W2 w9 → (w9.cell? ⟨w.heap.size, 0, none⟩ = some (.int .i64 s.kind) ∧ w9.cell? ⟨w.heap.size, 1, none⟩ = some (.slice a0 n0 c0) ∧ w9.cell? ⟨w.heap.size, 2, none⟩ = some (.slice a1 n1 c1) ∧ w9.cell? ⟨w.heap.size, 3, none⟩ = some (.slice a2 n2 c2) ∧ w9.cell? ⟨w.heap.size, 4, none⟩ = some (.slice a3 n3 c3) ∧ w9.cell? ⟨w.heap.size, 5, none⟩ = some (.slice a4 n4 c4)) ∧ (w9.cell? ⟨w.heap.size + 1, 0, none⟩ = some (.int .i64 s.kind) ∧ w9.cell? ⟨w.heap.size + 1, 1, none⟩ = some (.slice b0 m0 e0) ∧ w9.cell? ⟨w.heap.size + 1, 2, none⟩ = some (.slice b1 m1 e1) ∧ w9.cell? ⟨w.heap.size + 1, 3, none⟩ = some (.slice b2 m2 e2) ∧ w9.cell? ⟨w.heap.size + 1, 4, none⟩ = some (.slice b3 m3 e3) ∧ w9.cell? ⟨w.heap.size + 1, 5, none⟩ = some (.slice b4 m4 e4))) := fun w9 h => by
    have h1 := hb2.trans (h.mono hb2.size)
    exact ⟨⟨(h1.cell (World.block_lt_of_cell? W1 _ y0)).trans y0, (h1.cell (World.block_lt_of_cell? W1 _ y1)).trans y1, (h1.cell (World.block_lt_of_cell? W1 _ y2)).trans y2, (h1.cell (World.block_lt_of_cell? W1 _ y3)).trans y3, (h1.cell (World.block_lt_of_cell? W1 _ y4)).trans y4, (h1.cell (World.block_lt_of_cell? W1 _ y5)).trans y5⟩, ⟨(h.cell (World.block_lt_of_cell? W2 _ z0)).trans z0, (h.cell (World.block_lt_of_cell? W2 _ z1)).trans z1, (h.cell (World.block_lt_of_cell? W2 _ z2)).trans z2, (h.cell (World.block_lt_of_cell? W2 _ z3)).trans z3, (h.cell (World.block_lt_of_cell? W2 _ z4)).trans z4, (h.cell (World.block_lt_of_cell? W2 _ z5)).trans z5⟩⟩
  have HBW : Hid (∀ w9, Below W2.heap.size W2 w9 → Below w.heap.size w w9) := fun w9 h => HB2.out.trans (h.mono HB2.out.size)
  rw [e, e']
  clear hS hS' hV hV' e e' hb1 hb2 y0 y1 y2 y3 y4 y5 z0 z1 z2 z3 z4 z5 hz2
  have HW2 : Hid (Below W2.heap.size W2 W2) := Below.refl _ _
  obtain ⟨⟨y0, y1, y2, y3, y4, y5⟩, ⟨z0, z1, z2, z3, z4, z5⟩⟩ := HC6.out W2 (Below.refl _ _)
  go_enter Try.func21, Try.ntmps21
  go_wp2_with fail
  clear y0 y1 y2 y3 y4 y5 z0 z1 z2 z3 z4 z5
  refine Calls.mono (lists_yes s.pts _ _ W2 (HP.out.1.below HB2.out) (HP.out.2.below HB2.out)) ?_
  rintro e w3 ⟨rfl, hb3⟩
  have HW3 : Hid (Below W2.heap.size W2 w3) := hb3
  clear hb3
  obtain ⟨⟨y0, y1, y2, y3, y4, y5⟩, ⟨z0, z1, z2, z3, z4, z5⟩⟩ := HC6.out w3 HW3.out
  go_wp2_with fail
  clear y0 y1 y2 y3 y4 y5 z0 z1 z2 z3 z4 z5
  refine Calls.mono (HIN.out _ _ _ w3 (HA.out.1.below (HBW.out _ HW3.out)) (HA.out.2.below (HBW.out _ HW3.out))) ?_
  rintro e w4 ⟨rfl, hb4⟩
  have HW4 : Hid (Below W2.heap.size W2 w4) := HW3.out.trans (hb4.mono HW3.out.size)
  clear hb4
  obtain ⟨⟨y0, y1, y2, y3, y4, y5⟩, ⟨z0, z1, z2, z3, z4, z5⟩⟩ := HC6.out w4 HW4.out
  go_wp2_with fail
  clear y0 y1 y2 y3 y4 y5 z0 z1 z2 z3 z4 z5
  refine Calls.mono (HIN.out _ _ _ w4 (HB.out.1.below (HBW.out _ HW4.out)) (HB.out.2.below (HBW.out _ HW4.out))) ?_
  rintro e w5 ⟨rfl, hb5⟩
  have HW5 : Hid (Below W2.heap.size W2 w5) := HW4.out.trans (hb5.mono HW4.out.size)
  clear hb5
  obtain ⟨⟨y0, y1, y2, y3, y4, y5⟩, ⟨z0, z1, z2, z3, z4, z5⟩⟩ := HC6.out w5 HW5.out
  go_wp2_with fail
  clear y0 y1 y2 y3 y4 y5 z0 z1 z2 z3 z4 z5
  refine Calls.mono (HIN.out _ _ _ w5 (HC.out.1.below (HBW.out _ HW5.out)) (HC.out.2.below (HBW.out _ HW5.out))) ?_
  rintro e w6 ⟨rfl, hb6⟩
  have HW6 : Hid (Below W2.heap.size W2 w6) := HW5.out.trans (hb6.mono HW5.out.size)
  clear hb6
  obtain ⟨⟨y0, y1, y2, y3, y4, y5⟩, ⟨z0, z1, z2, z3, z4, z5⟩⟩ := HC6.out w6 HW6.out
  go_wp2_with fail
  clear y0 y1 y2 y3 y4 y5 z0 z1 z2 z3 z4 z5
  refine Calls.mono (HIN.out _ _ _ w6 (HDD.out.1.below (HBW.out _ HW6.out)) (HDD.out.2.below (HBW.out _ HW6.out))) ?_
  rintro e w7 ⟨rfl, hb7⟩
  have HW7 : Hid (Below W2.heap.size W2 w7) := HW6.out.trans (hb7.mono HW6.out.size)
  clear hb7
  go_wp2_with fail
  go_ret
  exact ⟨rfl, HBW.out _ HW7.out⟩
end Go.Proofs.Ytnikbcljonbpcaa

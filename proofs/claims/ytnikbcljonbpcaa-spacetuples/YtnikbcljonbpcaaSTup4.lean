/-
  The iterator over the tuples of axes tells each of them in order. Conditions: the axes' numbers fit, or one is empty.
-/
import Derived.Test.YtnikbcljonbpcaaSTup3
namespace Go.Proofs.Ytnikbcljonbpcaa
open Go.RowKit Go.Sort Go.Shelf
set_option linter.unusedVariables false
set_option maxRecDepth 100000
attribute [local go_sem] Oper.semAt_some

/-- The first numbers, laid one by one. -/
def Ud (A : List Ax) (m d : Nat) : List Int := (A.take d).map (fun a => atA a 0) ++ List.replicate (m - d) 0
theorem Ud_length {A : List Ax} {m d : Nat} (hA : A.length = m) (hd : d ≤ m) : (Ud A m d).length = m := by
  rw [Ud, List.length_append, List.length_map, List.length_take, List.length_replicate]; omega
theorem Ud_set {A : List Ax} {m d : Nat} {x : Ax} (hA : A.length = m) (hd : d < m) (hx : A[d]? = some x) : (Ud A m d).set d (atA x 0) = Ud A m (d + 1) := by
  have h2 : ((A.take d).map (fun a => atA a 0)).length = d := by rw [List.length_map, List.length_take]; omega
  rw [Ud, Ud, List.set_append_right _ _ (by omega), h2, Nat.sub_self, List.take_add_one, hx, show m - d = (m - (d + 1)) + 1 by omega, List.replicate_succ, List.map_append, List.append_assoc]
  rfl
theorem zipAt_zero : ∀ (A : List Ax), zipAt A (List.replicate A.length 0) = A.map fun a => atA a 0
  | [] => rfl
  | a :: A => by
    have ih := zipAt_zero A
    rw [List.length_cons, List.replicate_succ, List.map_cons, ← ih]
    rfl
theorem Ud_all {A : List Ax} {m : Nat} (hA : A.length = m) : Ud A m m = tupA A 0 := by
  rw [tupA_eq, dig_zero, List.length_map, zipAt_zero, Ud, List.take_of_length_le (by omega), Nat.sub_self]
  simp

set_option maxHeartbeats 16000000 in
theorem tuples_gives (gb : Nat) (ao : Option Addr) (m cap : Nat) (A : List Ax) (w0 : World) (hc0 : w0.cell? ⟨gb, 0, none⟩ = some (.slice ao m cap)) (hA0 : Axs w0 (.slice ao m cap) A) (hAg : ∀ a ∈ A, AxG a) :
    Gives 45 #[.pointer (some ⟨gb, 0, none⟩)] (prdN (A.map lenA)) (fun k W as' => ∃ v, as' = #[v] ∧ Is W v (tupA A k)) w0 := by
  intro n l J W hb0 hst hmv hbw hY
  obtain ⟨_, _, _, e, hAl, hmc, hm4⟩ := hA0.open
  injection e with e1 e2 e3
  subst e1 e2 e3
  have hcW : W.cell? ⟨gb, 0, none⟩ = some (.slice ao m cap) := (hb0.cell (World.block_lt_of_cell? w0 _ hc0)).trans hc0
  have hne : A.any emptyB = false := by
    rw [List.any_eq_false]
    intro a ha
    have := hAg a ha
    have h1 := this.c1
    have h2 := this.b1
    simp only [emptyB, Bool.or_eq_true, decide_eq_true_eq, not_or]
    omega
  refine tup_head n l gb ao m cap A W hm4 hcW (hA0.below hb0) hne _ ?_
  intro bs bt rs rt w' hts hb
  have HAX : Hid (Axs w0 (.slice ao m cap) A) := hA0
  have HC0 : Hid _ := hc0
  have HB0 : Hid (Below w0.heap.size w0 W) := hb0
  have HAG : Hid _ := hAg
  have HAL : Hid _ := hAl
  have HST : Hid (∀ w2, Below W.heap.size W w2 → J w2.heap.size 0 w2) := hst
  have HMV : Hid _ := hmv
  have HBW : Hid _ := hbw
  have HY : Hid _ := hY
  have HTS : Hid (TS w' W.heap.size bs bt rs rt (List.replicate m 0) (List.replicate m 0)) := hts
  have HB : Hid (Below W.heap.size W w') := hb
  have hcw : w'.cell? ⟨gb, 0, none⟩ = some (.slice ao m cap) := (hb.cell (World.block_lt_of_cell? W _ hcW)).trans hcW
  have HD : Hid (Fence.wide.depth.isSome = true → 1 ≤ n) := fun h => by simp [Fence.wide] at h
  clear hst hmv hbw hY hb0 hc0 hA0 hAg hAl hts hb hcW hne
  simp only [restOf, Try.f45, Option.getD]
  refine wpIn_seq ?_
  refine wpIn_mono (Q := onN fun a2 w2 => ∃ (u5 u6 u17 u18 u19 u20 u21 u22 u23 u24 u25 u26 u27 u28 u29 : Value), a2 = { tmps := #[.func (.yield l) #[] #[], .pointer (some ⟨gb, 0, none⟩), undef, .pointer (some ⟨bs, 0, none⟩), .pointer (some ⟨bt, 0, none⟩), u5, u6, undef, undef, .slice ao m cap, .bool false, .slice ao m cap, .int .i64 (m : Int), .slice (some ⟨rs, 0, none⟩) m m, .slice ao m cap, .int .i64 (m : Int), .slice (some ⟨rt, 0, none⟩) m m, u17, u18, u19, u20, u21, u22, u23, u24, u25, u26, u27, u28, u29, undef, undef, undef, undef, undef, undef, undef, undef, undef, undef, undef, undef, undef, undef, undef, undef, undef, undef, undef, undef, undef, undef, undef, undef, undef, undef, undef, undef, undef, undef, undef, undef, undef, undef, undef, undef, undef], defers := [] } ∧ TS w2 W.heap.size bs bt rs rt (List.replicate m 0) (tupA A 0) ∧ Below W.heap.size W w2) ?_ ?_
  · gi_wp2
    gi_loopw [19] (fun i wr => ∃ d : Nat, i = .int .i64 (d : Int) ∧ d ≤ m ∧ Hid (TS wr W.heap.size bs bt rs rt (List.replicate m 0) (Ud A m d)) ∧ Hid (Below W.heap.size W wr)) (fun i _ => m - (intOf i).toNat)
    case atStart => exact ⟨0, rfl, by omega, by rw [Hid, Ud]; simpa using HTS.out, HB.out⟩
    case round =>
      obtain ⟨d, rfl, hd, HT, HBR⟩ := hrel
      by_cases hlt : d < m
      · obtain ⟨g, o, x, rfl, hx, hok, c0, c1, c2, c3⟩ := ((HAX.out.below HB0.out).below HBR.out).at hlt
        have HX : Hid (AxG x) := HAG.out x (List.mem_of_getElem? hx)
        have HXX : Hid (A[d]? = some x) := hx
        obtain ⟨ba, HBA⟩ : ∃ ba, Hid (wr.heap.size = ba) := ⟨_, rfl⟩
        obtain ⟨wa, hwa, hba, hsa, hga⟩ := alloc_facts wr (.cells #[.int .i64 x.st, .int .i64 x.sd, .int .i64 x.ct, .int .i64 x.bl] 71)
        have HBA2 : Hid (Below W.heap.size W wa) := HBR.out.trans (hba.mono HBR.out.size)
        have HHD : Hid (Hd wa W.heap.size bs bt rs rt ba m x (List.replicate m 0) (Ud A m d)) := by
          have hl := HT.out.lt
          refine ⟨HT.out.keep (Keep.of_below hba), by rw [← HBA.out]; exact hga, by simp, Ud_length HAL.out (by omega), ?_⟩
          have := HBA.out
          omega
        have hdm : (d : Int) < (m : Int) := by omega
        clear hba hsa hga hok hx
        gi_wp2
        rw [HBA.out]
        refine wpIn_mono (Q := onN fun a5 w5 => (∃ (u24 u25 u26 u27 u28 : Value), a5 = { tmps := #[.func (.yield l) #[] #[], .pointer (some ⟨gb, 0, none⟩), undef, .pointer (some ⟨bs, 0, none⟩), .pointer (some ⟨bt, 0, none⟩), .int .i64 (d : Int), .pointer (some ⟨ba, 0, none⟩), undef, undef, .slice (some ⟨g, o, none⟩) m cap, .bool false, .slice (some ⟨g, o, none⟩) m cap, .int .i64 (m : Int), .slice (some ⟨rs, 0, none⟩) m m, .slice (some ⟨g, o, none⟩) m cap, .int .i64 (m : Int), .slice (some ⟨rt, 0, none⟩) m m, .slice (some ⟨g, o, none⟩) m cap, .int .i64 (m : Int), .int .i64 (d : Int), .bool true, .int .i64 (d : Int), .pointer (some ⟨g, o + d * 4, none⟩), .agg #[.int .i64 x.st, .int .i64 x.sd, .int .i64 x.ct, .int .i64 x.bl], u24, u25, u26, u27, u28, u29, undef, undef, undef, undef, undef, undef, undef, undef, undef, undef, undef, undef, undef, undef, undef, undef, undef, undef, undef, undef, undef, undef, undef, undef, undef, undef, undef, undef, undef, undef, undef, undef, undef, undef, undef, undef, undef], defers := [] }) ∧ TS w5 W.heap.size bs bt rs rt (List.replicate m 0) (Ud A m (d + 1)) ∧ Below W.heap.size W w5) (wpIn_wide.2 ?_) ?_
        · have HS : Hid (∀ w9, Below wa.heap.size wa w9 → w9.cell? ⟨bt, 0, none⟩ = some (.slice (some ⟨rt, 0, none⟩) m m) ∧ w9.cell? ⟨ba, 0, none⟩ = some (.int .i64 x.st) ∧ w9.cell? ⟨ba, 1, none⟩ = some (.int .i64 x.sd) ∧ w9.cell? ⟨ba, 2, none⟩ = some (.int .i64 x.ct) ∧ w9.cell? ⟨ba, 3, none⟩ = some (.int .i64 x.bl)) := fun w9 hb => by
            have h9 := HHD.out.below hb
            obtain ⟨q1, q2, q3, q4, q5, q6⟩ := ts_cells h9.ts h9.hm h9.hu
            obtain ⟨a0, a1, a2, a3⟩ := ax_cells h9.ax
            exact ⟨q2, a0, a1, a2, a3⟩
          have hD : Below wa.heap.size wa wa.drew := (Below.refl _ _).drew
          refine wp_region_L (S := fun w9 => w9.cell? ⟨bt, 0, none⟩ = some (.slice (some ⟨rt, 0, none⟩) m m) ∧ w9.cell? ⟨ba, 0, none⟩ = some (.int .i64 x.st) ∧ w9.cell? ⟨ba, 1, none⟩ = some (.int .i64 x.sd) ∧ w9.cell? ⟨ba, 2, none⟩ = some (.int .i64 x.ct) ∧ w9.cell? ⟨ba, 3, none⟩ = some (.int .i64 x.bl)) 5 (by kernel_rfl) (HS.out _ hD) (fun hHeld => ?_)
          refine GoL.takeD (some 24) (i := 0) (v := ?_) rfl rfl (by kernel_rfl) (by kernel_rfl) (by kernel_rfl) (by decide) (fun _ _ _ h => h) (Or.inl ⟨by rfl, ?_⟩) (by assumption) ?_
          rotate_left 1
          · intro w9 hSw
            (try dsimp only at hSw)
            (try obtain ⟨hSa, hSb, hSc, hSd, hSe⟩ := hSw)
            go_simp
            try with_reducible rfl
          try simp only [Act.put, List.setIfInBounds_toArray, List.set_cons_zero, List.set_cons_succ]
          refine GoL.takeD (some 25) (i := 1) (v := ?_) rfl rfl (by kernel_rfl) (by kernel_rfl) (by kernel_rfl) (by decide) (fun _ _ _ h => h) (Or.inl ⟨by rfl, ?_⟩) (by assumption) ?_
          rotate_left 1
          · intro w9 hSw
            (try dsimp only at hSw)
            (try obtain ⟨hSa, hSb, hSc, hSd, hSe⟩ := hSw)
            go_simp
            try with_reducible rfl
          try simp only [Act.put, List.setIfInBounds_toArray, List.set_cons_zero, List.set_cons_succ]
          refine GoL.takeD (some 26) (i := 2) (v := ?_) rfl rfl (by kernel_rfl) (by kernel_rfl) (by kernel_rfl) (by decide) (fun _ _ _ h => h) (Or.inl ⟨by rfl, ?_⟩) (by assumption) ?_
          rotate_left 1
          · intro w9 hSw
            (try dsimp only at hSw)
            (try obtain ⟨hSa, hSb, hSc, hSd, hSe⟩ := hSw)
            go_simp
            try with_reducible rfl
          try simp only [Act.put, List.setIfInBounds_toArray, List.set_cons_zero, List.set_cons_succ]
          refine GoL.ready (rs := [3]) (by kernel_rfl) (by simp) (by decide) (AllL.cons rfl (fun K hK => ?_) AllL.nil)
          refine step_call rfl 48 (enters_of Try.func48 (by kernel_rfl) rfl) #[.tmp 26, .const (.int .i64 0)] _ rfl #[.agg #[.int .i64 x.st, .int .i64 x.sd, .int .i64 x.ct, .int .i64 x.bl], .int .i64 0] (by go_simp) (fun v w5 => v = .int .i64 (atA x 0) ∧ Below wa.heap.size wa w5) (Calls.mono (show Calls Try.prog 48 #[axV x, .int .i64 0] wa.drew _ from at_good x 0 wa.drew HX.out HX.out.len.2.1) (by rintro e w5 ⟨rfl, hb⟩; exact ⟨_, rfl, rfl, by rw [hb]; exact below_undrew (((Below.refl _ _).alloc (Nat.le_refl _) _).drew)⟩)) ?_
          rintro v w5 ⟨rfl, hb5⟩
          have e5 := HS.out w5 hb5
          have HB5 : Hid _ := hb5
          clear hb5 hHeld
          refine hK.out _ _ e5 (fun hHeld => ?_)
          clear hK K
          show GoL _ _ _ _ _ _ _ _ (Act.put _ (some 27) (.int .i64 (atA x 0))) _
          simp only [Act.put, List.setIfInBounds_toArray, List.set_cons_zero, List.set_cons_succ]
          refine GoL.takeD (some 28) (i := 4) (v := ?_) rfl rfl (by kernel_rfl) (by kernel_rfl) (by kernel_rfl) (by decide) (fun _ _ _ h => h) (Or.inl ⟨by rfl, ?_⟩) (by assumption) ?_
          rotate_left 1
          · intro w9 hSw
            (try dsimp only at hSw)
            (try obtain ⟨hSa, hSb, hSc, hSd, hSe⟩ := hSw)
            go_simp
            try with_reducible rfl
          try simp only [Act.put, List.setIfInBounds_toArray, List.set_cons_zero, List.set_cons_succ]
          refine GoL.last (by kernel_rfl) (by kernel_rfl) rfl (fun K hK => ?_)
          have HH5 : Hid _ := HHD.out.below HB5.out
          obtain ⟨q1, q2, q3, q4, q5, q6⟩ := ts_cells HH5.out.ts HH5.out.hm HH5.out.hu
          obtain ⟨uj, huj⟩ : ∃ uj, (Ud A m d)[d]? = some uj := ⟨(Ud A m d)[d]'(by rw [HH5.out.hu]; exact hlt), List.getElem?_eq_getElem _⟩
          have q7 := q4 d uj huj
          have q8 := q6 d
          clear q1 q2 q3 q4 q5 q6 huj
          go_simp
          refine hK.out _ _ ?_
          refine ⟨⟨_, _, _, _, _, rfl⟩, ?_, ?_⟩
          · rw [← Ud_set HAL.out hlt HXX.out]
            exact HH5.out.ts.setT d _
          · have hb9 : Below W.heap.size W w5 := HBA2.out.trans (HB5.out.mono HBA2.out.size)
            exact hb9.setCell (by have := HH5.out.ts.b1; simp only []; omega) _
        intro e a5 w5 he
        cases e with
        | exit id => exact he.elim
        | goto t => exact he.elim
        | ret => exact he.elim
        | panic ch => exact he.elim
        | outgrown => exact he.elim
        | normal =>
          obtain ⟨⟨v24, v25, v26, v27, v28, rfl⟩, ht5, hb5⟩ := he
          have HT5 : Hid _ := ht5
          have HB5 : Hid _ := hb5
          clear ht5 hb5
          gi_wp2
          go_roundw
          case rel => exact ⟨d + 1, by simp, by omega, HT5.out, HB5.out⟩
          case measure => simp [intOf]; omega
      · obtain rfl : d = m := by omega
        gi_wp2
        refine ⟨⟨_, _, _, _, _, _, _, _, _, _, _, _, _, _, _, rfl⟩, ?_, HBR.out⟩
        rw [← Ud_all HAL.out]
        exact HT.out
  intro e a2 w2 he
  cases e with
  | exit id => exact he.elim
  | goto t => exact he.elim
  | ret => exact he.elim
  | panic ch => exact he.elim
  | outgrown => exact he.elim
  | normal =>
    obtain ⟨v5, v6, v17, v18, v19, v20, v21, v22, v23, v24, v25, v26, v27, v28, v29, rfl, ht2, hb2⟩ := he
    refine wpIn_seq (wpIn_label ?_)
    have hl2 := ht2.lt
    refine tup_loop n l gb ao m cap A w0 W.heap.size w2.heap.size bs bt rs rt J _ w2 hm4 HAL.out HAG.out (HST.out w2 hb2) HMV.out ?_ ?_ ?_ hb2.size (Nat.le_refl _) hl2 ?_ _ _ _ _ _ _ _ _ _ _ _ _ _ _ _ _ _ _ _ _ _ _ _ _ _ _ _ _ _ _ _ _ _ _ _ _ _ _ _ _ _ _ _ _ _ _ _ _ _ _ _ _ _ _ _ _ _ _ _ _ _ _ _
    · intro k W1 hj
      have hbj := HBW.out _ _ _ hj
      exact ⟨(hbj.cell (World.block_lt_of_cell? w0 _ HC0.out)).trans HC0.out, HAX.out.below hbj⟩
    · intro k W1 v hk hj hs hi
      exact HY.out _ k W1 _ hk hj hb2.size hs ⟨v, rfl, hi⟩
    · intro W1 hj
      exact ⟨⟨_, rfl⟩, _, hj⟩
    · rw [dig_zero, List.length_map, HAL.out]
      exact ht2
theorem tuples_none (gb : Nat) (ao : Option Addr) (m cap : Nat) (A : List Ax) (w0 : World) (hc0 : w0.cell? ⟨gb, 0, none⟩ = some (.slice ao m cap)) (hA0 : Axs w0 (.slice ao m cap) A) (hAe : A.any emptyB = true) (Arg : Nat → World → Array Value → Prop) :
    Gives 45 #[.pointer (some ⟨gb, 0, none⟩)] 0 Arg w0 := by
  intro n l J W hb0 hst hmv hbw hY
  have hcW : W.cell? ⟨gb, 0, none⟩ = some (.slice ao m cap) := (hb0.cell (World.block_lt_of_cell? w0 _ hc0)).trans hc0
  have HA : Hid (Calls Try.prog 46 #[.slice ao m cap, .func (.func 47) #[] #[]] W fun e w' => e = .returned (.bool true) ∧ Below W.heap.size W w') := by
    have := hasA_any W _ A (hA0.below hb0)
    rwa [hAe] at this
  have HD : Hid (Fence.wide.depth.isSome = true → 1 ≤ n) := fun h => by simp [Fence.wide] at h
  have HST : Hid _ := hst
  clear hst hmv hbw hY hb0 hc0 hA0 hAe
  refine callsIn_of_wp_marks Try.func45 rfl trivial ?_ rfl
  simp only [Try.ntmps45, List.size_toArray, List.length_cons, List.length_nil, Nat.reduceAdd, Nat.reduceSub, Array.replicate_succ, Array.replicate_zero, List.push_toArray, List.append_toArray, List.nil_append, List.cons_append]
  refine wpIn_wide.2 (wp_scope_straight ((wpIn_wide (n := n)).1 ?_))
  gi_wp2_with (refine ⟨trivial, HD.out, ?_⟩; refine (callsIn_wide.2 HA.out).mono ?_; rintro e w1 ⟨rfl, hb1⟩; have HB1 : Hid (Below W.heap.size W w1) := hb1; clear hb1)
  exact ⟨_, results_none rfl _ _ _, ⟨_, rfl⟩, _, HST.out _ HB1.out⟩
end Go.Proofs.Ytnikbcljonbpcaa

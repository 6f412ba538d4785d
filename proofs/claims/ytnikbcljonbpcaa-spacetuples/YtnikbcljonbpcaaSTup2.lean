/-
  One round of the loop over the dimensions, from the last one on. Conditions: the axis' numbers fit.
-/
import Derived.Test.YtnikbcljonbpcaaSTup1
namespace Go.Proofs.Ytnikbcljonbpcaa
open Go.RowKit Go.Sort Go.Shelf Go.Lib
set_option linter.unusedVariables false
set_option maxRecDepth 100000
attribute [local go_sem] Oper.semAt_some

theorem step_call {ops : Array Oper} {o : Oper} {a : Act} {w : World} {K : Act → World → Prop} {Q : Exit → Act → World → Prop} {E : Prop}
    (hg : o.guard = none) (f : FuncId) (he : ∀ args w, (callFunc f args).run Try.prog w = .ok (.enter f args) w) (xs : Array Operand) (ts : Array TypeId) (hop : o.op = Op.call { callee := Callee.value (Operand.func f), args := xs, argTypes := ts })
    (vs : Array Value) (hev : xs.map a.eval = vs) (R : Value → World → Prop) (hC : Calls Try.prog f vs w fun e w' => ∃ v, e = .returned v ∧ R v w') (hK : ∀ v w', R v w' → K (a.put o.dst v) w') :
    if Region.wanted o (yielded ops a.tmps) = true then Oper.wp Try.prog o a w K Q else E := by
  have hw : Region.wanted o (yielded ops a.tmps) = true := by simp [Region.wanted, hg]
  rw [if_pos hw]
  have hf : a.eval (Operand.func f) = .func (.func f) #[] #[] := rfl
  have hev' : xs.map (fun x => a.eval x) = vs := hev
  unfold Oper.wp
  simp [execOp, hop, resolve, invoke, hev', hf, Oper.upon, Deferred.ofValue, he]
  refine hC.mono ?_
  rintro e w' ⟨v, rfl, h2⟩
  exact hK v w' h2
theorem wpIn_region_L {P : Program} {ops : Array Oper} {Q : Exit → Act → World → Prop} {S : World → Prop} {id k q : Nat} {a : Act} {w : World} (n : Nat) (hm : P.follows .mixedOrders = true) (hnd : noDefer ops = true) (hq : ¬ LetsOut Q) (hS : S w.drew)
    (h : S w.drew → GoL P .any ops Q S n ops.size (Array.replicate ops.size false) a w.drew) : (Code.region id ops true).wpIn (Fence.wide.inRound k) q P Q a w :=
  wpIn_region_any hm (anyIn_of (noDefer_spec hnd) hq _ _ _ _ (any_of_L _ _ _ _ (h hS ⟨by simp, fun j oj hj hl => (by rw [getD_replicate_false] at hl; cases hl), fun t ht ht' => by simp [ht']⟩)))
/-- How a round of the inner loop is left. -/
def bodyQ (W2 : World) (B0 bs bt rs rt j : Nat) (x : Ax) (t : Nat) (T : List Nat) (U : List Int) : Exit → Act → World → Prop
  | .normal, _, W3 => ¬ t + 1 < lenA x ∧ TS W3 B0 bs bt rs rt (T.set j 0) (U.set j (atA x 0)) ∧ Kp (fun y => y = rs ∨ y = rt) W2 W3
  | .exit e, _, W3 => e = 3 ∧ t + 1 < lenA x ∧ TS W3 B0 bs bt rs rt (T.set j (t + 1)) (U.set j (atA x (t + 1))) ∧ Kp (fun y => y = rs ∨ y = rt) W2 W3
  | _, _, _ => False
/-- What the loads of a region find. -/
theorem ts_cells {w : World} {B0 bs bt rs rt m : Nat} {T : List Nat} {U : List Int} (h : TS w B0 bs bt rs rt T U) (hm : T.length = m) (hu : U.length = m) : w.cell? ⟨bs, 0, none⟩ = some (.slice (some ⟨rs, 0, none⟩) m m) ∧ w.cell? ⟨bt, 0, none⟩ = some (.slice (some ⟨rt, 0, none⟩) m m) ∧ (∀ (j t : Nat), T[j]? = some t → w.cell? ⟨rs, j, none⟩ = some (.int .i64 (t : Int))) ∧ (∀ j u, U[j]? = some u → w.cell? ⟨rt, j, none⟩ = some (.int .i64 u)) ∧ (∀ j, w.frozen? ⟨rs, j, none⟩ = false) ∧ (∀ j, w.frozen? ⟨rt, j, none⟩ = false) := by
  have h1 := h.cs
  have h2 := h.ct
  rw [hm] at h1
  rw [hu] at h2
  refine ⟨cell_of_row w bs 0 _ _ _ h1, cell_of_row w bt 0 _ _ _ h2, fun j t ht => ?_, fun j u hu => ?_, fun j => by simp [World.frozen?, h.ss], fun j => by simp [World.frozen?, h.tt]⟩
  · rw [cell_of_row w rs j _ _ _ h.ss]; simp [ht]
  · rw [cell_of_row w rt j _ _ _ h.tt]; simp [hu]
theorem ax_cells {w : World} {ba : Nat} {x : Ax} (h : w.heap[ba]? = some (.cells #[.int .i64 x.st, .int .i64 x.sd, .int .i64 x.ct, .int .i64 x.bl] 71 (0, 0))) : w.cell? ⟨ba, 0, none⟩ = some (.int .i64 x.st) ∧ w.cell? ⟨ba, 1, none⟩ = some (.int .i64 x.sd) ∧ w.cell? ⟨ba, 2, none⟩ = some (.int .i64 x.ct) ∧ w.cell? ⟨ba, 3, none⟩ = some (.int .i64 x.bl) :=
  ⟨cell_of_row w ba 0 _ _ _ h, cell_of_row w ba 1 _ _ _ h, cell_of_row w ba 2 _ _ _ h, cell_of_row w ba 3 _ _ _ h⟩
/-- All that the loads want of a world. -/
structure Hd (w : World) (B0 bs bt rs rt ba m : Nat) (x : Ax) (T : List Nat) (U : List Int) : Prop where
  ts : TS w B0 bs bt rs rt T U
  ax : w.heap[ba]? = some (.cells #[.int .i64 x.st, .int .i64 x.sd, .int .i64 x.ct, .int .i64 x.bl] 71 (0, 0))
  hm : T.length = m
  hu : U.length = m
  ne : ba ≠ rs ∧ ba ≠ rt
theorem Hd.below {w w' : World} {B0 bs bt rs rt ba m : Nat} {x : Ax} {T : List Nat} {U : List Int} (h : Hd w B0 bs bt rs rt ba m x T U) (hb : Below w.heap.size w w') : Hd w' B0 bs bt rs rt ba m x T U :=
  ⟨h.ts.keep (Keep.of_below hb), (hb.block _ (Array.getElem?_eq_some_iff.1 h.ax).1).trans h.ax, h.hm, h.hu, h.ne⟩
theorem Hd.setS {w : World} {B0 bs bt rs rt ba m : Nat} {x : Ax} {T : List Nat} {U : List Int} (h : Hd w B0 bs bt rs rt ba m x T U) (j t : Nat) : Hd (w.setCell ⟨rs, j, none⟩ (.int .i64 (t : Int))) B0 bs bt rs rt ba m x (T.set j t) U :=
  ⟨h.ts.setS j t, (Below.heap_setCell _ _ _ _ (by simpa using h.ne.1)).trans h.ax, by rw [List.length_set]; exact h.hm, h.hu, h.ne⟩

set_option maxHeartbeats 32000000 in
theorem tup_body (k n B0 bs bt rs rt ba m j t : Nat) (x : Ax) (T : List Nat) (U : List Int) (u0 u1 u2 u5 u6 u9 u10 u11 u12 u13 u14 u15 u16 u17 u18 u19 u20 u21 u22 u23 u24 u25 u26 u27 u28 u29 u30 u31 u32 u33 u34 u35 u36 u37 u38 u39 u40 u41 u42 u43 u44 u45 u46 u47 u48 u49 u50 u51 u52 u53 u54 u55 u56 u57 u58 u59 u60 u61 u62 u63 u64 u65 u66 : Value) (W2 : World) (hH : Hd W2 B0 bs bt rs rt ba m x T U) (hT : T[j]? = some t) (hj : j < m) (hx : AxG x) (ht : t < lenA x) :
    (bodyOf (restOf (Try.f45.body.getD .skip))).wpIn (Fence.wide.inRound k) n Try.prog (bodyQ W2 B0 bs bt rs rt j x t T U) { tmps := #[u0, u1, u2, .pointer (some ⟨bs, 0, none⟩), .pointer (some ⟨bt, 0, none⟩), u5, u6, .int .i64 (j : Int), .pointer (some ⟨ba, 0, none⟩), u9, u10, u11, u12, u13, u14, u15, u16, u17, u18, u19, u20, u21, u22, u23, u24, u25, u26, u27, u28, u29, u30, u31, u32, u33, u34, u35, u36, u37, u38, u39, u40, u41, u42, u43, u44, u45, u46, u47, u48, u49, u50, u51, u52, u53, u54, u55, u56, u57, u58, u59, u60, u61, u62, u63, u64, u65, u66], defers := [] } W2 := by
  have HH : Hid (Hd W2 B0 bs bt rs rt ba m x T U) := hH
  have HX : Hid (AxG x) := hx
  obtain ⟨c1, c2, c3, c4, f1, f2⟩ := ts_cells hH.ts hH.hm hH.hu
  have c5 := c3 j t hT
  have f3 := f1 j
  obtain ⟨hl1, hl2, hl3⟩ := hx.len
  have ht1 : (t : Int) + 1 ≤ 4096 := by omega
  have hjm : (j : Int) < (m : Int) := by omega
  have hw1 : IntKind.i64.wrap ((t : Int) + 1) = (t : Int) + 1 := wrap_i64_in _ (by omega) (by omega)
  obtain ⟨W3, hW3⟩ : ∃ W3, W2.setCell ⟨rs, j, none⟩ (.int .i64 ((t : Int) + 1)) = W3 := ⟨_, rfl⟩
  have HH3 : Hid (Hd W3 B0 bs bt rs rt ba m x (T.set j (t + 1)) U) := by
    have := hH.setS j (t + 1)
    rw [show (((t + 1 : Nat) : Int)) = (t : Int) + 1 by omega, hW3] at this
    exact this
  have HT3 : Hid ((T.set j (t + 1))[j]? = some (t + 1)) := by rw [Hid, List.getElem?_set_self (by rw [hH.hm]; exact hj)]
  have HK3 : Hid (Kp (fun y => y = rs ∨ y = rt) W2 W3) := by rw [← hW3]; exact (Kp.refl _ W2).setCell _ (fun _ => .inl rfl)
  have HLN : Hid (((lenA x : Nat) : Int) = x.ct * x.bl) := hl1
  have HTS : Hid ((T.set j (t + 1)).set j 0 = T.set j 0) := by rw [Hid, List.set_set]
  clear c3 c4 f1 f2 hH hx hT hl1
  simp only [bodyOf, restOf, Try.f45, Option.getD]
  refine wpIn_block ?_
  gi_wp2
  clear c1 c2 c5 f3 hW3
  have HS3 : Hid (∀ w9, Below W3.heap.size W3 w9 → w9.cell? ⟨bs, 0, none⟩ = some (.slice (some ⟨rs, 0, none⟩) m m) ∧ w9.cell? ⟨bt, 0, none⟩ = some (.slice (some ⟨rt, 0, none⟩) m m) ∧ w9.cell? ⟨ba, 0, none⟩ = some (.int .i64 x.st) ∧ w9.cell? ⟨ba, 1, none⟩ = some (.int .i64 x.sd) ∧ w9.cell? ⟨ba, 2, none⟩ = some (.int .i64 x.ct) ∧ w9.cell? ⟨ba, 3, none⟩ = some (.int .i64 x.bl) ∧ w9.cell? ⟨rs, j, none⟩ = some (.int .i64 ((t : Int) + 1))) := fun w9 hb => by
    have h9 := HH3.out.below hb
    obtain ⟨c1, c2, c3, c4, f1, f2⟩ := ts_cells h9.ts h9.hm h9.hu
    obtain ⟨a0, a1, a2, a3⟩ := ax_cells h9.ax
    exact ⟨c1, c2, a0, a1, a2, a3, by have := c3 j _ HT3.out; simpa using this⟩

  refine wpIn_mono (Q := onN fun a' w' => Below W3.heap.size W3 w' ∧ a' = { tmps := #[u0, u1, u2, .pointer (some ⟨bs, 0, none⟩), .pointer (some ⟨bt, 0, none⟩), u5, u6, .int .i64 (j : Int), .pointer (some ⟨ba, 0, none⟩), u9, u10, u11, u12, u13, u14, u15, u16, u17, u18, u19, u20, u21, u22, u23, u24, u25, u26, u27, u28, u29, u30, u31, u32, u33, u34, u35, u36, .slice (some ⟨rs, 0, none⟩) m m, .int .i64 (j : Int), .pointer (some ⟨rs, j, none⟩), .int .i64 (t : Int), .int .i64 ((t : Int) + 1), .pointer (some ⟨rs, j, none⟩), .slice (some ⟨rs, 0, none⟩) m m, .int .i64 (j : Int), .pointer (some ⟨rs, j, none⟩), .int .i64 ((t : Int) + 1), .agg #[.int .i64 x.st, .int .i64 x.sd, .int .i64 x.ct, .int .i64 x.bl], .int .i64 (x.ct * x.bl), .bool (decide ((t : Int) + 1 < x.ct * x.bl)), u50, u51, u52, u53, u54, u55, u56, u57, u58, u59, u60, u61, u62, u63, u64, u65, u66], defers := [] }) ?_ ?_
  · have hD : Below W3.heap.size W3 W3.drew := (Below.refl _ _).drew
    refine wpIn_region_L (S := fun w9 => w9.cell? ⟨bs, 0, none⟩ = some (.slice (some ⟨rs, 0, none⟩) m m) ∧ w9.cell? ⟨bt, 0, none⟩ = some (.slice (some ⟨rt, 0, none⟩) m m) ∧ w9.cell? ⟨ba, 0, none⟩ = some (.int .i64 x.st) ∧ w9.cell? ⟨ba, 1, none⟩ = some (.int .i64 x.sd) ∧ w9.cell? ⟨ba, 2, none⟩ = some (.int .i64 x.ct) ∧ w9.cell? ⟨ba, 3, none⟩ = some (.int .i64 x.bl) ∧ w9.cell? ⟨rs, j, none⟩ = some (.int .i64 ((t : Int) + 1))) 6 (by kernel_rfl) (by kernel_rfl) (onN_lets _) (HS3.out _ hD) (fun hHeld => ?_)
    refine GoL.takeD (some 43) (i := 0) (v := ?_) rfl rfl (by kernel_rfl) (by kernel_rfl) (by kernel_rfl) (by decide) (fun _ _ _ h => h) (Or.inl ⟨by rfl, ?_⟩) (by assumption) ?_
    rotate_left 1
    · intro w9 hSw
      (try dsimp only at hSw)
      (try obtain ⟨hSa, hSb, hSc, hSd, hSe, hSf, hSg⟩ := hSw)
      go_simp
      try with_reducible rfl
    try simp only [Act.put, List.setIfInBounds_toArray, List.set_cons_zero, List.set_cons_succ]
    refine GoL.takeD (some 44) (i := 1) (v := ?_) rfl rfl (by kernel_rfl) (by kernel_rfl) (by kernel_rfl) (by decide) (fun _ _ _ h => h) (Or.inl ⟨by rfl, ?_⟩) (by assumption) ?_
    rotate_left 1
    · intro w9 hSw
      (try dsimp only at hSw)
      (try obtain ⟨hSa, hSb, hSc, hSd, hSe, hSf, hSg⟩ := hSw)
      go_simp
      try with_reducible rfl
    try simp only [Act.put, List.setIfInBounds_toArray, List.set_cons_zero, List.set_cons_succ]
    refine GoL.takeD (some 45) (i := 2) (v := ?_) rfl rfl (by kernel_rfl) (by kernel_rfl) (by kernel_rfl) (by decide) (fun _ _ _ h => h) (Or.inl ⟨by rfl, ?_⟩) (by assumption) ?_
    rotate_left 1
    · intro w9 hSw
      (try dsimp only at hSw)
      (try obtain ⟨hSa, hSb, hSc, hSd, hSe, hSf, hSg⟩ := hSw)
      go_simp
      try with_reducible rfl
    try simp only [Act.put, List.setIfInBounds_toArray, List.set_cons_zero, List.set_cons_succ]
    refine GoL.takeD (some 46) (i := 3) (v := ?_) rfl rfl (by kernel_rfl) (by kernel_rfl) (by kernel_rfl) (by decide) (fun _ _ _ h => h) (Or.inl ⟨by rfl, ?_⟩) (by assumption) ?_
    rotate_left 1
    · intro w9 hSw
      (try dsimp only at hSw)
      (try obtain ⟨hSa, hSb, hSc, hSd, hSe, hSf, hSg⟩ := hSw)
      go_simp
      try with_reducible rfl
    try simp only [Act.put, List.setIfInBounds_toArray, List.set_cons_zero, List.set_cons_succ]
    refine GoL.takeD (some 47) (i := 4) (v := ?_) rfl rfl (by kernel_rfl) (by kernel_rfl) (by kernel_rfl) (by decide) (fun _ _ _ h => h) (Or.inl ⟨by rfl, ?_⟩) (by assumption) ?_
    rotate_left 1
    · intro w9 hSw
      (try dsimp only at hSw)
      (try obtain ⟨hSa, hSb, hSc, hSd, hSe, hSf, hSg⟩ := hSw)
      go_simp
      try with_reducible rfl
    try simp only [Act.put, List.setIfInBounds_toArray, List.set_cons_zero, List.set_cons_succ]
    refine GoL.ready (rs := [5]) (by kernel_rfl) (by simp) (by decide) (AllL.cons rfl (fun K hK => ?_) AllL.nil)
    refine step_call rfl 50 (enters_of Try.func50 (by kernel_rfl) rfl) #[.tmp 47] _ rfl #[.agg #[.int .i64 x.st, .int .i64 x.sd, .int .i64 x.ct, .int .i64 x.bl]] (by go_simp) (fun v w' => v = .int .i64 (x.ct * x.bl) ∧ Below W3.heap.size W3 w') (Calls.mono (alen_any x W3.drew (by have := HLN.out; omega) (by have := HLN.out; omega)) (by rintro e w' ⟨rfl, hb⟩; exact ⟨_, rfl, rfl, below_undrew hb⟩)) ?_
    rintro v w4 ⟨rfl, hb4⟩
    have e4 := HS3.out w4 hb4
    have HB4 : Hid _ := hb4
    clear hb4 hHeld
    refine hK.out _ _ e4 (fun hHeld => ?_)
    clear hK K
    show GoL _ _ _ _ _ _ _ _ (Act.put _ (some 48) (.int .i64 (x.ct * x.bl))) _
    simp only [Act.put, List.setIfInBounds_toArray, List.set_cons_zero, List.set_cons_succ]
    refine GoL.last (by kernel_rfl) (by kernel_rfl) rfl (fun K hK => ?_)
    go_simp
    refine hK.out _ _ ?_
    exact ⟨HB4.out, rfl⟩
  intro e a' w' he
  cases e with
  | exit id => exact he.elim
  | goto t => exact he.elim
  | ret => exact he.elim
  | panic ch => exact he.elim
  | outgrown => exact he.elim
  | normal =>
    obtain ⟨hb4, rfl⟩ := he
    have HB4 : Hid (Below W3.heap.size W3 w') := hb4
    have HH4 : Hid (Hd w' B0 bs bt rs rt ba m x (T.set j (t + 1)) U) := HH3.out.below hb4
    have HK4 : Hid (Kp (fun y => y = rs ∨ y = rt) W2 w') := HK3.out.trans (Kp.of (F := fun _ => False) hb4) (fun _ _ e => e.elim)
    have HS4 : Hid (∀ w9, Below w'.heap.size w' w9 → w9.cell? ⟨bs, 0, none⟩ = some (.slice (some ⟨rs, 0, none⟩) m m) ∧ w9.cell? ⟨bt, 0, none⟩ = some (.slice (some ⟨rt, 0, none⟩) m m) ∧ w9.cell? ⟨ba, 0, none⟩ = some (.int .i64 x.st) ∧ w9.cell? ⟨ba, 1, none⟩ = some (.int .i64 x.sd) ∧ w9.cell? ⟨ba, 2, none⟩ = some (.int .i64 x.ct) ∧ w9.cell? ⟨ba, 3, none⟩ = some (.int .i64 x.bl) ∧ w9.cell? ⟨rs, j, none⟩ = some (.int .i64 ((t : Int) + 1))) := fun w9 hb => HS3.out w9 (hb4.trans (hb.mono hb4.size))
    clear hb4 HS3 HH3 HK3
    by_cases hlt : t + 1 < lenA x
    · have hdt : decide ((t : Int) + 1 < x.ct * x.bl) = true := by rw [← HLN.out]; exact decide_eq_true (by omega)
      rw [hdt]
      gi_wp2
      refine wpIn_mono (Q := onN fun a5 w5 => TS w5 B0 bs bt rs rt (T.set j (t + 1)) (U.set j (atA x (t + 1))) ∧ Kp (fun y => y = rs ∨ y = rt) W2 w5) ?_ ?_
      · have hD : Below w'.heap.size w' w'.drew := (Below.refl _ _).drew
        refine wpIn_region_L (S := fun w9 => w9.cell? ⟨bs, 0, none⟩ = some (.slice (some ⟨rs, 0, none⟩) m m) ∧ w9.cell? ⟨bt, 0, none⟩ = some (.slice (some ⟨rt, 0, none⟩) m m) ∧ w9.cell? ⟨ba, 0, none⟩ = some (.int .i64 x.st) ∧ w9.cell? ⟨ba, 1, none⟩ = some (.int .i64 x.sd) ∧ w9.cell? ⟨ba, 2, none⟩ = some (.int .i64 x.ct) ∧ w9.cell? ⟨ba, 3, none⟩ = some (.int .i64 x.bl) ∧ w9.cell? ⟨rs, j, none⟩ = some (.int .i64 ((t : Int) + 1))) 9 (by kernel_rfl) (by kernel_rfl) (onN_lets _) (HS4.out _ hD) (fun hHeld => ?_)
        refine GoL.takeD (some 50) (i := 0) (v := ?_) rfl rfl (by kernel_rfl) (by kernel_rfl) (by kernel_rfl) (by decide) (fun _ _ _ h => h) (Or.inl ⟨by rfl, ?_⟩) (by assumption) ?_
        rotate_left 1
        · intro w9 hSw
          (try dsimp only at hSw)
          (try obtain ⟨hSa, hSb, hSc, hSd, hSe, hSf, hSg⟩ := hSw)
          go_simp
          try with_reducible rfl
        try simp only [Act.put, List.setIfInBounds_toArray, List.set_cons_zero, List.set_cons_succ]
        refine GoL.takeD (some 51) (i := 1) (v := ?_) rfl rfl (by kernel_rfl) (by kernel_rfl) (by kernel_rfl) (by decide) (fun _ _ _ h => h) (Or.inl ⟨by rfl, ?_⟩) (by assumption) ?_
        rotate_left 1
        · intro w9 hSw
          (try dsimp only at hSw)
          (try obtain ⟨hSa, hSb, hSc, hSd, hSe, hSf, hSg⟩ := hSw)
          go_simp
          try with_reducible rfl
        try simp only [Act.put, List.setIfInBounds_toArray, List.set_cons_zero, List.set_cons_succ]
        refine GoL.takeD (some 52) (i := 2) (v := ?_) rfl rfl (by kernel_rfl) (by kernel_rfl) (by kernel_rfl) (by decide) (fun _ _ _ h => h) (Or.inl ⟨by rfl, ?_⟩) (by assumption) ?_
        rotate_left 1
        · intro w9 hSw
          (try dsimp only at hSw)
          (try obtain ⟨hSa, hSb, hSc, hSd, hSe, hSf, hSg⟩ := hSw)
          go_simp
          try with_reducible rfl
        try simp only [Act.put, List.setIfInBounds_toArray, List.set_cons_zero, List.set_cons_succ]
        refine GoL.takeD (some 53) (i := 3) (v := ?_) rfl rfl (by kernel_rfl) (by kernel_rfl) (by kernel_rfl) (by decide) (fun _ _ _ h => h) (Or.inl ⟨by rfl, ?_⟩) (by assumption) ?_
        rotate_left 1
        · intro w9 hSw
          (try dsimp only at hSw)
          (try obtain ⟨hSa, hSb, hSc, hSd, hSe, hSf, hSg⟩ := hSw)
          go_simp
          try with_reducible rfl
        try simp only [Act.put, List.setIfInBounds_toArray, List.set_cons_zero, List.set_cons_succ]
        refine GoL.takeD (some 54) (i := 4) (v := ?_) rfl rfl (by kernel_rfl) (by kernel_rfl) (by kernel_rfl) (by decide) (fun _ _ _ h => h) (Or.inl ⟨by rfl, ?_⟩) (by assumption) ?_
        rotate_left 1
        · intro w9 hSw
          (try dsimp only at hSw)
          (try obtain ⟨hSa, hSb, hSc, hSd, hSe, hSf, hSg⟩ := hSw)
          go_simp
          try with_reducible rfl
        try simp only [Act.put, List.setIfInBounds_toArray, List.set_cons_zero, List.set_cons_succ]
        refine GoL.takeD (some 55) (i := 5) (v := ?_) rfl rfl (by kernel_rfl) (by kernel_rfl) (by kernel_rfl) (by decide) (fun _ _ _ h => h) (Or.inl ⟨by rfl, ?_⟩) (by assumption) ?_
        rotate_left 1
        · intro w9 hSw
          (try dsimp only at hSw)
          (try obtain ⟨hSa, hSb, hSc, hSd, hSe, hSf, hSg⟩ := hSw)
          go_simp
          try with_reducible rfl
        try simp only [Act.put, List.setIfInBounds_toArray, List.set_cons_zero, List.set_cons_succ]
        refine GoL.takeD (some 56) (i := 6) (v := ?_) rfl rfl (by kernel_rfl) (by kernel_rfl) (by kernel_rfl) (by decide) (fun _ _ _ h => h) (Or.inl ⟨by rfl, ?_⟩) (by assumption) ?_
        rotate_left 1
        · intro w9 hSw
          (try dsimp only at hSw)
          (try obtain ⟨hSa, hSb, hSc, hSd, hSe, hSf, hSg⟩ := hSw)
          go_simp
          try with_reducible rfl
        try simp only [Act.put, List.setIfInBounds_toArray, List.set_cons_zero, List.set_cons_succ]
        refine GoL.ready (rs := [7]) (by kernel_rfl) (by simp) (by decide) (AllL.cons rfl (fun K hK => ?_) AllL.nil)
        refine step_call rfl 48 (enters_of Try.func48 (by kernel_rfl) rfl) #[.tmp 52, .tmp 56] _ rfl #[.agg #[.int .i64 x.st, .int .i64 x.sd, .int .i64 x.ct, .int .i64 x.bl], .int .i64 ((t : Int) + 1)] (by go_simp) (fun v w5 => v = .int .i64 (atA x (t + 1)) ∧ Below w'.heap.size w' w5) (Calls.mono (show Calls Try.prog 48 #[axV x, .int .i64 ((t : Int) + 1)] w'.drew _ from at_good x (t + 1) w'.drew HX.out hlt) (by rintro e w5 ⟨rfl, hb⟩; exact ⟨_, rfl, rfl, by rw [hb]; exact below_undrew (((Below.refl _ _).alloc (Nat.le_refl _) _).drew)⟩)) ?_
        rintro v w5 ⟨rfl, hb5⟩
        have e5 := HS4.out w5 hb5
        have HB5 : Hid _ := hb5
        clear hb5 hHeld
        refine hK.out _ _ e5 (fun hHeld => ?_)
        clear hK K
        show GoL _ _ _ _ _ _ _ _ (Act.put _ (some 57) (.int .i64 (atA x (t + 1)))) _
        simp only [Act.put, List.setIfInBounds_toArray, List.set_cons_zero, List.set_cons_succ]
        refine GoL.takeD (some 58) (i := 8) (v := ?_) rfl rfl (by kernel_rfl) (by kernel_rfl) (by kernel_rfl) (by decide) (fun _ _ _ h => h) (Or.inl ⟨by rfl, ?_⟩) (by assumption) ?_
        rotate_left 1
        · intro w9 hSw
          (try dsimp only at hSw)
          (try obtain ⟨hSa, hSb, hSc, hSd, hSe, hSf, hSg⟩ := hSw)
          go_simp
          try with_reducible rfl
        try simp only [Act.put, List.setIfInBounds_toArray, List.set_cons_zero, List.set_cons_succ]
        refine GoL.last (by kernel_rfl) (by kernel_rfl) rfl (fun K hK => ?_)
        have HH5 : Hid _ := HH4.out.below HB5.out
        obtain ⟨c1, c2, c3, c4, f1, f2⟩ := ts_cells HH5.out.ts HH5.out.hm HH5.out.hu
        obtain ⟨uj, huj⟩ : ∃ uj, U[j]? = some uj := ⟨U[j]'(by rw [HH5.out.hu]; exact hj), List.getElem?_eq_getElem _⟩
        have c5 := c4 j uj huj
        have f5 := f2 j
        clear c1 c2 c3 c4 f1 f2 huj
        go_simp
        refine hK.out _ _ ?_
        exact ⟨HH5.out.ts.setT j _, (HK4.out.trans (Kp.of (F := fun _ => False) HB5.out) (fun _ _ e => e.elim)).setCell _ (fun _ => .inr rfl)⟩
      intro e a5 w5 he
      cases e with
      | exit id => exact he.elim
      | goto t => exact he.elim
      | ret => exact he.elim
      | panic ch => exact he.elim
      | outgrown => exact he.elim
      | normal =>
        have HE : Hid _ := he
        clear he
        gi_wp2
        exact ⟨rfl, hlt, HE.out.1, HE.out.2⟩
    · have hdt : decide ((t : Int) + 1 < x.ct * x.bl) = false := by rw [← HLN.out]; exact decide_eq_false (by omega)
      rw [hdt]
      gi_wp2
      refine wpIn_mono (Q := onN fun a5 w5 => TS w5 B0 bs bt rs rt (T.set j 0) (U.set j (atA x 0)) ∧ Kp (fun y => y = rs ∨ y = rt) W2 w5) ?_ ?_
      · have hD : Below w'.heap.size w' w'.drew := (Below.refl _ _).drew
        have HS6 : Hid (∀ w9, Hd w9 B0 bs bt rs rt ba m x (T.set j (t + 1)) U ∨ Hd w9 B0 bs bt rs rt ba m x (T.set j 0) U → w9.cell? ⟨bs, 0, none⟩ = some (.slice (some ⟨rs, 0, none⟩) m m) ∧ w9.cell? ⟨bt, 0, none⟩ = some (.slice (some ⟨rt, 0, none⟩) m m) ∧ w9.cell? ⟨ba, 0, none⟩ = some (.int .i64 x.st) ∧ w9.cell? ⟨ba, 1, none⟩ = some (.int .i64 x.sd) ∧ w9.cell? ⟨ba, 2, none⟩ = some (.int .i64 x.ct) ∧ w9.cell? ⟨ba, 3, none⟩ = some (.int .i64 x.bl) ∧ True) := fun w9 hb => by
          rcases hb with h9 | h9
          · obtain ⟨c1, c2, c3, c4, f1, f2⟩ := ts_cells h9.ts h9.hm h9.hu
            obtain ⟨a0, a1, a2, a3⟩ := ax_cells h9.ax
            exact ⟨c1, c2, a0, a1, a2, a3, trivial⟩
          · obtain ⟨c1, c2, c3, c4, f1, f2⟩ := ts_cells h9.ts h9.hm h9.hu
            obtain ⟨a0, a1, a2, a3⟩ := ax_cells h9.ax
            exact ⟨c1, c2, a0, a1, a2, a3, trivial⟩
        refine wpIn_region_L (S := fun w9 => w9.cell? ⟨bs, 0, none⟩ = some (.slice (some ⟨rs, 0, none⟩) m m) ∧ w9.cell? ⟨bt, 0, none⟩ = some (.slice (some ⟨rt, 0, none⟩) m m) ∧ w9.cell? ⟨ba, 0, none⟩ = some (.int .i64 x.st) ∧ w9.cell? ⟨ba, 1, none⟩ = some (.int .i64 x.sd) ∧ w9.cell? ⟨ba, 2, none⟩ = some (.int .i64 x.ct) ∧ w9.cell? ⟨ba, 3, none⟩ = some (.int .i64 x.bl) ∧ True) 9 (by kernel_rfl) (by kernel_rfl) (onN_lets _) (HS6.out _ (.inl (HH4.out.below hD))) (fun hHeld => ?_)
        refine GoL.takeD (some 59) (i := 0) (v := ?_) rfl rfl (by kernel_rfl) (by kernel_rfl) (by kernel_rfl) (by decide) (fun _ _ _ h => h) (Or.inl ⟨by rfl, ?_⟩) (by assumption) ?_
        rotate_left 1
        · intro w9 hSw
          (try dsimp only at hSw)
          (try obtain ⟨hSa, hSb, hSc, hSd, hSe, hSf, hSg⟩ := hSw)
          go_simp
          try with_reducible rfl
        try simp only [Act.put, List.setIfInBounds_toArray, List.set_cons_zero, List.set_cons_succ]
        refine GoL.takeD (some 60) (i := 1) (v := ?_) rfl rfl (by kernel_rfl) (by kernel_rfl) (by kernel_rfl) (by decide) (fun _ _ _ h => h) (Or.inl ⟨by rfl, ?_⟩) (by assumption) ?_
        rotate_left 1
        · intro w9 hSw
          (try dsimp only at hSw)
          (try obtain ⟨hSa, hSb, hSc, hSd, hSe, hSf, hSg⟩ := hSw)
          go_simp
          try with_reducible rfl
        try simp only [Act.put, List.setIfInBounds_toArray, List.set_cons_zero, List.set_cons_succ]
        refine GoL.takeD (some 61) (i := 2) (v := ?_) rfl rfl (by kernel_rfl) (by kernel_rfl) (by kernel_rfl) (by decide) (fun _ _ _ h => h) (Or.inl ⟨by rfl, ?_⟩) (by assumption) ?_
        rotate_left 1
        · intro w9 hSw
          (try dsimp only at hSw)
          (try obtain ⟨hSa, hSb, hSc, hSd, hSe, hSf, hSg⟩ := hSw)
          go_simp
          try with_reducible rfl
        try simp only [Act.put, List.setIfInBounds_toArray, List.set_cons_zero, List.set_cons_succ]
        refine GoL.takeD (some 62) (i := 3) (v := ?_) rfl rfl (by kernel_rfl) (by kernel_rfl) (by kernel_rfl) (by decide) (fun _ _ _ h => h) (Or.inl ⟨by rfl, ?_⟩) (by assumption) ?_
        rotate_left 1
        · intro w9 hSw
          (try dsimp only at hSw)
          (try obtain ⟨hSa, hSb, hSc, hSd, hSe, hSf, hSg⟩ := hSw)
          go_simp
          try with_reducible rfl
        try simp only [Act.put, List.setIfInBounds_toArray, List.set_cons_zero, List.set_cons_succ]
        refine GoL.takeD (some 63) (i := 4) (v := ?_) rfl rfl (by kernel_rfl) (by kernel_rfl) (by kernel_rfl) (by decide) (fun _ _ _ h => h) (Or.inl ⟨by rfl, ?_⟩) (by assumption) ?_
        rotate_left 1
        · intro w9 hSw
          (try dsimp only at hSw)
          (try obtain ⟨hSa, hSb, hSc, hSd, hSe, hSf, hSg⟩ := hSw)
          go_simp
          try with_reducible rfl
        try simp only [Act.put, List.setIfInBounds_toArray, List.set_cons_zero, List.set_cons_succ]
        refine GoL.ready (rs := [5]) (by kernel_rfl) (by simp) (by decide) (AllL.cons rfl (fun K hK => ?_) AllL.nil)
        refine step_call rfl 48 (enters_of Try.func48 (by kernel_rfl) rfl) #[.tmp 63, .const (.int .i64 0)] _ rfl #[.agg #[.int .i64 x.st, .int .i64 x.sd, .int .i64 x.ct, .int .i64 x.bl], .int .i64 0] (by go_simp) (fun v w5 => v = .int .i64 (atA x 0) ∧ Below w'.heap.size w' w5) (Calls.mono (show Calls Try.prog 48 #[axV x, .int .i64 0] w'.drew _ from at_good x 0 w'.drew HX.out hl2) (by rintro e w5 ⟨rfl, hb⟩; exact ⟨_, rfl, rfl, by rw [hb]; exact below_undrew (((Below.refl _ _).alloc (Nat.le_refl _) _).drew)⟩)) ?_
        rintro v w5 ⟨rfl, hb5⟩
        have HH5 : Hid _ := HH4.out.below hb5
        have e5 := HS6.out w5 (.inl HH5.out)
        have HB5 : Hid _ := hb5
        clear hb5 hHeld
        refine hK.out _ _ e5 (fun hHeld => ?_)
        clear hK K
        show GoL _ _ _ _ _ _ _ _ (Act.put _ (some 64) (.int .i64 (atA x 0))) _
        simp only [Act.put, List.setIfInBounds_toArray, List.set_cons_zero, List.set_cons_succ]
        refine GoL.takeD (some 65) (i := 6) (v := ?_) rfl rfl (by kernel_rfl) (by kernel_rfl) (by kernel_rfl) (by decide) (fun _ _ _ h => h) (Or.inl ⟨by rfl, ?_⟩) (by assumption) ?_
        rotate_left 1
        · intro w9 hSw
          (try dsimp only at hSw)
          (try obtain ⟨hSa, hSb, hSc, hSd, hSe, hSf, hSg⟩ := hSw)
          go_simp
          try with_reducible rfl
        try simp only [Act.put, List.setIfInBounds_toArray, List.set_cons_zero, List.set_cons_succ]
        refine GoL.ready (rs := [7]) (by kernel_rfl) (by simp) (by decide) (AllL.cons rfl (fun K hK => ?_) AllL.nil)
        obtain ⟨c1, c2, c3, c4, f1, f2⟩ := ts_cells HH5.out.ts HH5.out.hm HH5.out.hu
        have c5 := c3 j _ HT3.out
        have f5 := f1 j
        obtain ⟨W6, hW6⟩ : ∃ W6, w5.setCell ⟨rs, j, none⟩ (.int .i64 0) = W6 := ⟨_, rfl⟩
        have HH6 : Hid (Hd W6 B0 bs bt rs rt ba m x (T.set j 0) U) := by
          have := HH5.out.setS j 0
          rw [HTS.out] at this
          rw [← hW6]; exact this
        have HK6 : Hid (Kp (fun y => y = rs ∨ y = rt) W2 W6) := by rw [← hW6]; exact (HK4.out.trans (Kp.of (F := fun _ => False) HB5.out) (fun _ _ e => e.elim)).setCell _ (fun _ => .inl rfl)
        have e6 := HS6.out W6 (.inr HH6.out)
        clear c1 c2 c3 c4 f1 f2 e5 hHeld
        go_simp
        refine hK.out _ _ e6 (fun hHeld => ?_)
        clear hK K c5 f5 hW6 e6
        refine GoL.takeD (some 66) (i := 8) (v := ?_) rfl rfl (by kernel_rfl) (by kernel_rfl) (by kernel_rfl) (by decide) (fun _ _ _ h => h) (Or.inl ⟨by rfl, ?_⟩) (by assumption) ?_
        rotate_left 1
        · intro w9 hSw
          (try dsimp only at hSw)
          (try obtain ⟨hSa, hSb, hSc, hSd, hSe, hSf, hSg⟩ := hSw)
          go_simp
          try with_reducible rfl
        try simp only [Act.put, List.setIfInBounds_toArray, List.set_cons_zero, List.set_cons_succ]
        refine GoL.last (by kernel_rfl) (by kernel_rfl) rfl (fun K hK => ?_)
        obtain ⟨c1, c2, c3, c4, f1, f2⟩ := ts_cells HH6.out.ts HH6.out.hm HH6.out.hu
        obtain ⟨uj, huj⟩ : ∃ uj, U[j]? = some uj := ⟨U[j]'(by rw [HH6.out.hu]; exact hj), List.getElem?_eq_getElem _⟩
        have c5 := c4 j uj huj
        have f5 := f2 j
        clear c1 c2 c3 c4 f1 f2 huj
        go_simp
        refine hK.out _ _ ?_
        exact ⟨HH6.out.ts.setT j _, HK6.out.setCell _ (fun _ => .inr rfl)⟩
      intro e a5 w5 he
      cases e with
      | exit id => exact he.elim
      | goto t => exact he.elim
      | ret => exact he.elim
      | panic ch => exact he.elim
      | outgrown => exact he.elim
      | normal =>
        have HE : Hid _ := he
        clear he
        (try gi_wp2)
        exact ⟨hlt, HE.out.1, HE.out.2⟩
end Go.Proofs.Ytnikbcljonbpcaa

/-
  The two rows of the iterator are made, in whatever order. Conditions: at most four axes.
-/
import Derived.Test.YtnikbcljonbpcaaSTup0
import Derived.Test.YtnikbcljonbpcaaRLast
namespace Go.Proofs.Ytnikbcljonbpcaa
open Go.RowKit Go.Sort Go.Shelf Go.Lib
set_option linter.unusedVariables false
set_option maxRecDepth 100000

theorem make_rule (m : Nat) (hm : m ≤ 4) : ∃ Z : Array Value, Z = (List.replicate m (Value.int .i64 0)).toArray ∧ ∀ w : World, (Instr.makeSlice 22 (.int .i64 (m : Int)) (.int .i64 (m : Int))).run Try.prog w = .ok (.slice (some ⟨w.heap.size, 0, none⟩) m m) (w.alloc (.cells Z 3)) := by
  obtain ⟨i0, hi, hz, hs, hy⟩ := Try.infoZ
  refine ⟨_, rfl, fun w => ?_⟩
  have := run_make (P := Try.prog) w 22 3 i0 (.int .i64 0) Try.underlying22 hi hz .i64 .i64 (m : Int) (m : Int) (by omega) (by omega) (by rw [hy]; omega) (by omega)
  rw [this, hs]
  congr 2
  apply congrArg (fun x => Obj.cells x 3)
  apply Array.ext'
  simp [madeCells, Value.cells, Nat.mod_one, List.map_const']
/-- On, so that R; no other way. -/
def onN (R : Act → World → Prop) : Exit → Act → World → Prop
  | .normal, a, w => R a w
  | _, _, _ => False
theorem onN_lets (R : Act → World → Prop) : ¬ LetsOut (onN R) := fun ⟨_, _, h⟩ => h
theorem alloc_facts (w : World) (o : Obj) : ∃ w', w.alloc o = w' ∧ Below w.heap.size w w' ∧ w'.heap.size = w.heap.size + 1 ∧ w'.heap[w.heap.size]? = some o :=
  ⟨_, rfl, (Below.refl _ _).alloc (Nat.le_refl _) _, World.size_alloc _ _, heap_alloc_new w o⟩
theorem set_facts (w : World) {g : Nat} {u : Value} {T : TypeId} (h : w.heap[g]? = some (.cells #[u] T (0, 0))) (v : Value) : ∃ w', w.setCell ⟨g, 0, none⟩ v = w' ∧ Kp (fun x => x = g) w w' ∧ w'.heap.size = w.heap.size ∧ w'.heap[g]? = some (.cells #[v] T (0, 0)) :=
  ⟨_, rfl, (Kp.refl _ w).setCell v (fun _ => rfl), by simp [World.setCell], by rw [heap_setCell_same w g 0 _ _ _ h]; rfl⟩
theorem ts_made {w : World} {B0 bs bt rs rt m : Nat} {Z : Array Value} {u : Value} (hZ : Z = (List.replicate m (Value.int .i64 0)).toArray) (h1 : w.heap[bs]? = some (.cells #[.slice (some ⟨rs, 0, none⟩) m m] 22 (0, 0))) (h2 : w.heap[bt]? = some (.cells #[u] 22 (0, 0)))
    (h3 : w.heap[rs]? = some (.cells Z 3 (0, 0))) (h4 : w.heap[rt]? = some (.cells Z 3 (0, 0))) (hb : B0 ≤ bs ∧ B0 ≤ bt ∧ B0 ≤ rs ∧ B0 ≤ rt) (hn : bs ≠ bt ∧ bs ≠ rs ∧ bs ≠ rt ∧ bt ≠ rs ∧ bt ≠ rt ∧ rs ≠ rt) :
    TS (w.setCell ⟨bt, 0, none⟩ (.slice (some ⟨rt, 0, none⟩) m m)) B0 bs bt rs rt (List.replicate m 0) (List.replicate m 0) := by
  obtain ⟨n1, n2, n3, n4, n5, n6⟩ := hn
  refine ⟨?_, ?_, ?_, ?_, hb, ⟨n1, n2, n3, n4, n5, n6⟩⟩
  · rw [List.length_replicate]; exact (Below.heap_setCell _ _ _ _ (by simpa using n1)).trans h1
  · rw [heap_setCell_same w bt 0 _ _ _ h2, List.length_replicate]; rfl
  · rw [hZ] at h3; exact (Below.heap_setCell _ _ _ _ (by simpa using n4.symm)).trans (by rw [h3]; simp)
  · rw [hZ] at h4; exact (Below.heap_setCell _ _ _ _ (by simpa using n5.symm)).trans (by rw [h4]; simp)
/-- The iterator's code behind its rows, and the body of its inner loop. -/
def restOf : Code → Code
  | .scope (.seq _ (.seq _ r)) => r
  | c => c
def bodyOf : Code → Code
  | .seq _ (.seq _ (.block _ (.loop (.seq _ (.block _ (.seq (.seq _ (.block _ (.rangeFunc _ _ _ b))) _)))))) => b
  | c => c
set_option maxHeartbeats 64000000 in
theorem tup_head (n l gb : Nat) (ao : Option Addr) (m cap : Nat) (A : List Ax) (W : World) (hm4 : m ≤ 4) (hc : W.cell? ⟨gb, 0, none⟩ = some (.slice ao m cap)) (hA : Axs W (.slice ao m cap) A) (he : A.any emptyB = false) (R : Ending → World → Prop)
    (hrest : ∀ bs bt rs rt w', TS w' W.heap.size bs bt rs rt (List.replicate m 0) (List.replicate m 0) → Below W.heap.size W w' → (restOf (Try.f45.body.getD .skip)).wpIn Fence.wide n Try.prog (Exit.noGoto (bodyPostM Fence.wide n Try.prog Try.f45 R)) { tmps := #[.func (.yield l) #[] #[], .pointer (some ⟨gb, 0, none⟩), undef, .pointer (some ⟨bs, 0, none⟩), .pointer (some ⟨bt, 0, none⟩), undef, undef, undef, undef, .slice ao m cap, .bool false, .slice ao m cap, .int .i64 (m : Int), .slice (some ⟨rs, 0, none⟩) m m, .slice ao m cap, .int .i64 (m : Int), .slice (some ⟨rt, 0, none⟩) m m, undef, undef, undef, undef, undef, undef, undef, undef, undef, undef, undef, undef, undef, undef, undef, undef, undef, undef, undef, undef, undef, undef, undef, undef, undef, undef, undef, undef, undef, undef, undef, undef, undef, undef, undef, undef, undef, undef, undef, undef, undef, undef, undef, undef, undef, undef, undef, undef, undef, undef], defers := [] } w') :
    CallsIn Fence.wide n Try.prog 45 #[.func (.yield l) #[] #[], .pointer (some ⟨gb, 0, none⟩)] W R := by
  have HA : Hid (Calls Try.prog 46 #[.slice ao m cap, .func (.func 47) #[] #[]] W fun e w' => e = .returned (.bool false) ∧ Below W.heap.size W w') := by
    have := hasA_any W _ A hA
    rwa [he] at this
  obtain ⟨Z, hZ, hmk⟩ := make_rule m hm4
  have HZ : Hid _ := hZ
  have HD : Hid (Fence.wide.depth.isSome = true → 1 ≤ n) := fun h => by simp [Fence.wide] at h
  have HREST : Hid _ := hrest
  clear hA he hZ hrest
  refine callsIn_of_wp_marks Try.func45 rfl trivial ?_ rfl
  simp only [Try.ntmps45, List.size_toArray, List.length_cons, List.length_nil, Nat.reduceAdd, Nat.reduceSub, Array.replicate_succ, Array.replicate_zero, List.push_toArray, List.append_toArray, List.nil_append, List.cons_append]
  refine wpIn_wide.2 (wp_scope_straight ((wpIn_wide (n := n)).1 ?_))
  gi_wp2_with (refine ⟨trivial, HD.out, ?_⟩; refine (callsIn_wide.2 HA.out).mono ?_; rintro e w1 ⟨rfl, hb1⟩; have HB1 : Hid (Below W.heap.size W w1) := hb1; have hc1 := (hb1.cell (World.block_lt_of_cell? W _ hc)).trans hc; clear hb1)
  clear hc
  refine wpIn_mono (Q := onN fun a' w' => ∃ bs bt rs rt, TS w' w1.heap.size bs bt rs rt (List.replicate m 0) (List.replicate m 0) ∧ Below w1.heap.size w1 w' ∧ a' = { tmps := #[.func (.yield l) #[] #[], .pointer (some ⟨gb, 0, none⟩), undef, .pointer (some ⟨bs, 0, none⟩), .pointer (some ⟨bt, 0, none⟩), undef, undef, undef, undef, .slice ao m cap, .bool false, .slice ao m cap, .int .i64 (m : Int), .slice (some ⟨rs, 0, none⟩) m m, .slice ao m cap, .int .i64 (m : Int), .slice (some ⟨rt, 0, none⟩) m m, undef, undef, undef, undef, undef, undef, undef, undef, undef, undef, undef, undef, undef, undef, undef, undef, undef, undef, undef, undef, undef, undef, undef, undef, undef, undef, undef, undef, undef, undef, undef, undef, undef, undef, undef, undef, undef, undef, undef, undef, undef, undef, undef, undef, undef, undef, undef, undef, undef, undef], defers := [] }) (wpIn_wide.2 ?_) ?_
  · have HGL : Hid (gb < w1.heap.size) := World.block_lt_of_cell? w1 _ hc1
    obtain ⟨wd, hwd⟩ : ∃ wd, w1.drew = wd := ⟨_, rfl⟩
    have HBW : Hid (Below w1.heap.size w1 wd) := by rw [← hwd]; exact (Below.refl _ _).drew
    have HSZwd : Hid (wd.heap.size = w1.heap.size) := by rw [← hwd]; rfl
    refine wp_region_L (S := fun w9 => w9.cell? ⟨gb, 0, none⟩ = some (.slice ao m cap)) 9 (by kernel_rfl) hc1 (fun hHeld => ?_)
    rw [hwd] at hHeld ⊢
    clear hwd hc1
    refine GoL.takeD (some 11) (i := 0) (v := ?_) rfl rfl (by kernel_rfl) (by kernel_rfl) (by kernel_rfl) (by decide) (fun _ _ _ h => h) (Or.inl ⟨by rfl, ?_⟩) (by assumption) ?_
    rotate_left 1
    · intro w9 hSw
      (try dsimp only at hSw)
      (try simp only [Held] at hSw)
      go_simp
      try with_reducible rfl
    try simp only [Act.put, List.setIfInBounds_toArray, List.set_cons_zero, List.set_cons_succ]
    refine GoL.takeD (some 12) (i := 1) (v := ?_) rfl rfl (by kernel_rfl) (by kernel_rfl) (by kernel_rfl) (by decide) (fun _ _ _ h => h) (Or.inl ⟨by rfl, ?_⟩) (by assumption) ?_
    rotate_left 1
    · intro w9 hSw
      (try dsimp only at hSw)
      (try simp only [Held] at hSw)
      go_simp
      try with_reducible rfl
    try simp only [Act.put, List.setIfInBounds_toArray, List.set_cons_zero, List.set_cons_succ]
    refine GoL.takeD (some 14) (i := 3) (v := ?_) rfl rfl (by kernel_rfl) (by kernel_rfl) (by kernel_rfl) (by decide) (fun _ _ _ h => h) (Or.inl ⟨by rfl, ?_⟩) (by assumption) ?_
    rotate_left 1
    · intro w9 hSw
      (try dsimp only at hSw)
      (try simp only [Held] at hSw)
      go_simp
      try with_reducible rfl
    try simp only [Act.put, List.setIfInBounds_toArray, List.set_cons_zero, List.set_cons_succ]
    refine GoL.takeD (some 15) (i := 4) (v := ?_) rfl rfl (by kernel_rfl) (by kernel_rfl) (by kernel_rfl) (by decide) (fun _ _ _ h => h) (Or.inl ⟨by rfl, ?_⟩) (by assumption) ?_
    rotate_left 1
    · intro w9 hSw
      (try dsimp only at hSw)
      (try simp only [Held] at hSw)
      go_simp
      try with_reducible rfl
    try simp only [Act.put, List.setIfInBounds_toArray, List.set_cons_zero, List.set_cons_succ]
    refine GoL.ready (rs := [2, 5, 6, 7]) (by kernel_rfl) (by simp) (by decide) ?_
    refine AllL.cons rfl (fun K hK => ?_) ?_
    · have hx := True.intro
      obtain ⟨wd2, hw2, hb2, hs3, hg3⟩ := alloc_facts wd (.cells Z 3)
      have hs2 : Hid _ := hs3
      have hg2 : Hid _ := hg3
      clear hs3 hg3
      have e2 : wd2.cell? ⟨gb, 0, none⟩ = some (.slice ao m cap) := (hb2.cell (World.block_lt_of_cell? wd _ hHeld)).trans hHeld
      go_simp
      refine hK.out _ _ e2 (fun hHeld2 => ?_)
      clear hK K e2 hHeld
      have hHeld := hHeld2
      clear hHeld2
      have H2 : Hid _ := hg2.out
      have HBW2 : Hid (Below w1.heap.size w1 wd2) := HBW.out.trans (hb2.mono HBW.out.size)
      clear HBW
      have HBW := HBW2
      have HSZwd2 : Hid (wd2.heap.size = wd.heap.size + 1) := hs2.out
      clear hg2 hb2 hs2 hw2 HBW2 hx
      refine GoL.ready (rs := [5, 6, 7]) (by kernel_rfl) (by simp) (by decide) ?_
      refine AllL.cons rfl (fun K hK => ?_) ?_
      · have hx := True.intro
        obtain ⟨wd25, hw2, hb2, hs3, hg3⟩ := alloc_facts wd2 (.cells Z 3)
        have hs2 : Hid _ := hs3
        have hg2 : Hid _ := hg3
        clear hs3 hg3
        have H2' := (hb2.block _ (Array.getElem?_eq_some_iff.1 H2.out).1).trans H2.out
        have e2 : wd25.cell? ⟨gb, 0, none⟩ = some (.slice ao m cap) := (hb2.cell (World.block_lt_of_cell? wd2 _ hHeld)).trans hHeld
        go_simp
        refine hK.out _ _ e2 (fun hHeld2 => ?_)
        clear hK K e2 hHeld
        have hHeld := hHeld2
        clear hHeld2
        clear H2
        have H2 : Hid _ := H2'
        clear H2'
        have H5 : Hid _ := hg2.out
        have HBW2 : Hid (Below w1.heap.size w1 wd25) := HBW.out.trans (hb2.mono HBW.out.size)
        clear HBW
        have HBW := HBW2
        have HSZwd25 : Hid (wd25.heap.size = wd2.heap.size + 1) := hs2.out
        clear hg2 hb2 hs2 hw2 HBW2 hx
        refine GoL.ready (rs := [6, 7]) (by kernel_rfl) (by simp) (by decide) ?_
        refine AllL.cons rfl (fun K hK => ?_) ?_
        · have hx := True.intro
          obtain ⟨wd256, hw2, hb2, hs3, hg3⟩ := alloc_facts wd25 (.cells #[.slice none 0 0] 22)
          have hs2 : Hid _ := hs3
          have hg2 : Hid _ := hg3
          clear hs3 hg3
          have H2' := (hb2.block _ (Array.getElem?_eq_some_iff.1 H2.out).1).trans H2.out
          have H5' := (hb2.block _ (Array.getElem?_eq_some_iff.1 H5.out).1).trans H5.out
          have e2 : wd256.cell? ⟨gb, 0, none⟩ = some (.slice ao m cap) := (hb2.cell (World.block_lt_of_cell? wd25 _ hHeld)).trans hHeld
          go_simp
          refine hK.out _ _ e2 (fun hHeld2 => ?_)
          clear hK K e2 hHeld
          have hHeld := hHeld2
          clear hHeld2
          clear H2
          have H2 : Hid _ := H2'
          clear H2'
          clear H5
          have H5 : Hid _ := H5'
          clear H5'
          have H6 : Hid _ := hg2.out
          have HBW2 : Hid (Below w1.heap.size w1 wd256) := HBW.out.trans (hb2.mono HBW.out.size)
          clear HBW
          have HBW := HBW2
          have HSZwd256 : Hid (wd256.heap.size = wd25.heap.size + 1) := hs2.out
          clear hg2 hb2 hs2 hw2 HBW2 hx
          refine GoL.ready (rs := [7]) (by kernel_rfl) (by simp) (by decide) ?_
          refine AllL.cons rfl (fun K hK => ?_) ?_
          · have hx := True.intro
            obtain ⟨wd2567, hw2, hb2, hs3, hg3⟩ := alloc_facts wd256 (.cells #[.slice none 0 0] 22)
            have hs2 : Hid _ := hs3
            have hg2 : Hid _ := hg3
            clear hs3 hg3
            have H2' := (hb2.block _ (Array.getElem?_eq_some_iff.1 H2.out).1).trans H2.out
            have H5' := (hb2.block _ (Array.getElem?_eq_some_iff.1 H5.out).1).trans H5.out
            have H6' := (hb2.block _ (Array.getElem?_eq_some_iff.1 H6.out).1).trans H6.out
            have e2 : wd2567.cell? ⟨gb, 0, none⟩ = some (.slice ao m cap) := (hb2.cell (World.block_lt_of_cell? wd256 _ hHeld)).trans hHeld
            go_simp
            refine hK.out _ _ e2 (fun hHeld2 => ?_)
            clear hK K e2 hHeld
            have hHeld := hHeld2
            clear hHeld2
            clear H2
            have H2 : Hid _ := H2'
            clear H2'
            clear H5
            have H5 : Hid _ := H5'
            clear H5'
            clear H6
            have H6 : Hid _ := H6'
            clear H6'
            have H7 : Hid _ := hg2.out
            have HBW2 : Hid (Below w1.heap.size w1 wd2567) := HBW.out.trans (hb2.mono HBW.out.size)
            clear HBW
            have HBW := HBW2
            have HSZwd2567 : Hid (wd2567.heap.size = wd256.heap.size + 1) := hs2.out
            clear hg2 hb2 hs2 hw2 HBW2 hx
            refine GoL.ready (rs := [8]) (by kernel_rfl) (by simp) (by decide) ?_
            refine AllL.cons rfl (fun K hK => ?_) ?_
            · have hx := True.intro
              have cs9 : wd2567.cell? ⟨wd25.heap.size, 0, none⟩ = some (.slice none 0 0) := cell_of_row wd2567 _ 0 _ _ _ H6.out
              have cf9 : wd2567.frozen? ⟨wd25.heap.size, 0, none⟩ = false := by simp [World.frozen?, H6.out]
              obtain ⟨wd25678, hw2, hk2, hs3, hg3⟩ := set_facts wd2567 H6.out (.slice (some ⟨wd.heap.size, 0, none⟩) m m)
              have hs2 : Hid _ := hs3
              have hg2 : Hid _ := hg3
              clear hs3 hg3
              have H2' := (hk2.block _ (Array.getElem?_eq_some_iff.1 H2.out).1 (by have q0 := HGL.out; have q1 := HSZwd.out; have q2 := HSZwd2.out; have q3 := HSZwd25.out; have q4 := HSZwd256.out; have q5 := HSZwd2567.out; omega)).trans H2.out
              have H5' := (hk2.block _ (Array.getElem?_eq_some_iff.1 H5.out).1 (by have q0 := HGL.out; have q1 := HSZwd.out; have q2 := HSZwd2.out; have q3 := HSZwd25.out; have q4 := HSZwd256.out; have q5 := HSZwd2567.out; omega)).trans H5.out
              have H7' := (hk2.block _ (Array.getElem?_eq_some_iff.1 H7.out).1 (by have q0 := HGL.out; have q1 := HSZwd.out; have q2 := HSZwd2.out; have q3 := HSZwd25.out; have q4 := HSZwd256.out; have q5 := HSZwd2567.out; omega)).trans H7.out
              have e2 : wd25678.cell? ⟨gb, 0, none⟩ = some (.slice ao m cap) := hk2.cell hHeld (by simp only []; have q0 := HGL.out; have q1 := HSZwd.out; have q2 := HSZwd2.out; have q3 := HSZwd25.out; have q4 := HSZwd256.out; have q5 := HSZwd2567.out; omega)
              go_simp
              refine hK.out _ _ e2 (fun hHeld2 => ?_)
              clear hK K e2 hHeld cs9 cf9
              have hHeld := hHeld2
              clear hHeld2
              clear H2
              have H2 : Hid _ := H2'
              clear H2'
              clear H5
              have H5 : Hid _ := H5'
              clear H5'
              clear H6
              clear H7
              have H7 : Hid _ := H7'
              clear H7'
              have H8 : Hid _ := hg2.out
              have HBW2 : Hid (Below w1.heap.size w1 wd25678) := HBW.out.trans (hk2.below HBW.out.size (fun x e => (by have q0 := HGL.out; have q1 := HSZwd.out; have q2 := HSZwd2.out; have q3 := HSZwd25.out; have q4 := HSZwd256.out; have q5 := HSZwd2567.out; omega)))
              clear HBW
              have HBW := HBW2
              have HSZwd25678 : Hid (wd25678.heap.size = wd2567.heap.size) := hs2.out
              clear hg2 hk2 hs2 hw2 HBW2 hx
              refine GoL.last (by kernel_rfl) (by kernel_rfl) rfl (fun K hK => ?_)
              have ct9 : wd25678.cell? ⟨wd256.heap.size, 0, none⟩ = some (.slice none 0 0) := cell_of_row wd25678 _ 0 _ _ _ H7.out
              have cf9 : wd25678.frozen? ⟨wd256.heap.size, 0, none⟩ = false := by simp [World.frozen?, H7.out]
              go_simp
              refine hK.out _ _ ?_
              exact ⟨wd25.heap.size, wd256.heap.size, wd.heap.size, wd2.heap.size, ts_made HZ.out H8.out H7.out H2.out H5.out (by have q0 := HGL.out; have q1 := HSZwd.out; have q2 := HSZwd2.out; have q3 := HSZwd25.out; have q4 := HSZwd256.out; have q5 := HSZwd2567.out; have q6 := HSZwd25678.out; omega) (by have q0 := HGL.out; have q1 := HSZwd.out; have q2 := HSZwd2.out; have q3 := HSZwd25.out; have q4 := HSZwd256.out; have q5 := HSZwd2567.out; have q6 := HSZwd25678.out; omega), HBW.out.setCell (by simp only []; have q0 := HGL.out; have q1 := HSZwd.out; have q2 := HSZwd2.out; have q3 := HSZwd25.out; have q4 := HSZwd256.out; have q5 := HSZwd2567.out; have q6 := HSZwd25678.out; omega) _, rfl⟩
            exact AllL.nil
          exact AllL.nil
        refine AllL.cons rfl (fun K hK => ?_) ?_
        · have hx := True.intro
          obtain ⟨wd257, hw2, hb2, hs3, hg3⟩ := alloc_facts wd25 (.cells #[.slice none 0 0] 22)
          have hs2 : Hid _ := hs3
          have hg2 : Hid _ := hg3
          clear hs3 hg3
          have H2' := (hb2.block _ (Array.getElem?_eq_some_iff.1 H2.out).1).trans H2.out
          have H5' := (hb2.block _ (Array.getElem?_eq_some_iff.1 H5.out).1).trans H5.out
          have e2 : wd257.cell? ⟨gb, 0, none⟩ = some (.slice ao m cap) := (hb2.cell (World.block_lt_of_cell? wd25 _ hHeld)).trans hHeld
          go_simp
          refine hK.out _ _ e2 (fun hHeld2 => ?_)
          clear hK K e2 hHeld
          have hHeld := hHeld2
          clear hHeld2
          clear H2
          have H2 : Hid _ := H2'
          clear H2'
          clear H5
          have H5 : Hid _ := H5'
          clear H5'
          have H7 : Hid _ := hg2.out
          have HBW2 : Hid (Below w1.heap.size w1 wd257) := HBW.out.trans (hb2.mono HBW.out.size)
          clear HBW
          have HBW := HBW2
          have HSZwd257 : Hid (wd257.heap.size = wd25.heap.size + 1) := hs2.out
          clear hg2 hb2 hs2 hw2 HBW2 hx
          refine GoL.ready (rs := [6]) (by kernel_rfl) (by simp) (by decide) ?_
          refine AllL.cons rfl (fun K hK => ?_) ?_
          · have hx := True.intro
            obtain ⟨wd2576, hw2, hb2, hs3, hg3⟩ := alloc_facts wd257 (.cells #[.slice none 0 0] 22)
            have hs2 : Hid _ := hs3
            have hg2 : Hid _ := hg3
            clear hs3 hg3
            have H2' := (hb2.block _ (Array.getElem?_eq_some_iff.1 H2.out).1).trans H2.out
            have H5' := (hb2.block _ (Array.getElem?_eq_some_iff.1 H5.out).1).trans H5.out
            have H7' := (hb2.block _ (Array.getElem?_eq_some_iff.1 H7.out).1).trans H7.out
            have e2 : wd2576.cell? ⟨gb, 0, none⟩ = some (.slice ao m cap) := (hb2.cell (World.block_lt_of_cell? wd257 _ hHeld)).trans hHeld
            go_simp
            refine hK.out _ _ e2 (fun hHeld2 => ?_)
            clear hK K e2 hHeld
            have hHeld := hHeld2
            clear hHeld2
            clear H2
            have H2 : Hid _ := H2'
            clear H2'
            clear H5
            have H5 : Hid _ := H5'
            clear H5'
            clear H7
            have H7 : Hid _ := H7'
            clear H7'
            have H6 : Hid _ := hg2.out
            have HBW2 : Hid (Below w1.heap.size w1 wd2576) := HBW.out.trans (hb2.mono HBW.out.size)
            clear HBW
            have HBW := HBW2
            have HSZwd2576 : Hid (wd2576.heap.size = wd257.heap.size + 1) := hs2.out
            clear hg2 hb2 hs2 hw2 HBW2 hx
            refine GoL.ready (rs := [8]) (by kernel_rfl) (by simp) (by decide) ?_
            refine AllL.cons rfl (fun K hK => ?_) ?_
            · have hx := True.intro
              have cs9 : wd2576.cell? ⟨wd257.heap.size, 0, none⟩ = some (.slice none 0 0) := cell_of_row wd2576 _ 0 _ _ _ H6.out
              have cf9 : wd2576.frozen? ⟨wd257.heap.size, 0, none⟩ = false := by simp [World.frozen?, H6.out]
              obtain ⟨wd25768, hw2, hk2, hs3, hg3⟩ := set_facts wd2576 H6.out (.slice (some ⟨wd.heap.size, 0, none⟩) m m)
              have hs2 : Hid _ := hs3
              have hg2 : Hid _ := hg3
              clear hs3 hg3
              have H2' := (hk2.block _ (Array.getElem?_eq_some_iff.1 H2.out).1 (by have q0 := HGL.out; have q1 := HSZwd.out; have q2 := HSZwd2.out; have q3 := HSZwd25.out; have q4 := HSZwd257.out; have q5 := HSZwd2576.out; omega)).trans H2.out
              have H5' := (hk2.block _ (Array.getElem?_eq_some_iff.1 H5.out).1 (by have q0 := HGL.out; have q1 := HSZwd.out; have q2 := HSZwd2.out; have q3 := HSZwd25.out; have q4 := HSZwd257.out; have q5 := HSZwd2576.out; omega)).trans H5.out
              have H7' := (hk2.block _ (Array.getElem?_eq_some_iff.1 H7.out).1 (by have q0 := HGL.out; have q1 := HSZwd.out; have q2 := HSZwd2.out; have q3 := HSZwd25.out; have q4 := HSZwd257.out; have q5 := HSZwd2576.out; omega)).trans H7.out
              have e2 : wd25768.cell? ⟨gb, 0, none⟩ = some (.slice ao m cap) := hk2.cell hHeld (by simp only []; have q0 := HGL.out; have q1 := HSZwd.out; have q2 := HSZwd2.out; have q3 := HSZwd25.out; have q4 := HSZwd257.out; have q5 := HSZwd2576.out; omega)
              go_simp
              refine hK.out _ _ e2 (fun hHeld2 => ?_)
              clear hK K e2 hHeld cs9 cf9
              have hHeld := hHeld2
              clear hHeld2
              clear H2
              have H2 : Hid _ := H2'
              clear H2'
              clear H5
              have H5 : Hid _ := H5'
              clear H5'
              clear H6
              clear H7
              have H7 : Hid _ := H7'
              clear H7'
              have H8 : Hid _ := hg2.out
              have HBW2 : Hid (Below w1.heap.size w1 wd25768) := HBW.out.trans (hk2.below HBW.out.size (fun x e => (by have q0 := HGL.out; have q1 := HSZwd.out; have q2 := HSZwd2.out; have q3 := HSZwd25.out; have q4 := HSZwd257.out; have q5 := HSZwd2576.out; omega)))
              clear HBW
              have HBW := HBW2
              have HSZwd25768 : Hid (wd25768.heap.size = wd2576.heap.size) := hs2.out
              clear hg2 hk2 hs2 hw2 HBW2 hx
              refine GoL.last (by kernel_rfl) (by kernel_rfl) rfl (fun K hK => ?_)
              have ct9 : wd25768.cell? ⟨wd25.heap.size, 0, none⟩ = some (.slice none 0 0) := cell_of_row wd25768 _ 0 _ _ _ H7.out
              have cf9 : wd25768.frozen? ⟨wd25.heap.size, 0, none⟩ = false := by simp [World.frozen?, H7.out]
              go_simp
              refine hK.out _ _ ?_
              exact ⟨wd257.heap.size, wd25.heap.size, wd.heap.size, wd2.heap.size, ts_made HZ.out H8.out H7.out H2.out H5.out (by have q0 := HGL.out; have q1 := HSZwd.out; have q2 := HSZwd2.out; have q3 := HSZwd25.out; have q4 := HSZwd257.out; have q5 := HSZwd2576.out; have q6 := HSZwd25768.out; omega) (by have q0 := HGL.out; have q1 := HSZwd.out; have q2 := HSZwd2.out; have q3 := HSZwd25.out; have q4 := HSZwd257.out; have q5 := HSZwd2576.out; have q6 := HSZwd25768.out; omega), HBW.out.setCell (by simp only []; have q0 := HGL.out; have q1 := HSZwd.out; have q2 := HSZwd2.out; have q3 := HSZwd25.out; have q4 := HSZwd257.out; have q5 := HSZwd2576.out; have q6 := HSZwd25768.out; omega) _, rfl⟩
            exact AllL.nil
          exact AllL.nil
        exact AllL.nil
      refine AllL.cons rfl (fun K hK => ?_) ?_
      · have hx := True.intro
        obtain ⟨wd26, hw2, hb2, hs3, hg3⟩ := alloc_facts wd2 (.cells #[.slice none 0 0] 22)
        have hs2 : Hid _ := hs3
        have hg2 : Hid _ := hg3
        clear hs3 hg3
        have H2' := (hb2.block _ (Array.getElem?_eq_some_iff.1 H2.out).1).trans H2.out
        have e2 : wd26.cell? ⟨gb, 0, none⟩ = some (.slice ao m cap) := (hb2.cell (World.block_lt_of_cell? wd2 _ hHeld)).trans hHeld
        go_simp
        refine hK.out _ _ e2 (fun hHeld2 => ?_)
        clear hK K e2 hHeld
        have hHeld := hHeld2
        clear hHeld2
        clear H2
        have H2 : Hid _ := H2'
        clear H2'
        have H6 : Hid _ := hg2.out
        have HBW2 : Hid (Below w1.heap.size w1 wd26) := HBW.out.trans (hb2.mono HBW.out.size)
        clear HBW
        have HBW := HBW2
        have HSZwd26 : Hid (wd26.heap.size = wd2.heap.size + 1) := hs2.out
        clear hg2 hb2 hs2 hw2 HBW2 hx
        refine GoL.ready (rs := [5, 7]) (by kernel_rfl) (by simp) (by decide) ?_
        refine AllL.cons rfl (fun K hK => ?_) ?_
        · have hx := True.intro
          obtain ⟨wd265, hw2, hb2, hs3, hg3⟩ := alloc_facts wd26 (.cells Z 3)
          have hs2 : Hid _ := hs3
          have hg2 : Hid _ := hg3
          clear hs3 hg3
          have H2' := (hb2.block _ (Array.getElem?_eq_some_iff.1 H2.out).1).trans H2.out
          have H6' := (hb2.block _ (Array.getElem?_eq_some_iff.1 H6.out).1).trans H6.out
          have e2 : wd265.cell? ⟨gb, 0, none⟩ = some (.slice ao m cap) := (hb2.cell (World.block_lt_of_cell? wd26 _ hHeld)).trans hHeld
          go_simp
          refine hK.out _ _ e2 (fun hHeld2 => ?_)
          clear hK K e2 hHeld
          have hHeld := hHeld2
          clear hHeld2
          clear H2
          have H2 : Hid _ := H2'
          clear H2'
          clear H6
          have H6 : Hid _ := H6'
          clear H6'
          have H5 : Hid _ := hg2.out
          have HBW2 : Hid (Below w1.heap.size w1 wd265) := HBW.out.trans (hb2.mono HBW.out.size)
          clear HBW
          have HBW := HBW2
          have HSZwd265 : Hid (wd265.heap.size = wd26.heap.size + 1) := hs2.out
          clear hg2 hb2 hs2 hw2 HBW2 hx
          refine GoL.ready (rs := [7]) (by kernel_rfl) (by simp) (by decide) ?_
          refine AllL.cons rfl (fun K hK => ?_) ?_
          · have hx := True.intro
            obtain ⟨wd2657, hw2, hb2, hs3, hg3⟩ := alloc_facts wd265 (.cells #[.slice none 0 0] 22)
            have hs2 : Hid _ := hs3
            have hg2 : Hid _ := hg3
            clear hs3 hg3
            have H2' := (hb2.block _ (Array.getElem?_eq_some_iff.1 H2.out).1).trans H2.out
            have H5' := (hb2.block _ (Array.getElem?_eq_some_iff.1 H5.out).1).trans H5.out
            have H6' := (hb2.block _ (Array.getElem?_eq_some_iff.1 H6.out).1).trans H6.out
            have e2 : wd2657.cell? ⟨gb, 0, none⟩ = some (.slice ao m cap) := (hb2.cell (World.block_lt_of_cell? wd265 _ hHeld)).trans hHeld
            go_simp
            refine hK.out _ _ e2 (fun hHeld2 => ?_)
            clear hK K e2 hHeld
            have hHeld := hHeld2
            clear hHeld2
            clear H2
            have H2 : Hid _ := H2'
            clear H2'
            clear H5
            have H5 : Hid _ := H5'
            clear H5'
            clear H6
            have H6 : Hid _ := H6'
            clear H6'
            have H7 : Hid _ := hg2.out
            have HBW2 : Hid (Below w1.heap.size w1 wd2657) := HBW.out.trans (hb2.mono HBW.out.size)
            clear HBW
            have HBW := HBW2
            have HSZwd2657 : Hid (wd2657.heap.size = wd265.heap.size + 1) := hs2.out
            clear hg2 hb2 hs2 hw2 HBW2 hx
            refine GoL.ready (rs := [8]) (by kernel_rfl) (by simp) (by decide) ?_
            refine AllL.cons rfl (fun K hK => ?_) ?_
            · have hx := True.intro
              have cs9 : wd2657.cell? ⟨wd2.heap.size, 0, none⟩ = some (.slice none 0 0) := cell_of_row wd2657 _ 0 _ _ _ H6.out
              have cf9 : wd2657.frozen? ⟨wd2.heap.size, 0, none⟩ = false := by simp [World.frozen?, H6.out]
              obtain ⟨wd26578, hw2, hk2, hs3, hg3⟩ := set_facts wd2657 H6.out (.slice (some ⟨wd.heap.size, 0, none⟩) m m)
              have hs2 : Hid _ := hs3
              have hg2 : Hid _ := hg3
              clear hs3 hg3
              have H2' := (hk2.block _ (Array.getElem?_eq_some_iff.1 H2.out).1 (by have q0 := HGL.out; have q1 := HSZwd.out; have q2 := HSZwd2.out; have q3 := HSZwd26.out; have q4 := HSZwd265.out; have q5 := HSZwd2657.out; omega)).trans H2.out
              have H5' := (hk2.block _ (Array.getElem?_eq_some_iff.1 H5.out).1 (by have q0 := HGL.out; have q1 := HSZwd.out; have q2 := HSZwd2.out; have q3 := HSZwd26.out; have q4 := HSZwd265.out; have q5 := HSZwd2657.out; omega)).trans H5.out
              have H7' := (hk2.block _ (Array.getElem?_eq_some_iff.1 H7.out).1 (by have q0 := HGL.out; have q1 := HSZwd.out; have q2 := HSZwd2.out; have q3 := HSZwd26.out; have q4 := HSZwd265.out; have q5 := HSZwd2657.out; omega)).trans H7.out
              have e2 : wd26578.cell? ⟨gb, 0, none⟩ = some (.slice ao m cap) := hk2.cell hHeld (by simp only []; have q0 := HGL.out; have q1 := HSZwd.out; have q2 := HSZwd2.out; have q3 := HSZwd26.out; have q4 := HSZwd265.out; have q5 := HSZwd2657.out; omega)
              go_simp
              refine hK.out _ _ e2 (fun hHeld2 => ?_)
              clear hK K e2 hHeld cs9 cf9
              have hHeld := hHeld2
              clear hHeld2
              clear H2
              have H2 : Hid _ := H2'
              clear H2'
              clear H5
              have H5 : Hid _ := H5'
              clear H5'
              clear H6
              clear H7
              have H7 : Hid _ := H7'
              clear H7'
              have H8 : Hid _ := hg2.out
              have HBW2 : Hid (Below w1.heap.size w1 wd26578) := HBW.out.trans (hk2.below HBW.out.size (fun x e => (by have q0 := HGL.out; have q1 := HSZwd.out; have q2 := HSZwd2.out; have q3 := HSZwd26.out; have q4 := HSZwd265.out; have q5 := HSZwd2657.out; omega)))
              clear HBW
              have HBW := HBW2
              have HSZwd26578 : Hid (wd26578.heap.size = wd2657.heap.size) := hs2.out
              clear hg2 hk2 hs2 hw2 HBW2 hx
              refine GoL.last (by kernel_rfl) (by kernel_rfl) rfl (fun K hK => ?_)
              have ct9 : wd26578.cell? ⟨wd265.heap.size, 0, none⟩ = some (.slice none 0 0) := cell_of_row wd26578 _ 0 _ _ _ H7.out
              have cf9 : wd26578.frozen? ⟨wd265.heap.size, 0, none⟩ = false := by simp [World.frozen?, H7.out]
              go_simp
              refine hK.out _ _ ?_
              exact ⟨wd2.heap.size, wd265.heap.size, wd.heap.size, wd26.heap.size, ts_made HZ.out H8.out H7.out H2.out H5.out (by have q0 := HGL.out; have q1 := HSZwd.out; have q2 := HSZwd2.out; have q3 := HSZwd26.out; have q4 := HSZwd265.out; have q5 := HSZwd2657.out; have q6 := HSZwd26578.out; omega) (by have q0 := HGL.out; have q1 := HSZwd.out; have q2 := HSZwd2.out; have q3 := HSZwd26.out; have q4 := HSZwd265.out; have q5 := HSZwd2657.out; have q6 := HSZwd26578.out; omega), HBW.out.setCell (by simp only []; have q0 := HGL.out; have q1 := HSZwd.out; have q2 := HSZwd2.out; have q3 := HSZwd26.out; have q4 := HSZwd265.out; have q5 := HSZwd2657.out; have q6 := HSZwd26578.out; omega) _, rfl⟩
            exact AllL.nil
          exact AllL.nil
        refine AllL.cons rfl (fun K hK => ?_) ?_
        · have hx := True.intro
          obtain ⟨wd267, hw2, hb2, hs3, hg3⟩ := alloc_facts wd26 (.cells #[.slice none 0 0] 22)
          have hs2 : Hid _ := hs3
          have hg2 : Hid _ := hg3
          clear hs3 hg3
          have H2' := (hb2.block _ (Array.getElem?_eq_some_iff.1 H2.out).1).trans H2.out
          have H6' := (hb2.block _ (Array.getElem?_eq_some_iff.1 H6.out).1).trans H6.out
          have e2 : wd267.cell? ⟨gb, 0, none⟩ = some (.slice ao m cap) := (hb2.cell (World.block_lt_of_cell? wd26 _ hHeld)).trans hHeld
          go_simp
          refine hK.out _ _ e2 (fun hHeld2 => ?_)
          clear hK K e2 hHeld
          have hHeld := hHeld2
          clear hHeld2
          clear H2
          have H2 : Hid _ := H2'
          clear H2'
          clear H6
          have H6 : Hid _ := H6'
          clear H6'
          have H7 : Hid _ := hg2.out
          have HBW2 : Hid (Below w1.heap.size w1 wd267) := HBW.out.trans (hb2.mono HBW.out.size)
          clear HBW
          have HBW := HBW2
          have HSZwd267 : Hid (wd267.heap.size = wd26.heap.size + 1) := hs2.out
          clear hg2 hb2 hs2 hw2 HBW2 hx
          refine GoL.ready (rs := [5, 8]) (by kernel_rfl) (by simp) (by decide) ?_
          refine AllL.cons rfl (fun K hK => ?_) ?_
          · have hx := True.intro
            obtain ⟨wd2675, hw2, hb2, hs3, hg3⟩ := alloc_facts wd267 (.cells Z 3)
            have hs2 : Hid _ := hs3
            have hg2 : Hid _ := hg3
            clear hs3 hg3
            have H2' := (hb2.block _ (Array.getElem?_eq_some_iff.1 H2.out).1).trans H2.out
            have H6' := (hb2.block _ (Array.getElem?_eq_some_iff.1 H6.out).1).trans H6.out
            have H7' := (hb2.block _ (Array.getElem?_eq_some_iff.1 H7.out).1).trans H7.out
            have e2 : wd2675.cell? ⟨gb, 0, none⟩ = some (.slice ao m cap) := (hb2.cell (World.block_lt_of_cell? wd267 _ hHeld)).trans hHeld
            go_simp
            refine hK.out _ _ e2 (fun hHeld2 => ?_)
            clear hK K e2 hHeld
            have hHeld := hHeld2
            clear hHeld2
            clear H2
            have H2 : Hid _ := H2'
            clear H2'
            clear H6
            have H6 : Hid _ := H6'
            clear H6'
            clear H7
            have H7 : Hid _ := H7'
            clear H7'
            have H5 : Hid _ := hg2.out
            have HBW2 : Hid (Below w1.heap.size w1 wd2675) := HBW.out.trans (hb2.mono HBW.out.size)
            clear HBW
            have HBW := HBW2
            have HSZwd2675 : Hid (wd2675.heap.size = wd267.heap.size + 1) := hs2.out
            clear hg2 hb2 hs2 hw2 HBW2 hx
            refine GoL.ready (rs := [8]) (by kernel_rfl) (by simp) (by decide) ?_
            refine AllL.cons rfl (fun K hK => ?_) ?_
            · have hx := True.intro
              have cs9 : wd2675.cell? ⟨wd2.heap.size, 0, none⟩ = some (.slice none 0 0) := cell_of_row wd2675 _ 0 _ _ _ H6.out
              have cf9 : wd2675.frozen? ⟨wd2.heap.size, 0, none⟩ = false := by simp [World.frozen?, H6.out]
              obtain ⟨wd26758, hw2, hk2, hs3, hg3⟩ := set_facts wd2675 H6.out (.slice (some ⟨wd.heap.size, 0, none⟩) m m)
              have hs2 : Hid _ := hs3
              have hg2 : Hid _ := hg3
              clear hs3 hg3
              have H2' := (hk2.block _ (Array.getElem?_eq_some_iff.1 H2.out).1 (by have q0 := HGL.out; have q1 := HSZwd.out; have q2 := HSZwd2.out; have q3 := HSZwd26.out; have q4 := HSZwd267.out; have q5 := HSZwd2675.out; omega)).trans H2.out
              have H5' := (hk2.block _ (Array.getElem?_eq_some_iff.1 H5.out).1 (by have q0 := HGL.out; have q1 := HSZwd.out; have q2 := HSZwd2.out; have q3 := HSZwd26.out; have q4 := HSZwd267.out; have q5 := HSZwd2675.out; omega)).trans H5.out
              have H7' := (hk2.block _ (Array.getElem?_eq_some_iff.1 H7.out).1 (by have q0 := HGL.out; have q1 := HSZwd.out; have q2 := HSZwd2.out; have q3 := HSZwd26.out; have q4 := HSZwd267.out; have q5 := HSZwd2675.out; omega)).trans H7.out
              have e2 : wd26758.cell? ⟨gb, 0, none⟩ = some (.slice ao m cap) := hk2.cell hHeld (by simp only []; have q0 := HGL.out; have q1 := HSZwd.out; have q2 := HSZwd2.out; have q3 := HSZwd26.out; have q4 := HSZwd267.out; have q5 := HSZwd2675.out; omega)
              go_simp
              refine hK.out _ _ e2 (fun hHeld2 => ?_)
              clear hK K e2 hHeld cs9 cf9
              have hHeld := hHeld2
              clear hHeld2
              clear H2
              have H2 : Hid _ := H2'
              clear H2'
              clear H5
              have H5 : Hid _ := H5'
              clear H5'
              clear H6
              clear H7
              have H7 : Hid _ := H7'
              clear H7'
              have H8 : Hid _ := hg2.out
              have HBW2 : Hid (Below w1.heap.size w1 wd26758) := HBW.out.trans (hk2.below HBW.out.size (fun x e => (by have q0 := HGL.out; have q1 := HSZwd.out; have q2 := HSZwd2.out; have q3 := HSZwd26.out; have q4 := HSZwd267.out; have q5 := HSZwd2675.out; omega)))
              clear HBW
              have HBW := HBW2
              have HSZwd26758 : Hid (wd26758.heap.size = wd2675.heap.size) := hs2.out
              clear hg2 hk2 hs2 hw2 HBW2 hx
              refine GoL.last (by kernel_rfl) (by kernel_rfl) rfl (fun K hK => ?_)
              have ct9 : wd26758.cell? ⟨wd26.heap.size, 0, none⟩ = some (.slice none 0 0) := cell_of_row wd26758 _ 0 _ _ _ H7.out
              have cf9 : wd26758.frozen? ⟨wd26.heap.size, 0, none⟩ = false := by simp [World.frozen?, H7.out]
              go_simp
              refine hK.out _ _ ?_
              exact ⟨wd2.heap.size, wd26.heap.size, wd.heap.size, wd267.heap.size, ts_made HZ.out H8.out H7.out H2.out H5.out (by have q0 := HGL.out; have q1 := HSZwd.out; have q2 := HSZwd2.out; have q3 := HSZwd26.out; have q4 := HSZwd267.out; have q5 := HSZwd2675.out; have q6 := HSZwd26758.out; omega) (by have q0 := HGL.out; have q1 := HSZwd.out; have q2 := HSZwd2.out; have q3 := HSZwd26.out; have q4 := HSZwd267.out; have q5 := HSZwd2675.out; have q6 := HSZwd26758.out; omega), HBW.out.setCell (by simp only []; have q0 := HGL.out; have q1 := HSZwd.out; have q2 := HSZwd2.out; have q3 := HSZwd26.out; have q4 := HSZwd267.out; have q5 := HSZwd2675.out; have q6 := HSZwd26758.out; omega) _, rfl⟩
            exact AllL.nil
          refine AllL.cons rfl (fun K hK => ?_) ?_
          · have hx := True.intro
            have cs9 : wd267.cell? ⟨wd2.heap.size, 0, none⟩ = some (.slice none 0 0) := cell_of_row wd267 _ 0 _ _ _ H6.out
            have cf9 : wd267.frozen? ⟨wd2.heap.size, 0, none⟩ = false := by simp [World.frozen?, H6.out]
            obtain ⟨wd2678, hw2, hk2, hs3, hg3⟩ := set_facts wd267 H6.out (.slice (some ⟨wd.heap.size, 0, none⟩) m m)
            have hs2 : Hid _ := hs3
            have hg2 : Hid _ := hg3
            clear hs3 hg3
            have H2' := (hk2.block _ (Array.getElem?_eq_some_iff.1 H2.out).1 (by have q0 := HGL.out; have q1 := HSZwd.out; have q2 := HSZwd2.out; have q3 := HSZwd26.out; have q4 := HSZwd267.out; omega)).trans H2.out
            have H7' := (hk2.block _ (Array.getElem?_eq_some_iff.1 H7.out).1 (by have q0 := HGL.out; have q1 := HSZwd.out; have q2 := HSZwd2.out; have q3 := HSZwd26.out; have q4 := HSZwd267.out; omega)).trans H7.out
            have e2 : wd2678.cell? ⟨gb, 0, none⟩ = some (.slice ao m cap) := hk2.cell hHeld (by simp only []; have q0 := HGL.out; have q1 := HSZwd.out; have q2 := HSZwd2.out; have q3 := HSZwd26.out; have q4 := HSZwd267.out; omega)
            go_simp
            refine hK.out _ _ e2 (fun hHeld2 => ?_)
            clear hK K e2 hHeld cs9 cf9
            have hHeld := hHeld2
            clear hHeld2
            clear H2
            have H2 : Hid _ := H2'
            clear H2'
            clear H6
            clear H7
            have H7 : Hid _ := H7'
            clear H7'
            have H8 : Hid _ := hg2.out
            have HBW2 : Hid (Below w1.heap.size w1 wd2678) := HBW.out.trans (hk2.below HBW.out.size (fun x e => (by have q0 := HGL.out; have q1 := HSZwd.out; have q2 := HSZwd2.out; have q3 := HSZwd26.out; have q4 := HSZwd267.out; omega)))
            clear HBW
            have HBW := HBW2
            have HSZwd2678 : Hid (wd2678.heap.size = wd267.heap.size) := hs2.out
            clear hg2 hk2 hs2 hw2 HBW2 hx
            refine GoL.ready (rs := [5]) (by kernel_rfl) (by simp) (by decide) ?_
            refine AllL.cons rfl (fun K hK => ?_) ?_
            · have hx := True.intro
              obtain ⟨wd26785, hw2, hb2, hs3, hg3⟩ := alloc_facts wd2678 (.cells Z 3)
              have hs2 : Hid _ := hs3
              have hg2 : Hid _ := hg3
              clear hs3 hg3
              have H2' := (hb2.block _ (Array.getElem?_eq_some_iff.1 H2.out).1).trans H2.out
              have H7' := (hb2.block _ (Array.getElem?_eq_some_iff.1 H7.out).1).trans H7.out
              have H8' := (hb2.block _ (Array.getElem?_eq_some_iff.1 H8.out).1).trans H8.out
              have e2 : wd26785.cell? ⟨gb, 0, none⟩ = some (.slice ao m cap) := (hb2.cell (World.block_lt_of_cell? wd2678 _ hHeld)).trans hHeld
              go_simp
              refine hK.out _ _ e2 (fun hHeld2 => ?_)
              clear hK K e2 hHeld
              have hHeld := hHeld2
              clear hHeld2
              clear H2
              have H2 : Hid _ := H2'
              clear H2'
              clear H7
              have H7 : Hid _ := H7'
              clear H7'
              clear H8
              have H8 : Hid _ := H8'
              clear H8'
              have H5 : Hid _ := hg2.out
              have HBW2 : Hid (Below w1.heap.size w1 wd26785) := HBW.out.trans (hb2.mono HBW.out.size)
              clear HBW
              have HBW := HBW2
              have HSZwd26785 : Hid (wd26785.heap.size = wd2678.heap.size + 1) := hs2.out
              clear hg2 hb2 hs2 hw2 HBW2 hx
              refine GoL.last (by kernel_rfl) (by kernel_rfl) rfl (fun K hK => ?_)
              have ct9 : wd26785.cell? ⟨wd26.heap.size, 0, none⟩ = some (.slice none 0 0) := cell_of_row wd26785 _ 0 _ _ _ H7.out
              have cf9 : wd26785.frozen? ⟨wd26.heap.size, 0, none⟩ = false := by simp [World.frozen?, H7.out]
              go_simp
              refine hK.out _ _ ?_
              exact ⟨wd2.heap.size, wd26.heap.size, wd.heap.size, wd2678.heap.size, ts_made HZ.out H8.out H7.out H2.out H5.out (by have q0 := HGL.out; have q1 := HSZwd.out; have q2 := HSZwd2.out; have q3 := HSZwd26.out; have q4 := HSZwd267.out; have q5 := HSZwd2678.out; have q6 := HSZwd26785.out; omega) (by have q0 := HGL.out; have q1 := HSZwd.out; have q2 := HSZwd2.out; have q3 := HSZwd26.out; have q4 := HSZwd267.out; have q5 := HSZwd2678.out; have q6 := HSZwd26785.out; omega), HBW.out.setCell (by simp only []; have q0 := HGL.out; have q1 := HSZwd.out; have q2 := HSZwd2.out; have q3 := HSZwd26.out; have q4 := HSZwd267.out; have q5 := HSZwd2678.out; have q6 := HSZwd26785.out; omega) _, rfl⟩
            exact AllL.nil
          exact AllL.nil
        exact AllL.nil
      refine AllL.cons rfl (fun K hK => ?_) ?_
      · have hx := True.intro
        obtain ⟨wd27, hw2, hb2, hs3, hg3⟩ := alloc_facts wd2 (.cells #[.slice none 0 0] 22)
        have hs2 : Hid _ := hs3
        have hg2 : Hid _ := hg3
        clear hs3 hg3
        have H2' := (hb2.block _ (Array.getElem?_eq_some_iff.1 H2.out).1).trans H2.out
        have e2 : wd27.cell? ⟨gb, 0, none⟩ = some (.slice ao m cap) := (hb2.cell (World.block_lt_of_cell? wd2 _ hHeld)).trans hHeld
        go_simp
        refine hK.out _ _ e2 (fun hHeld2 => ?_)
        clear hK K e2 hHeld
        have hHeld := hHeld2
        clear hHeld2
        clear H2
        have H2 : Hid _ := H2'
        clear H2'
        have H7 : Hid _ := hg2.out
        have HBW2 : Hid (Below w1.heap.size w1 wd27) := HBW.out.trans (hb2.mono HBW.out.size)
        clear HBW
        have HBW := HBW2
        have HSZwd27 : Hid (wd27.heap.size = wd2.heap.size + 1) := hs2.out
        clear hg2 hb2 hs2 hw2 HBW2 hx
        refine GoL.ready (rs := [5, 6]) (by kernel_rfl) (by simp) (by decide) ?_
        refine AllL.cons rfl (fun K hK => ?_) ?_
        · have hx := True.intro
          obtain ⟨wd275, hw2, hb2, hs3, hg3⟩ := alloc_facts wd27 (.cells Z 3)
          have hs2 : Hid _ := hs3
          have hg2 : Hid _ := hg3
          clear hs3 hg3
          have H2' := (hb2.block _ (Array.getElem?_eq_some_iff.1 H2.out).1).trans H2.out
          have H7' := (hb2.block _ (Array.getElem?_eq_some_iff.1 H7.out).1).trans H7.out
          have e2 : wd275.cell? ⟨gb, 0, none⟩ = some (.slice ao m cap) := (hb2.cell (World.block_lt_of_cell? wd27 _ hHeld)).trans hHeld
          go_simp
          refine hK.out _ _ e2 (fun hHeld2 => ?_)
          clear hK K e2 hHeld
          have hHeld := hHeld2
          clear hHeld2
          clear H2
          have H2 : Hid _ := H2'
          clear H2'
          clear H7
          have H7 : Hid _ := H7'
          clear H7'
          have H5 : Hid _ := hg2.out
          have HBW2 : Hid (Below w1.heap.size w1 wd275) := HBW.out.trans (hb2.mono HBW.out.size)
          clear HBW
          have HBW := HBW2
          have HSZwd275 : Hid (wd275.heap.size = wd27.heap.size + 1) := hs2.out
          clear hg2 hb2 hs2 hw2 HBW2 hx
          refine GoL.ready (rs := [6]) (by kernel_rfl) (by simp) (by decide) ?_
          refine AllL.cons rfl (fun K hK => ?_) ?_
          · have hx := True.intro
            obtain ⟨wd2756, hw2, hb2, hs3, hg3⟩ := alloc_facts wd275 (.cells #[.slice none 0 0] 22)
            have hs2 : Hid _ := hs3
            have hg2 : Hid _ := hg3
            clear hs3 hg3
            have H2' := (hb2.block _ (Array.getElem?_eq_some_iff.1 H2.out).1).trans H2.out
            have H5' := (hb2.block _ (Array.getElem?_eq_some_iff.1 H5.out).1).trans H5.out
            have H7' := (hb2.block _ (Array.getElem?_eq_some_iff.1 H7.out).1).trans H7.out
            have e2 : wd2756.cell? ⟨gb, 0, none⟩ = some (.slice ao m cap) := (hb2.cell (World.block_lt_of_cell? wd275 _ hHeld)).trans hHeld
            go_simp
            refine hK.out _ _ e2 (fun hHeld2 => ?_)
            clear hK K e2 hHeld
            have hHeld := hHeld2
            clear hHeld2
            clear H2
            have H2 : Hid _ := H2'
            clear H2'
            clear H5
            have H5 : Hid _ := H5'
            clear H5'
            clear H7
            have H7 : Hid _ := H7'
            clear H7'
            have H6 : Hid _ := hg2.out
            have HBW2 : Hid (Below w1.heap.size w1 wd2756) := HBW.out.trans (hb2.mono HBW.out.size)
            clear HBW
            have HBW := HBW2
            have HSZwd2756 : Hid (wd2756.heap.size = wd275.heap.size + 1) := hs2.out
            clear hg2 hb2 hs2 hw2 HBW2 hx
            refine GoL.ready (rs := [8]) (by kernel_rfl) (by simp) (by decide) ?_
            refine AllL.cons rfl (fun K hK => ?_) ?_
            · have hx := True.intro
              have cs9 : wd2756.cell? ⟨wd275.heap.size, 0, none⟩ = some (.slice none 0 0) := cell_of_row wd2756 _ 0 _ _ _ H6.out
              have cf9 : wd2756.frozen? ⟨wd275.heap.size, 0, none⟩ = false := by simp [World.frozen?, H6.out]
              obtain ⟨wd27568, hw2, hk2, hs3, hg3⟩ := set_facts wd2756 H6.out (.slice (some ⟨wd.heap.size, 0, none⟩) m m)
              have hs2 : Hid _ := hs3
              have hg2 : Hid _ := hg3
              clear hs3 hg3
              have H2' := (hk2.block _ (Array.getElem?_eq_some_iff.1 H2.out).1 (by have q0 := HGL.out; have q1 := HSZwd.out; have q2 := HSZwd2.out; have q3 := HSZwd27.out; have q4 := HSZwd275.out; have q5 := HSZwd2756.out; omega)).trans H2.out
              have H5' := (hk2.block _ (Array.getElem?_eq_some_iff.1 H5.out).1 (by have q0 := HGL.out; have q1 := HSZwd.out; have q2 := HSZwd2.out; have q3 := HSZwd27.out; have q4 := HSZwd275.out; have q5 := HSZwd2756.out; omega)).trans H5.out
              have H7' := (hk2.block _ (Array.getElem?_eq_some_iff.1 H7.out).1 (by have q0 := HGL.out; have q1 := HSZwd.out; have q2 := HSZwd2.out; have q3 := HSZwd27.out; have q4 := HSZwd275.out; have q5 := HSZwd2756.out; omega)).trans H7.out
              have e2 : wd27568.cell? ⟨gb, 0, none⟩ = some (.slice ao m cap) := hk2.cell hHeld (by simp only []; have q0 := HGL.out; have q1 := HSZwd.out; have q2 := HSZwd2.out; have q3 := HSZwd27.out; have q4 := HSZwd275.out; have q5 := HSZwd2756.out; omega)
              go_simp
              refine hK.out _ _ e2 (fun hHeld2 => ?_)
              clear hK K e2 hHeld cs9 cf9
              have hHeld := hHeld2
              clear hHeld2
              clear H2
              have H2 : Hid _ := H2'
              clear H2'
              clear H5
              have H5 : Hid _ := H5'
              clear H5'
              clear H6
              clear H7
              have H7 : Hid _ := H7'
              clear H7'
              have H8 : Hid _ := hg2.out
              have HBW2 : Hid (Below w1.heap.size w1 wd27568) := HBW.out.trans (hk2.below HBW.out.size (fun x e => (by have q0 := HGL.out; have q1 := HSZwd.out; have q2 := HSZwd2.out; have q3 := HSZwd27.out; have q4 := HSZwd275.out; have q5 := HSZwd2756.out; omega)))
              clear HBW
              have HBW := HBW2
              have HSZwd27568 : Hid (wd27568.heap.size = wd2756.heap.size) := hs2.out
              clear hg2 hk2 hs2 hw2 HBW2 hx
              refine GoL.last (by kernel_rfl) (by kernel_rfl) rfl (fun K hK => ?_)
              have ct9 : wd27568.cell? ⟨wd2.heap.size, 0, none⟩ = some (.slice none 0 0) := cell_of_row wd27568 _ 0 _ _ _ H7.out
              have cf9 : wd27568.frozen? ⟨wd2.heap.size, 0, none⟩ = false := by simp [World.frozen?, H7.out]
              go_simp
              refine hK.out _ _ ?_
              exact ⟨wd275.heap.size, wd2.heap.size, wd.heap.size, wd27.heap.size, ts_made HZ.out H8.out H7.out H2.out H5.out (by have q0 := HGL.out; have q1 := HSZwd.out; have q2 := HSZwd2.out; have q3 := HSZwd27.out; have q4 := HSZwd275.out; have q5 := HSZwd2756.out; have q6 := HSZwd27568.out; omega) (by have q0 := HGL.out; have q1 := HSZwd.out; have q2 := HSZwd2.out; have q3 := HSZwd27.out; have q4 := HSZwd275.out; have q5 := HSZwd2756.out; have q6 := HSZwd27568.out; omega), HBW.out.setCell (by simp only []; have q0 := HGL.out; have q1 := HSZwd.out; have q2 := HSZwd2.out; have q3 := HSZwd27.out; have q4 := HSZwd275.out; have q5 := HSZwd2756.out; have q6 := HSZwd27568.out; omega) _, rfl⟩
            exact AllL.nil
          exact AllL.nil
        refine AllL.cons rfl (fun K hK => ?_) ?_
        · have hx := True.intro
          obtain ⟨wd276, hw2, hb2, hs3, hg3⟩ := alloc_facts wd27 (.cells #[.slice none 0 0] 22)
          have hs2 : Hid _ := hs3
          have hg2 : Hid _ := hg3
          clear hs3 hg3
          have H2' := (hb2.block _ (Array.getElem?_eq_some_iff.1 H2.out).1).trans H2.out
          have H7' := (hb2.block _ (Array.getElem?_eq_some_iff.1 H7.out).1).trans H7.out
          have e2 : wd276.cell? ⟨gb, 0, none⟩ = some (.slice ao m cap) := (hb2.cell (World.block_lt_of_cell? wd27 _ hHeld)).trans hHeld
          go_simp
          refine hK.out _ _ e2 (fun hHeld2 => ?_)
          clear hK K e2 hHeld
          have hHeld := hHeld2
          clear hHeld2
          clear H2
          have H2 : Hid _ := H2'
          clear H2'
          clear H7
          have H7 : Hid _ := H7'
          clear H7'
          have H6 : Hid _ := hg2.out
          have HBW2 : Hid (Below w1.heap.size w1 wd276) := HBW.out.trans (hb2.mono HBW.out.size)
          clear HBW
          have HBW := HBW2
          have HSZwd276 : Hid (wd276.heap.size = wd27.heap.size + 1) := hs2.out
          clear hg2 hb2 hs2 hw2 HBW2 hx
          refine GoL.ready (rs := [5, 8]) (by kernel_rfl) (by simp) (by decide) ?_
          refine AllL.cons rfl (fun K hK => ?_) ?_
          · have hx := True.intro
            obtain ⟨wd2765, hw2, hb2, hs3, hg3⟩ := alloc_facts wd276 (.cells Z 3)
            have hs2 : Hid _ := hs3
            have hg2 : Hid _ := hg3
            clear hs3 hg3
            have H2' := (hb2.block _ (Array.getElem?_eq_some_iff.1 H2.out).1).trans H2.out
            have H6' := (hb2.block _ (Array.getElem?_eq_some_iff.1 H6.out).1).trans H6.out
            have H7' := (hb2.block _ (Array.getElem?_eq_some_iff.1 H7.out).1).trans H7.out
            have e2 : wd2765.cell? ⟨gb, 0, none⟩ = some (.slice ao m cap) := (hb2.cell (World.block_lt_of_cell? wd276 _ hHeld)).trans hHeld
            go_simp
            refine hK.out _ _ e2 (fun hHeld2 => ?_)
            clear hK K e2 hHeld
            have hHeld := hHeld2
            clear hHeld2
            clear H2
            have H2 : Hid _ := H2'
            clear H2'
            clear H6
            have H6 : Hid _ := H6'
            clear H6'
            clear H7
            have H7 : Hid _ := H7'
            clear H7'
            have H5 : Hid _ := hg2.out
            have HBW2 : Hid (Below w1.heap.size w1 wd2765) := HBW.out.trans (hb2.mono HBW.out.size)
            clear HBW
            have HBW := HBW2
            have HSZwd2765 : Hid (wd2765.heap.size = wd276.heap.size + 1) := hs2.out
            clear hg2 hb2 hs2 hw2 HBW2 hx
            refine GoL.ready (rs := [8]) (by kernel_rfl) (by simp) (by decide) ?_
            refine AllL.cons rfl (fun K hK => ?_) ?_
            · have hx := True.intro
              have cs9 : wd2765.cell? ⟨wd27.heap.size, 0, none⟩ = some (.slice none 0 0) := cell_of_row wd2765 _ 0 _ _ _ H6.out
              have cf9 : wd2765.frozen? ⟨wd27.heap.size, 0, none⟩ = false := by simp [World.frozen?, H6.out]
              obtain ⟨wd27658, hw2, hk2, hs3, hg3⟩ := set_facts wd2765 H6.out (.slice (some ⟨wd.heap.size, 0, none⟩) m m)
              have hs2 : Hid _ := hs3
              have hg2 : Hid _ := hg3
              clear hs3 hg3
              have H2' := (hk2.block _ (Array.getElem?_eq_some_iff.1 H2.out).1 (by have q0 := HGL.out; have q1 := HSZwd.out; have q2 := HSZwd2.out; have q3 := HSZwd27.out; have q4 := HSZwd276.out; have q5 := HSZwd2765.out; omega)).trans H2.out
              have H5' := (hk2.block _ (Array.getElem?_eq_some_iff.1 H5.out).1 (by have q0 := HGL.out; have q1 := HSZwd.out; have q2 := HSZwd2.out; have q3 := HSZwd27.out; have q4 := HSZwd276.out; have q5 := HSZwd2765.out; omega)).trans H5.out
              have H7' := (hk2.block _ (Array.getElem?_eq_some_iff.1 H7.out).1 (by have q0 := HGL.out; have q1 := HSZwd.out; have q2 := HSZwd2.out; have q3 := HSZwd27.out; have q4 := HSZwd276.out; have q5 := HSZwd2765.out; omega)).trans H7.out
              have e2 : wd27658.cell? ⟨gb, 0, none⟩ = some (.slice ao m cap) := hk2.cell hHeld (by simp only []; have q0 := HGL.out; have q1 := HSZwd.out; have q2 := HSZwd2.out; have q3 := HSZwd27.out; have q4 := HSZwd276.out; have q5 := HSZwd2765.out; omega)
              go_simp
              refine hK.out _ _ e2 (fun hHeld2 => ?_)
              clear hK K e2 hHeld cs9 cf9
              have hHeld := hHeld2
              clear hHeld2
              clear H2
              have H2 : Hid _ := H2'
              clear H2'
              clear H5
              have H5 : Hid _ := H5'
              clear H5'
              clear H6
              clear H7
              have H7 : Hid _ := H7'
              clear H7'
              have H8 : Hid _ := hg2.out
              have HBW2 : Hid (Below w1.heap.size w1 wd27658) := HBW.out.trans (hk2.below HBW.out.size (fun x e => (by have q0 := HGL.out; have q1 := HSZwd.out; have q2 := HSZwd2.out; have q3 := HSZwd27.out; have q4 := HSZwd276.out; have q5 := HSZwd2765.out; omega)))
              clear HBW
              have HBW := HBW2
              have HSZwd27658 : Hid (wd27658.heap.size = wd2765.heap.size) := hs2.out
              clear hg2 hk2 hs2 hw2 HBW2 hx
              refine GoL.last (by kernel_rfl) (by kernel_rfl) rfl (fun K hK => ?_)
              have ct9 : wd27658.cell? ⟨wd2.heap.size, 0, none⟩ = some (.slice none 0 0) := cell_of_row wd27658 _ 0 _ _ _ H7.out
              have cf9 : wd27658.frozen? ⟨wd2.heap.size, 0, none⟩ = false := by simp [World.frozen?, H7.out]
              go_simp
              refine hK.out _ _ ?_
              exact ⟨wd27.heap.size, wd2.heap.size, wd.heap.size, wd276.heap.size, ts_made HZ.out H8.out H7.out H2.out H5.out (by have q0 := HGL.out; have q1 := HSZwd.out; have q2 := HSZwd2.out; have q3 := HSZwd27.out; have q4 := HSZwd276.out; have q5 := HSZwd2765.out; have q6 := HSZwd27658.out; omega) (by have q0 := HGL.out; have q1 := HSZwd.out; have q2 := HSZwd2.out; have q3 := HSZwd27.out; have q4 := HSZwd276.out; have q5 := HSZwd2765.out; have q6 := HSZwd27658.out; omega), HBW.out.setCell (by simp only []; have q0 := HGL.out; have q1 := HSZwd.out; have q2 := HSZwd2.out; have q3 := HSZwd27.out; have q4 := HSZwd276.out; have q5 := HSZwd2765.out; have q6 := HSZwd27658.out; omega) _, rfl⟩
            exact AllL.nil
          refine AllL.cons rfl (fun K hK => ?_) ?_
          · have hx := True.intro
            have cs9 : wd276.cell? ⟨wd27.heap.size, 0, none⟩ = some (.slice none 0 0) := cell_of_row wd276 _ 0 _ _ _ H6.out
            have cf9 : wd276.frozen? ⟨wd27.heap.size, 0, none⟩ = false := by simp [World.frozen?, H6.out]
            obtain ⟨wd2768, hw2, hk2, hs3, hg3⟩ := set_facts wd276 H6.out (.slice (some ⟨wd.heap.size, 0, none⟩) m m)
            have hs2 : Hid _ := hs3
            have hg2 : Hid _ := hg3
            clear hs3 hg3
            have H2' := (hk2.block _ (Array.getElem?_eq_some_iff.1 H2.out).1 (by have q0 := HGL.out; have q1 := HSZwd.out; have q2 := HSZwd2.out; have q3 := HSZwd27.out; have q4 := HSZwd276.out; omega)).trans H2.out
            have H7' := (hk2.block _ (Array.getElem?_eq_some_iff.1 H7.out).1 (by have q0 := HGL.out; have q1 := HSZwd.out; have q2 := HSZwd2.out; have q3 := HSZwd27.out; have q4 := HSZwd276.out; omega)).trans H7.out
            have e2 : wd2768.cell? ⟨gb, 0, none⟩ = some (.slice ao m cap) := hk2.cell hHeld (by simp only []; have q0 := HGL.out; have q1 := HSZwd.out; have q2 := HSZwd2.out; have q3 := HSZwd27.out; have q4 := HSZwd276.out; omega)
            go_simp
            refine hK.out _ _ e2 (fun hHeld2 => ?_)
            clear hK K e2 hHeld cs9 cf9
            have hHeld := hHeld2
            clear hHeld2
            clear H2
            have H2 : Hid _ := H2'
            clear H2'
            clear H6
            clear H7
            have H7 : Hid _ := H7'
            clear H7'
            have H8 : Hid _ := hg2.out
            have HBW2 : Hid (Below w1.heap.size w1 wd2768) := HBW.out.trans (hk2.below HBW.out.size (fun x e => (by have q0 := HGL.out; have q1 := HSZwd.out; have q2 := HSZwd2.out; have q3 := HSZwd27.out; have q4 := HSZwd276.out; omega)))
            clear HBW
            have HBW := HBW2
            have HSZwd2768 : Hid (wd2768.heap.size = wd276.heap.size) := hs2.out
            clear hg2 hk2 hs2 hw2 HBW2 hx
            refine GoL.ready (rs := [5]) (by kernel_rfl) (by simp) (by decide) ?_
            refine AllL.cons rfl (fun K hK => ?_) ?_
            · have hx := True.intro
              obtain ⟨wd27685, hw2, hb2, hs3, hg3⟩ := alloc_facts wd2768 (.cells Z 3)
              have hs2 : Hid _ := hs3
              have hg2 : Hid _ := hg3
              clear hs3 hg3
              have H2' := (hb2.block _ (Array.getElem?_eq_some_iff.1 H2.out).1).trans H2.out
              have H7' := (hb2.block _ (Array.getElem?_eq_some_iff.1 H7.out).1).trans H7.out
              have H8' := (hb2.block _ (Array.getElem?_eq_some_iff.1 H8.out).1).trans H8.out
              have e2 : wd27685.cell? ⟨gb, 0, none⟩ = some (.slice ao m cap) := (hb2.cell (World.block_lt_of_cell? wd2768 _ hHeld)).trans hHeld
              go_simp
              refine hK.out _ _ e2 (fun hHeld2 => ?_)
              clear hK K e2 hHeld
              have hHeld := hHeld2
              clear hHeld2
              clear H2
              have H2 : Hid _ := H2'
              clear H2'
              clear H7
              have H7 : Hid _ := H7'
              clear H7'
              clear H8
              have H8 : Hid _ := H8'
              clear H8'
              have H5 : Hid _ := hg2.out
              have HBW2 : Hid (Below w1.heap.size w1 wd27685) := HBW.out.trans (hb2.mono HBW.out.size)
              clear HBW
              have HBW := HBW2
              have HSZwd27685 : Hid (wd27685.heap.size = wd2768.heap.size + 1) := hs2.out
              clear hg2 hb2 hs2 hw2 HBW2 hx
              refine GoL.last (by kernel_rfl) (by kernel_rfl) rfl (fun K hK => ?_)
              have ct9 : wd27685.cell? ⟨wd2.heap.size, 0, none⟩ = some (.slice none 0 0) := cell_of_row wd27685 _ 0 _ _ _ H7.out
              have cf9 : wd27685.frozen? ⟨wd2.heap.size, 0, none⟩ = false := by simp [World.frozen?, H7.out]
              go_simp
              refine hK.out _ _ ?_
              exact ⟨wd27.heap.size, wd2.heap.size, wd.heap.size, wd2768.heap.size, ts_made HZ.out H8.out H7.out H2.out H5.out (by have q0 := HGL.out; have q1 := HSZwd.out; have q2 := HSZwd2.out; have q3 := HSZwd27.out; have q4 := HSZwd276.out; have q5 := HSZwd2768.out; have q6 := HSZwd27685.out; omega) (by have q0 := HGL.out; have q1 := HSZwd.out; have q2 := HSZwd2.out; have q3 := HSZwd27.out; have q4 := HSZwd276.out; have q5 := HSZwd2768.out; have q6 := HSZwd27685.out; omega), HBW.out.setCell (by simp only []; have q0 := HGL.out; have q1 := HSZwd.out; have q2 := HSZwd2.out; have q3 := HSZwd27.out; have q4 := HSZwd276.out; have q5 := HSZwd2768.out; have q6 := HSZwd27685.out; omega) _, rfl⟩
            exact AllL.nil
          exact AllL.nil
        exact AllL.nil
      exact AllL.nil
    refine AllL.cons rfl (fun K hK => ?_) ?_
    · have hx := True.intro
      obtain ⟨wd5, hw2, hb2, hs3, hg3⟩ := alloc_facts wd (.cells Z 3)
      have hs2 : Hid _ := hs3
      have hg2 : Hid _ := hg3
      clear hs3 hg3
      have e2 : wd5.cell? ⟨gb, 0, none⟩ = some (.slice ao m cap) := (hb2.cell (World.block_lt_of_cell? wd _ hHeld)).trans hHeld
      go_simp
      refine hK.out _ _ e2 (fun hHeld2 => ?_)
      clear hK K e2 hHeld
      have hHeld := hHeld2
      clear hHeld2
      have H5 : Hid _ := hg2.out
      have HBW2 : Hid (Below w1.heap.size w1 wd5) := HBW.out.trans (hb2.mono HBW.out.size)
      clear HBW
      have HBW := HBW2
      have HSZwd5 : Hid (wd5.heap.size = wd.heap.size + 1) := hs2.out
      clear hg2 hb2 hs2 hw2 HBW2 hx
      refine GoL.ready (rs := [2, 6, 7]) (by kernel_rfl) (by simp) (by decide) ?_
      refine AllL.cons rfl (fun K hK => ?_) ?_
      · have hx := True.intro
        obtain ⟨wd52, hw2, hb2, hs3, hg3⟩ := alloc_facts wd5 (.cells Z 3)
        have hs2 : Hid _ := hs3
        have hg2 : Hid _ := hg3
        clear hs3 hg3
        have H5' := (hb2.block _ (Array.getElem?_eq_some_iff.1 H5.out).1).trans H5.out
        have e2 : wd52.cell? ⟨gb, 0, none⟩ = some (.slice ao m cap) := (hb2.cell (World.block_lt_of_cell? wd5 _ hHeld)).trans hHeld
        go_simp
        refine hK.out _ _ e2 (fun hHeld2 => ?_)
        clear hK K e2 hHeld
        have hHeld := hHeld2
        clear hHeld2
        clear H5
        have H5 : Hid _ := H5'
        clear H5'
        have H2 : Hid _ := hg2.out
        have HBW2 : Hid (Below w1.heap.size w1 wd52) := HBW.out.trans (hb2.mono HBW.out.size)
        clear HBW
        have HBW := HBW2
        have HSZwd52 : Hid (wd52.heap.size = wd5.heap.size + 1) := hs2.out
        clear hg2 hb2 hs2 hw2 HBW2 hx
        refine GoL.ready (rs := [6, 7]) (by kernel_rfl) (by simp) (by decide) ?_
        refine AllL.cons rfl (fun K hK => ?_) ?_
        · have hx := True.intro
          obtain ⟨wd526, hw2, hb2, hs3, hg3⟩ := alloc_facts wd52 (.cells #[.slice none 0 0] 22)
          have hs2 : Hid _ := hs3
          have hg2 : Hid _ := hg3
          clear hs3 hg3
          have H2' := (hb2.block _ (Array.getElem?_eq_some_iff.1 H2.out).1).trans H2.out
          have H5' := (hb2.block _ (Array.getElem?_eq_some_iff.1 H5.out).1).trans H5.out
          have e2 : wd526.cell? ⟨gb, 0, none⟩ = some (.slice ao m cap) := (hb2.cell (World.block_lt_of_cell? wd52 _ hHeld)).trans hHeld
          go_simp
          refine hK.out _ _ e2 (fun hHeld2 => ?_)
          clear hK K e2 hHeld
          have hHeld := hHeld2
          clear hHeld2
          clear H2
          have H2 : Hid _ := H2'
          clear H2'
          clear H5
          have H5 : Hid _ := H5'
          clear H5'
          have H6 : Hid _ := hg2.out
          have HBW2 : Hid (Below w1.heap.size w1 wd526) := HBW.out.trans (hb2.mono HBW.out.size)
          clear HBW
          have HBW := HBW2
          have HSZwd526 : Hid (wd526.heap.size = wd52.heap.size + 1) := hs2.out
          clear hg2 hb2 hs2 hw2 HBW2 hx
          refine GoL.ready (rs := [7]) (by kernel_rfl) (by simp) (by decide) ?_
          refine AllL.cons rfl (fun K hK => ?_) ?_
          · have hx := True.intro
            obtain ⟨wd5267, hw2, hb2, hs3, hg3⟩ := alloc_facts wd526 (.cells #[.slice none 0 0] 22)
            have hs2 : Hid _ := hs3
            have hg2 : Hid _ := hg3
            clear hs3 hg3
            have H2' := (hb2.block _ (Array.getElem?_eq_some_iff.1 H2.out).1).trans H2.out
            have H5' := (hb2.block _ (Array.getElem?_eq_some_iff.1 H5.out).1).trans H5.out
            have H6' := (hb2.block _ (Array.getElem?_eq_some_iff.1 H6.out).1).trans H6.out
            have e2 : wd5267.cell? ⟨gb, 0, none⟩ = some (.slice ao m cap) := (hb2.cell (World.block_lt_of_cell? wd526 _ hHeld)).trans hHeld
            go_simp
            refine hK.out _ _ e2 (fun hHeld2 => ?_)
            clear hK K e2 hHeld
            have hHeld := hHeld2
            clear hHeld2
            clear H2
            have H2 : Hid _ := H2'
            clear H2'
            clear H5
            have H5 : Hid _ := H5'
            clear H5'
            clear H6
            have H6 : Hid _ := H6'
            clear H6'
            have H7 : Hid _ := hg2.out
            have HBW2 : Hid (Below w1.heap.size w1 wd5267) := HBW.out.trans (hb2.mono HBW.out.size)
            clear HBW
            have HBW := HBW2
            have HSZwd5267 : Hid (wd5267.heap.size = wd526.heap.size + 1) := hs2.out
            clear hg2 hb2 hs2 hw2 HBW2 hx
            refine GoL.ready (rs := [8]) (by kernel_rfl) (by simp) (by decide) ?_
            refine AllL.cons rfl (fun K hK => ?_) ?_
            · have hx := True.intro
              have cs9 : wd5267.cell? ⟨wd52.heap.size, 0, none⟩ = some (.slice none 0 0) := cell_of_row wd5267 _ 0 _ _ _ H6.out
              have cf9 : wd5267.frozen? ⟨wd52.heap.size, 0, none⟩ = false := by simp [World.frozen?, H6.out]
              obtain ⟨wd52678, hw2, hk2, hs3, hg3⟩ := set_facts wd5267 H6.out (.slice (some ⟨wd5.heap.size, 0, none⟩) m m)
              have hs2 : Hid _ := hs3
              have hg2 : Hid _ := hg3
              clear hs3 hg3
              have H2' := (hk2.block _ (Array.getElem?_eq_some_iff.1 H2.out).1 (by have q0 := HGL.out; have q1 := HSZwd.out; have q2 := HSZwd5.out; have q3 := HSZwd52.out; have q4 := HSZwd526.out; have q5 := HSZwd5267.out; omega)).trans H2.out
              have H5' := (hk2.block _ (Array.getElem?_eq_some_iff.1 H5.out).1 (by have q0 := HGL.out; have q1 := HSZwd.out; have q2 := HSZwd5.out; have q3 := HSZwd52.out; have q4 := HSZwd526.out; have q5 := HSZwd5267.out; omega)).trans H5.out
              have H7' := (hk2.block _ (Array.getElem?_eq_some_iff.1 H7.out).1 (by have q0 := HGL.out; have q1 := HSZwd.out; have q2 := HSZwd5.out; have q3 := HSZwd52.out; have q4 := HSZwd526.out; have q5 := HSZwd5267.out; omega)).trans H7.out
              have e2 : wd52678.cell? ⟨gb, 0, none⟩ = some (.slice ao m cap) := hk2.cell hHeld (by simp only []; have q0 := HGL.out; have q1 := HSZwd.out; have q2 := HSZwd5.out; have q3 := HSZwd52.out; have q4 := HSZwd526.out; have q5 := HSZwd5267.out; omega)
              go_simp
              refine hK.out _ _ e2 (fun hHeld2 => ?_)
              clear hK K e2 hHeld cs9 cf9
              have hHeld := hHeld2
              clear hHeld2
              clear H2
              have H2 : Hid _ := H2'
              clear H2'
              clear H5
              have H5 : Hid _ := H5'
              clear H5'
              clear H6
              clear H7
              have H7 : Hid _ := H7'
              clear H7'
              have H8 : Hid _ := hg2.out
              have HBW2 : Hid (Below w1.heap.size w1 wd52678) := HBW.out.trans (hk2.below HBW.out.size (fun x e => (by have q0 := HGL.out; have q1 := HSZwd.out; have q2 := HSZwd5.out; have q3 := HSZwd52.out; have q4 := HSZwd526.out; have q5 := HSZwd5267.out; omega)))
              clear HBW
              have HBW := HBW2
              have HSZwd52678 : Hid (wd52678.heap.size = wd5267.heap.size) := hs2.out
              clear hg2 hk2 hs2 hw2 HBW2 hx
              refine GoL.last (by kernel_rfl) (by kernel_rfl) rfl (fun K hK => ?_)
              have ct9 : wd52678.cell? ⟨wd526.heap.size, 0, none⟩ = some (.slice none 0 0) := cell_of_row wd52678 _ 0 _ _ _ H7.out
              have cf9 : wd52678.frozen? ⟨wd526.heap.size, 0, none⟩ = false := by simp [World.frozen?, H7.out]
              go_simp
              refine hK.out _ _ ?_
              exact ⟨wd52.heap.size, wd526.heap.size, wd5.heap.size, wd.heap.size, ts_made HZ.out H8.out H7.out H2.out H5.out (by have q0 := HGL.out; have q1 := HSZwd.out; have q2 := HSZwd5.out; have q3 := HSZwd52.out; have q4 := HSZwd526.out; have q5 := HSZwd5267.out; have q6 := HSZwd52678.out; omega) (by have q0 := HGL.out; have q1 := HSZwd.out; have q2 := HSZwd5.out; have q3 := HSZwd52.out; have q4 := HSZwd526.out; have q5 := HSZwd5267.out; have q6 := HSZwd52678.out; omega), HBW.out.setCell (by simp only []; have q0 := HGL.out; have q1 := HSZwd.out; have q2 := HSZwd5.out; have q3 := HSZwd52.out; have q4 := HSZwd526.out; have q5 := HSZwd5267.out; have q6 := HSZwd52678.out; omega) _, rfl⟩
            exact AllL.nil
          exact AllL.nil
        refine AllL.cons rfl (fun K hK => ?_) ?_
        · have hx := True.intro
          obtain ⟨wd527, hw2, hb2, hs3, hg3⟩ := alloc_facts wd52 (.cells #[.slice none 0 0] 22)
          have hs2 : Hid _ := hs3
          have hg2 : Hid _ := hg3
          clear hs3 hg3
          have H2' := (hb2.block _ (Array.getElem?_eq_some_iff.1 H2.out).1).trans H2.out
          have H5' := (hb2.block _ (Array.getElem?_eq_some_iff.1 H5.out).1).trans H5.out
          have e2 : wd527.cell? ⟨gb, 0, none⟩ = some (.slice ao m cap) := (hb2.cell (World.block_lt_of_cell? wd52 _ hHeld)).trans hHeld
          go_simp
          refine hK.out _ _ e2 (fun hHeld2 => ?_)
          clear hK K e2 hHeld
          have hHeld := hHeld2
          clear hHeld2
          clear H2
          have H2 : Hid _ := H2'
          clear H2'
          clear H5
          have H5 : Hid _ := H5'
          clear H5'
          have H7 : Hid _ := hg2.out
          have HBW2 : Hid (Below w1.heap.size w1 wd527) := HBW.out.trans (hb2.mono HBW.out.size)
          clear HBW
          have HBW := HBW2
          have HSZwd527 : Hid (wd527.heap.size = wd52.heap.size + 1) := hs2.out
          clear hg2 hb2 hs2 hw2 HBW2 hx
          refine GoL.ready (rs := [6]) (by kernel_rfl) (by simp) (by decide) ?_
          refine AllL.cons rfl (fun K hK => ?_) ?_
          · have hx := True.intro
            obtain ⟨wd5276, hw2, hb2, hs3, hg3⟩ := alloc_facts wd527 (.cells #[.slice none 0 0] 22)
            have hs2 : Hid _ := hs3
            have hg2 : Hid _ := hg3
            clear hs3 hg3
            have H2' := (hb2.block _ (Array.getElem?_eq_some_iff.1 H2.out).1).trans H2.out
            have H5' := (hb2.block _ (Array.getElem?_eq_some_iff.1 H5.out).1).trans H5.out
            have H7' := (hb2.block _ (Array.getElem?_eq_some_iff.1 H7.out).1).trans H7.out
            have e2 : wd5276.cell? ⟨gb, 0, none⟩ = some (.slice ao m cap) := (hb2.cell (World.block_lt_of_cell? wd527 _ hHeld)).trans hHeld
            go_simp
            refine hK.out _ _ e2 (fun hHeld2 => ?_)
            clear hK K e2 hHeld
            have hHeld := hHeld2
            clear hHeld2
            clear H2
            have H2 : Hid _ := H2'
            clear H2'
            clear H5
            have H5 : Hid _ := H5'
            clear H5'
            clear H7
            have H7 : Hid _ := H7'
            clear H7'
            have H6 : Hid _ := hg2.out
            have HBW2 : Hid (Below w1.heap.size w1 wd5276) := HBW.out.trans (hb2.mono HBW.out.size)
            clear HBW
            have HBW := HBW2
            have HSZwd5276 : Hid (wd5276.heap.size = wd527.heap.size + 1) := hs2.out
            clear hg2 hb2 hs2 hw2 HBW2 hx
            refine GoL.ready (rs := [8]) (by kernel_rfl) (by simp) (by decide) ?_
            refine AllL.cons rfl (fun K hK => ?_) ?_
            · have hx := True.intro
              have cs9 : wd5276.cell? ⟨wd527.heap.size, 0, none⟩ = some (.slice none 0 0) := cell_of_row wd5276 _ 0 _ _ _ H6.out
              have cf9 : wd5276.frozen? ⟨wd527.heap.size, 0, none⟩ = false := by simp [World.frozen?, H6.out]
              obtain ⟨wd52768, hw2, hk2, hs3, hg3⟩ := set_facts wd5276 H6.out (.slice (some ⟨wd5.heap.size, 0, none⟩) m m)
              have hs2 : Hid _ := hs3
              have hg2 : Hid _ := hg3
              clear hs3 hg3
              have H2' := (hk2.block _ (Array.getElem?_eq_some_iff.1 H2.out).1 (by have q0 := HGL.out; have q1 := HSZwd.out; have q2 := HSZwd5.out; have q3 := HSZwd52.out; have q4 := HSZwd527.out; have q5 := HSZwd5276.out; omega)).trans H2.out
              have H5' := (hk2.block _ (Array.getElem?_eq_some_iff.1 H5.out).1 (by have q0 := HGL.out; have q1 := HSZwd.out; have q2 := HSZwd5.out; have q3 := HSZwd52.out; have q4 := HSZwd527.out; have q5 := HSZwd5276.out; omega)).trans H5.out
              have H7' := (hk2.block _ (Array.getElem?_eq_some_iff.1 H7.out).1 (by have q0 := HGL.out; have q1 := HSZwd.out; have q2 := HSZwd5.out; have q3 := HSZwd52.out; have q4 := HSZwd527.out; have q5 := HSZwd5276.out; omega)).trans H7.out
              have e2 : wd52768.cell? ⟨gb, 0, none⟩ = some (.slice ao m cap) := hk2.cell hHeld (by simp only []; have q0 := HGL.out; have q1 := HSZwd.out; have q2 := HSZwd5.out; have q3 := HSZwd52.out; have q4 := HSZwd527.out; have q5 := HSZwd5276.out; omega)
              go_simp
              refine hK.out _ _ e2 (fun hHeld2 => ?_)
              clear hK K e2 hHeld cs9 cf9
              have hHeld := hHeld2
              clear hHeld2
              clear H2
              have H2 : Hid _ := H2'
              clear H2'
              clear H5
              have H5 : Hid _ := H5'
              clear H5'
              clear H6
              clear H7
              have H7 : Hid _ := H7'
              clear H7'
              have H8 : Hid _ := hg2.out
              have HBW2 : Hid (Below w1.heap.size w1 wd52768) := HBW.out.trans (hk2.below HBW.out.size (fun x e => (by have q0 := HGL.out; have q1 := HSZwd.out; have q2 := HSZwd5.out; have q3 := HSZwd52.out; have q4 := HSZwd527.out; have q5 := HSZwd5276.out; omega)))
              clear HBW
              have HBW := HBW2
              have HSZwd52768 : Hid (wd52768.heap.size = wd5276.heap.size) := hs2.out
              clear hg2 hk2 hs2 hw2 HBW2 hx
              refine GoL.last (by kernel_rfl) (by kernel_rfl) rfl (fun K hK => ?_)
              have ct9 : wd52768.cell? ⟨wd52.heap.size, 0, none⟩ = some (.slice none 0 0) := cell_of_row wd52768 _ 0 _ _ _ H7.out
              have cf9 : wd52768.frozen? ⟨wd52.heap.size, 0, none⟩ = false := by simp [World.frozen?, H7.out]
              go_simp
              refine hK.out _ _ ?_
              exact ⟨wd527.heap.size, wd52.heap.size, wd5.heap.size, wd.heap.size, ts_made HZ.out H8.out H7.out H2.out H5.out (by have q0 := HGL.out; have q1 := HSZwd.out; have q2 := HSZwd5.out; have q3 := HSZwd52.out; have q4 := HSZwd527.out; have q5 := HSZwd5276.out; have q6 := HSZwd52768.out; omega) (by have q0 := HGL.out; have q1 := HSZwd.out; have q2 := HSZwd5.out; have q3 := HSZwd52.out; have q4 := HSZwd527.out; have q5 := HSZwd5276.out; have q6 := HSZwd52768.out; omega), HBW.out.setCell (by simp only []; have q0 := HGL.out; have q1 := HSZwd.out; have q2 := HSZwd5.out; have q3 := HSZwd52.out; have q4 := HSZwd527.out; have q5 := HSZwd5276.out; have q6 := HSZwd52768.out; omega) _, rfl⟩
            exact AllL.nil
          exact AllL.nil
        exact AllL.nil
      refine AllL.cons rfl (fun K hK => ?_) ?_
      · have hx := True.intro
        obtain ⟨wd56, hw2, hb2, hs3, hg3⟩ := alloc_facts wd5 (.cells #[.slice none 0 0] 22)
        have hs2 : Hid _ := hs3
        have hg2 : Hid _ := hg3
        clear hs3 hg3
        have H5' := (hb2.block _ (Array.getElem?_eq_some_iff.1 H5.out).1).trans H5.out
        have e2 : wd56.cell? ⟨gb, 0, none⟩ = some (.slice ao m cap) := (hb2.cell (World.block_lt_of_cell? wd5 _ hHeld)).trans hHeld
        go_simp
        refine hK.out _ _ e2 (fun hHeld2 => ?_)
        clear hK K e2 hHeld
        have hHeld := hHeld2
        clear hHeld2
        clear H5
        have H5 : Hid _ := H5'
        clear H5'
        have H6 : Hid _ := hg2.out
        have HBW2 : Hid (Below w1.heap.size w1 wd56) := HBW.out.trans (hb2.mono HBW.out.size)
        clear HBW
        have HBW := HBW2
        have HSZwd56 : Hid (wd56.heap.size = wd5.heap.size + 1) := hs2.out
        clear hg2 hb2 hs2 hw2 HBW2 hx
        refine GoL.ready (rs := [2, 7]) (by kernel_rfl) (by simp) (by decide) ?_
        refine AllL.cons rfl (fun K hK => ?_) ?_
        · have hx := True.intro
          obtain ⟨wd562, hw2, hb2, hs3, hg3⟩ := alloc_facts wd56 (.cells Z 3)
          have hs2 : Hid _ := hs3
          have hg2 : Hid _ := hg3
          clear hs3 hg3
          have H5' := (hb2.block _ (Array.getElem?_eq_some_iff.1 H5.out).1).trans H5.out
          have H6' := (hb2.block _ (Array.getElem?_eq_some_iff.1 H6.out).1).trans H6.out
          have e2 : wd562.cell? ⟨gb, 0, none⟩ = some (.slice ao m cap) := (hb2.cell (World.block_lt_of_cell? wd56 _ hHeld)).trans hHeld
          go_simp
          refine hK.out _ _ e2 (fun hHeld2 => ?_)
          clear hK K e2 hHeld
          have hHeld := hHeld2
          clear hHeld2
          clear H5
          have H5 : Hid _ := H5'
          clear H5'
          clear H6
          have H6 : Hid _ := H6'
          clear H6'
          have H2 : Hid _ := hg2.out
          have HBW2 : Hid (Below w1.heap.size w1 wd562) := HBW.out.trans (hb2.mono HBW.out.size)
          clear HBW
          have HBW := HBW2
          have HSZwd562 : Hid (wd562.heap.size = wd56.heap.size + 1) := hs2.out
          clear hg2 hb2 hs2 hw2 HBW2 hx
          refine GoL.ready (rs := [7]) (by kernel_rfl) (by simp) (by decide) ?_
          refine AllL.cons rfl (fun K hK => ?_) ?_
          · have hx := True.intro
            obtain ⟨wd5627, hw2, hb2, hs3, hg3⟩ := alloc_facts wd562 (.cells #[.slice none 0 0] 22)
            have hs2 : Hid _ := hs3
            have hg2 : Hid _ := hg3
            clear hs3 hg3
            have H2' := (hb2.block _ (Array.getElem?_eq_some_iff.1 H2.out).1).trans H2.out
            have H5' := (hb2.block _ (Array.getElem?_eq_some_iff.1 H5.out).1).trans H5.out
            have H6' := (hb2.block _ (Array.getElem?_eq_some_iff.1 H6.out).1).trans H6.out
            have e2 : wd5627.cell? ⟨gb, 0, none⟩ = some (.slice ao m cap) := (hb2.cell (World.block_lt_of_cell? wd562 _ hHeld)).trans hHeld
            go_simp
            refine hK.out _ _ e2 (fun hHeld2 => ?_)
            clear hK K e2 hHeld
            have hHeld := hHeld2
            clear hHeld2
            clear H2
            have H2 : Hid _ := H2'
            clear H2'
            clear H5
            have H5 : Hid _ := H5'
            clear H5'
            clear H6
            have H6 : Hid _ := H6'
            clear H6'
            have H7 : Hid _ := hg2.out
            have HBW2 : Hid (Below w1.heap.size w1 wd5627) := HBW.out.trans (hb2.mono HBW.out.size)
            clear HBW
            have HBW := HBW2
            have HSZwd5627 : Hid (wd5627.heap.size = wd562.heap.size + 1) := hs2.out
            clear hg2 hb2 hs2 hw2 HBW2 hx
            refine GoL.ready (rs := [8]) (by kernel_rfl) (by simp) (by decide) ?_
            refine AllL.cons rfl (fun K hK => ?_) ?_
            · have hx := True.intro
              have cs9 : wd5627.cell? ⟨wd5.heap.size, 0, none⟩ = some (.slice none 0 0) := cell_of_row wd5627 _ 0 _ _ _ H6.out
              have cf9 : wd5627.frozen? ⟨wd5.heap.size, 0, none⟩ = false := by simp [World.frozen?, H6.out]
              obtain ⟨wd56278, hw2, hk2, hs3, hg3⟩ := set_facts wd5627 H6.out (.slice (some ⟨wd56.heap.size, 0, none⟩) m m)
              have hs2 : Hid _ := hs3
              have hg2 : Hid _ := hg3
              clear hs3 hg3
              have H2' := (hk2.block _ (Array.getElem?_eq_some_iff.1 H2.out).1 (by have q0 := HGL.out; have q1 := HSZwd.out; have q2 := HSZwd5.out; have q3 := HSZwd56.out; have q4 := HSZwd562.out; have q5 := HSZwd5627.out; omega)).trans H2.out
              have H5' := (hk2.block _ (Array.getElem?_eq_some_iff.1 H5.out).1 (by have q0 := HGL.out; have q1 := HSZwd.out; have q2 := HSZwd5.out; have q3 := HSZwd56.out; have q4 := HSZwd562.out; have q5 := HSZwd5627.out; omega)).trans H5.out
              have H7' := (hk2.block _ (Array.getElem?_eq_some_iff.1 H7.out).1 (by have q0 := HGL.out; have q1 := HSZwd.out; have q2 := HSZwd5.out; have q3 := HSZwd56.out; have q4 := HSZwd562.out; have q5 := HSZwd5627.out; omega)).trans H7.out
              have e2 : wd56278.cell? ⟨gb, 0, none⟩ = some (.slice ao m cap) := hk2.cell hHeld (by simp only []; have q0 := HGL.out; have q1 := HSZwd.out; have q2 := HSZwd5.out; have q3 := HSZwd56.out; have q4 := HSZwd562.out; have q5 := HSZwd5627.out; omega)
              go_simp
              refine hK.out _ _ e2 (fun hHeld2 => ?_)
              clear hK K e2 hHeld cs9 cf9
              have hHeld := hHeld2
              clear hHeld2
              clear H2
              have H2 : Hid _ := H2'
              clear H2'
              clear H5
              have H5 : Hid _ := H5'
              clear H5'
              clear H6
              clear H7
              have H7 : Hid _ := H7'
              clear H7'
              have H8 : Hid _ := hg2.out
              have HBW2 : Hid (Below w1.heap.size w1 wd56278) := HBW.out.trans (hk2.below HBW.out.size (fun x e => (by have q0 := HGL.out; have q1 := HSZwd.out; have q2 := HSZwd5.out; have q3 := HSZwd56.out; have q4 := HSZwd562.out; have q5 := HSZwd5627.out; omega)))
              clear HBW
              have HBW := HBW2
              have HSZwd56278 : Hid (wd56278.heap.size = wd5627.heap.size) := hs2.out
              clear hg2 hk2 hs2 hw2 HBW2 hx
              refine GoL.last (by kernel_rfl) (by kernel_rfl) rfl (fun K hK => ?_)
              have ct9 : wd56278.cell? ⟨wd562.heap.size, 0, none⟩ = some (.slice none 0 0) := cell_of_row wd56278 _ 0 _ _ _ H7.out
              have cf9 : wd56278.frozen? ⟨wd562.heap.size, 0, none⟩ = false := by simp [World.frozen?, H7.out]
              go_simp
              refine hK.out _ _ ?_
              exact ⟨wd5.heap.size, wd562.heap.size, wd56.heap.size, wd.heap.size, ts_made HZ.out H8.out H7.out H2.out H5.out (by have q0 := HGL.out; have q1 := HSZwd.out; have q2 := HSZwd5.out; have q3 := HSZwd56.out; have q4 := HSZwd562.out; have q5 := HSZwd5627.out; have q6 := HSZwd56278.out; omega) (by have q0 := HGL.out; have q1 := HSZwd.out; have q2 := HSZwd5.out; have q3 := HSZwd56.out; have q4 := HSZwd562.out; have q5 := HSZwd5627.out; have q6 := HSZwd56278.out; omega), HBW.out.setCell (by simp only []; have q0 := HGL.out; have q1 := HSZwd.out; have q2 := HSZwd5.out; have q3 := HSZwd56.out; have q4 := HSZwd562.out; have q5 := HSZwd5627.out; have q6 := HSZwd56278.out; omega) _, rfl⟩
            exact AllL.nil
          exact AllL.nil
        refine AllL.cons rfl (fun K hK => ?_) ?_
        · have hx := True.intro
          obtain ⟨wd567, hw2, hb2, hs3, hg3⟩ := alloc_facts wd56 (.cells #[.slice none 0 0] 22)
          have hs2 : Hid _ := hs3
          have hg2 : Hid _ := hg3
          clear hs3 hg3
          have H5' := (hb2.block _ (Array.getElem?_eq_some_iff.1 H5.out).1).trans H5.out
          have H6' := (hb2.block _ (Array.getElem?_eq_some_iff.1 H6.out).1).trans H6.out
          have e2 : wd567.cell? ⟨gb, 0, none⟩ = some (.slice ao m cap) := (hb2.cell (World.block_lt_of_cell? wd56 _ hHeld)).trans hHeld
          go_simp
          refine hK.out _ _ e2 (fun hHeld2 => ?_)
          clear hK K e2 hHeld
          have hHeld := hHeld2
          clear hHeld2
          clear H5
          have H5 : Hid _ := H5'
          clear H5'
          clear H6
          have H6 : Hid _ := H6'
          clear H6'
          have H7 : Hid _ := hg2.out
          have HBW2 : Hid (Below w1.heap.size w1 wd567) := HBW.out.trans (hb2.mono HBW.out.size)
          clear HBW
          have HBW := HBW2
          have HSZwd567 : Hid (wd567.heap.size = wd56.heap.size + 1) := hs2.out
          clear hg2 hb2 hs2 hw2 HBW2 hx
          refine GoL.ready (rs := [2]) (by kernel_rfl) (by simp) (by decide) ?_
          refine AllL.cons rfl (fun K hK => ?_) ?_
          · have hx := True.intro
            obtain ⟨wd5672, hw2, hb2, hs3, hg3⟩ := alloc_facts wd567 (.cells Z 3)
            have hs2 : Hid _ := hs3
            have hg2 : Hid _ := hg3
            clear hs3 hg3
            have H5' := (hb2.block _ (Array.getElem?_eq_some_iff.1 H5.out).1).trans H5.out
            have H6' := (hb2.block _ (Array.getElem?_eq_some_iff.1 H6.out).1).trans H6.out
            have H7' := (hb2.block _ (Array.getElem?_eq_some_iff.1 H7.out).1).trans H7.out
            have e2 : wd5672.cell? ⟨gb, 0, none⟩ = some (.slice ao m cap) := (hb2.cell (World.block_lt_of_cell? wd567 _ hHeld)).trans hHeld
            go_simp
            refine hK.out _ _ e2 (fun hHeld2 => ?_)
            clear hK K e2 hHeld
            have hHeld := hHeld2
            clear hHeld2
            clear H5
            have H5 : Hid _ := H5'
            clear H5'
            clear H6
            have H6 : Hid _ := H6'
            clear H6'
            clear H7
            have H7 : Hid _ := H7'
            clear H7'
            have H2 : Hid _ := hg2.out
            have HBW2 : Hid (Below w1.heap.size w1 wd5672) := HBW.out.trans (hb2.mono HBW.out.size)
            clear HBW
            have HBW := HBW2
            have HSZwd5672 : Hid (wd5672.heap.size = wd567.heap.size + 1) := hs2.out
            clear hg2 hb2 hs2 hw2 HBW2 hx
            refine GoL.ready (rs := [8]) (by kernel_rfl) (by simp) (by decide) ?_
            refine AllL.cons rfl (fun K hK => ?_) ?_
            · have hx := True.intro
              have cs9 : wd5672.cell? ⟨wd5.heap.size, 0, none⟩ = some (.slice none 0 0) := cell_of_row wd5672 _ 0 _ _ _ H6.out
              have cf9 : wd5672.frozen? ⟨wd5.heap.size, 0, none⟩ = false := by simp [World.frozen?, H6.out]
              obtain ⟨wd56728, hw2, hk2, hs3, hg3⟩ := set_facts wd5672 H6.out (.slice (some ⟨wd567.heap.size, 0, none⟩) m m)
              have hs2 : Hid _ := hs3
              have hg2 : Hid _ := hg3
              clear hs3 hg3
              have H2' := (hk2.block _ (Array.getElem?_eq_some_iff.1 H2.out).1 (by have q0 := HGL.out; have q1 := HSZwd.out; have q2 := HSZwd5.out; have q3 := HSZwd56.out; have q4 := HSZwd567.out; have q5 := HSZwd5672.out; omega)).trans H2.out
              have H5' := (hk2.block _ (Array.getElem?_eq_some_iff.1 H5.out).1 (by have q0 := HGL.out; have q1 := HSZwd.out; have q2 := HSZwd5.out; have q3 := HSZwd56.out; have q4 := HSZwd567.out; have q5 := HSZwd5672.out; omega)).trans H5.out
              have H7' := (hk2.block _ (Array.getElem?_eq_some_iff.1 H7.out).1 (by have q0 := HGL.out; have q1 := HSZwd.out; have q2 := HSZwd5.out; have q3 := HSZwd56.out; have q4 := HSZwd567.out; have q5 := HSZwd5672.out; omega)).trans H7.out
              have e2 : wd56728.cell? ⟨gb, 0, none⟩ = some (.slice ao m cap) := hk2.cell hHeld (by simp only []; have q0 := HGL.out; have q1 := HSZwd.out; have q2 := HSZwd5.out; have q3 := HSZwd56.out; have q4 := HSZwd567.out; have q5 := HSZwd5672.out; omega)
              go_simp
              refine hK.out _ _ e2 (fun hHeld2 => ?_)
              clear hK K e2 hHeld cs9 cf9
              have hHeld := hHeld2
              clear hHeld2
              clear H2
              have H2 : Hid _ := H2'
              clear H2'
              clear H5
              have H5 : Hid _ := H5'
              clear H5'
              clear H6
              clear H7
              have H7 : Hid _ := H7'
              clear H7'
              have H8 : Hid _ := hg2.out
              have HBW2 : Hid (Below w1.heap.size w1 wd56728) := HBW.out.trans (hk2.below HBW.out.size (fun x e => (by have q0 := HGL.out; have q1 := HSZwd.out; have q2 := HSZwd5.out; have q3 := HSZwd56.out; have q4 := HSZwd567.out; have q5 := HSZwd5672.out; omega)))
              clear HBW
              have HBW := HBW2
              have HSZwd56728 : Hid (wd56728.heap.size = wd5672.heap.size) := hs2.out
              clear hg2 hk2 hs2 hw2 HBW2 hx
              refine GoL.last (by kernel_rfl) (by kernel_rfl) rfl (fun K hK => ?_)
              have ct9 : wd56728.cell? ⟨wd56.heap.size, 0, none⟩ = some (.slice none 0 0) := cell_of_row wd56728 _ 0 _ _ _ H7.out
              have cf9 : wd56728.frozen? ⟨wd56.heap.size, 0, none⟩ = false := by simp [World.frozen?, H7.out]
              go_simp
              refine hK.out _ _ ?_
              exact ⟨wd5.heap.size, wd56.heap.size, wd567.heap.size, wd.heap.size, ts_made HZ.out H8.out H7.out H2.out H5.out (by have q0 := HGL.out; have q1 := HSZwd.out; have q2 := HSZwd5.out; have q3 := HSZwd56.out; have q4 := HSZwd567.out; have q5 := HSZwd5672.out; have q6 := HSZwd56728.out; omega) (by have q0 := HGL.out; have q1 := HSZwd.out; have q2 := HSZwd5.out; have q3 := HSZwd56.out; have q4 := HSZwd567.out; have q5 := HSZwd5672.out; have q6 := HSZwd56728.out; omega), HBW.out.setCell (by simp only []; have q0 := HGL.out; have q1 := HSZwd.out; have q2 := HSZwd5.out; have q3 := HSZwd56.out; have q4 := HSZwd567.out; have q5 := HSZwd5672.out; have q6 := HSZwd56728.out; omega) _, rfl⟩
            exact AllL.nil
          exact AllL.nil
        exact AllL.nil
      refine AllL.cons rfl (fun K hK => ?_) ?_
      · have hx := True.intro
        obtain ⟨wd57, hw2, hb2, hs3, hg3⟩ := alloc_facts wd5 (.cells #[.slice none 0 0] 22)
        have hs2 : Hid _ := hs3
        have hg2 : Hid _ := hg3
        clear hs3 hg3
        have H5' := (hb2.block _ (Array.getElem?_eq_some_iff.1 H5.out).1).trans H5.out
        have e2 : wd57.cell? ⟨gb, 0, none⟩ = some (.slice ao m cap) := (hb2.cell (World.block_lt_of_cell? wd5 _ hHeld)).trans hHeld
        go_simp
        refine hK.out _ _ e2 (fun hHeld2 => ?_)
        clear hK K e2 hHeld
        have hHeld := hHeld2
        clear hHeld2
        clear H5
        have H5 : Hid _ := H5'
        clear H5'
        have H7 : Hid _ := hg2.out
        have HBW2 : Hid (Below w1.heap.size w1 wd57) := HBW.out.trans (hb2.mono HBW.out.size)
        clear HBW
        have HBW := HBW2
        have HSZwd57 : Hid (wd57.heap.size = wd5.heap.size + 1) := hs2.out
        clear hg2 hb2 hs2 hw2 HBW2 hx
        refine GoL.ready (rs := [2, 6]) (by kernel_rfl) (by simp) (by decide) ?_
        refine AllL.cons rfl (fun K hK => ?_) ?_
        · have hx := True.intro
          obtain ⟨wd572, hw2, hb2, hs3, hg3⟩ := alloc_facts wd57 (.cells Z 3)
          have hs2 : Hid _ := hs3
          have hg2 : Hid _ := hg3
          clear hs3 hg3
          have H5' := (hb2.block _ (Array.getElem?_eq_some_iff.1 H5.out).1).trans H5.out
          have H7' := (hb2.block _ (Array.getElem?_eq_some_iff.1 H7.out).1).trans H7.out
          have e2 : wd572.cell? ⟨gb, 0, none⟩ = some (.slice ao m cap) := (hb2.cell (World.block_lt_of_cell? wd57 _ hHeld)).trans hHeld
          go_simp
          refine hK.out _ _ e2 (fun hHeld2 => ?_)
          clear hK K e2 hHeld
          have hHeld := hHeld2
          clear hHeld2
          clear H5
          have H5 : Hid _ := H5'
          clear H5'
          clear H7
          have H7 : Hid _ := H7'
          clear H7'
          have H2 : Hid _ := hg2.out
          have HBW2 : Hid (Below w1.heap.size w1 wd572) := HBW.out.trans (hb2.mono HBW.out.size)
          clear HBW
          have HBW := HBW2
          have HSZwd572 : Hid (wd572.heap.size = wd57.heap.size + 1) := hs2.out
          clear hg2 hb2 hs2 hw2 HBW2 hx
          refine GoL.ready (rs := [6]) (by kernel_rfl) (by simp) (by decide) ?_
          refine AllL.cons rfl (fun K hK => ?_) ?_
          · have hx := True.intro
            obtain ⟨wd5726, hw2, hb2, hs3, hg3⟩ := alloc_facts wd572 (.cells #[.slice none 0 0] 22)
            have hs2 : Hid _ := hs3
            have hg2 : Hid _ := hg3
            clear hs3 hg3
            have H2' := (hb2.block _ (Array.getElem?_eq_some_iff.1 H2.out).1).trans H2.out
            have H5' := (hb2.block _ (Array.getElem?_eq_some_iff.1 H5.out).1).trans H5.out
            have H7' := (hb2.block _ (Array.getElem?_eq_some_iff.1 H7.out).1).trans H7.out
            have e2 : wd5726.cell? ⟨gb, 0, none⟩ = some (.slice ao m cap) := (hb2.cell (World.block_lt_of_cell? wd572 _ hHeld)).trans hHeld
            go_simp
            refine hK.out _ _ e2 (fun hHeld2 => ?_)
            clear hK K e2 hHeld
            have hHeld := hHeld2
            clear hHeld2
            clear H2
            have H2 : Hid _ := H2'
            clear H2'
            clear H5
            have H5 : Hid _ := H5'
            clear H5'
            clear H7
            have H7 : Hid _ := H7'
            clear H7'
            have H6 : Hid _ := hg2.out
            have HBW2 : Hid (Below w1.heap.size w1 wd5726) := HBW.out.trans (hb2.mono HBW.out.size)
            clear HBW
            have HBW := HBW2
            have HSZwd5726 : Hid (wd5726.heap.size = wd572.heap.size + 1) := hs2.out
            clear hg2 hb2 hs2 hw2 HBW2 hx
            refine GoL.ready (rs := [8]) (by kernel_rfl) (by simp) (by decide) ?_
            refine AllL.cons rfl (fun K hK => ?_) ?_
            · have hx := True.intro
              have cs9 : wd5726.cell? ⟨wd572.heap.size, 0, none⟩ = some (.slice none 0 0) := cell_of_row wd5726 _ 0 _ _ _ H6.out
              have cf9 : wd5726.frozen? ⟨wd572.heap.size, 0, none⟩ = false := by simp [World.frozen?, H6.out]
              obtain ⟨wd57268, hw2, hk2, hs3, hg3⟩ := set_facts wd5726 H6.out (.slice (some ⟨wd57.heap.size, 0, none⟩) m m)
              have hs2 : Hid _ := hs3
              have hg2 : Hid _ := hg3
              clear hs3 hg3
              have H2' := (hk2.block _ (Array.getElem?_eq_some_iff.1 H2.out).1 (by have q0 := HGL.out; have q1 := HSZwd.out; have q2 := HSZwd5.out; have q3 := HSZwd57.out; have q4 := HSZwd572.out; have q5 := HSZwd5726.out; omega)).trans H2.out
              have H5' := (hk2.block _ (Array.getElem?_eq_some_iff.1 H5.out).1 (by have q0 := HGL.out; have q1 := HSZwd.out; have q2 := HSZwd5.out; have q3 := HSZwd57.out; have q4 := HSZwd572.out; have q5 := HSZwd5726.out; omega)).trans H5.out
              have H7' := (hk2.block _ (Array.getElem?_eq_some_iff.1 H7.out).1 (by have q0 := HGL.out; have q1 := HSZwd.out; have q2 := HSZwd5.out; have q3 := HSZwd57.out; have q4 := HSZwd572.out; have q5 := HSZwd5726.out; omega)).trans H7.out
              have e2 : wd57268.cell? ⟨gb, 0, none⟩ = some (.slice ao m cap) := hk2.cell hHeld (by simp only []; have q0 := HGL.out; have q1 := HSZwd.out; have q2 := HSZwd5.out; have q3 := HSZwd57.out; have q4 := HSZwd572.out; have q5 := HSZwd5726.out; omega)
              go_simp
              refine hK.out _ _ e2 (fun hHeld2 => ?_)
              clear hK K e2 hHeld cs9 cf9
              have hHeld := hHeld2
              clear hHeld2
              clear H2
              have H2 : Hid _ := H2'
              clear H2'
              clear H5
              have H5 : Hid _ := H5'
              clear H5'
              clear H6
              clear H7
              have H7 : Hid _ := H7'
              clear H7'
              have H8 : Hid _ := hg2.out
              have HBW2 : Hid (Below w1.heap.size w1 wd57268) := HBW.out.trans (hk2.below HBW.out.size (fun x e => (by have q0 := HGL.out; have q1 := HSZwd.out; have q2 := HSZwd5.out; have q3 := HSZwd57.out; have q4 := HSZwd572.out; have q5 := HSZwd5726.out; omega)))
              clear HBW
              have HBW := HBW2
              have HSZwd57268 : Hid (wd57268.heap.size = wd5726.heap.size) := hs2.out
              clear hg2 hk2 hs2 hw2 HBW2 hx
              refine GoL.last (by kernel_rfl) (by kernel_rfl) rfl (fun K hK => ?_)
              have ct9 : wd57268.cell? ⟨wd5.heap.size, 0, none⟩ = some (.slice none 0 0) := cell_of_row wd57268 _ 0 _ _ _ H7.out
              have cf9 : wd57268.frozen? ⟨wd5.heap.size, 0, none⟩ = false := by simp [World.frozen?, H7.out]
              go_simp
              refine hK.out _ _ ?_
              exact ⟨wd572.heap.size, wd5.heap.size, wd57.heap.size, wd.heap.size, ts_made HZ.out H8.out H7.out H2.out H5.out (by have q0 := HGL.out; have q1 := HSZwd.out; have q2 := HSZwd5.out; have q3 := HSZwd57.out; have q4 := HSZwd572.out; have q5 := HSZwd5726.out; have q6 := HSZwd57268.out; omega) (by have q0 := HGL.out; have q1 := HSZwd.out; have q2 := HSZwd5.out; have q3 := HSZwd57.out; have q4 := HSZwd572.out; have q5 := HSZwd5726.out; have q6 := HSZwd57268.out; omega), HBW.out.setCell (by simp only []; have q0 := HGL.out; have q1 := HSZwd.out; have q2 := HSZwd5.out; have q3 := HSZwd57.out; have q4 := HSZwd572.out; have q5 := HSZwd5726.out; have q6 := HSZwd57268.out; omega) _, rfl⟩
            exact AllL.nil
          exact AllL.nil
        refine AllL.cons rfl (fun K hK => ?_) ?_
        · have hx := True.intro
          obtain ⟨wd576, hw2, hb2, hs3, hg3⟩ := alloc_facts wd57 (.cells #[.slice none 0 0] 22)
          have hs2 : Hid _ := hs3
          have hg2 : Hid _ := hg3
          clear hs3 hg3
          have H5' := (hb2.block _ (Array.getElem?_eq_some_iff.1 H5.out).1).trans H5.out
          have H7' := (hb2.block _ (Array.getElem?_eq_some_iff.1 H7.out).1).trans H7.out
          have e2 : wd576.cell? ⟨gb, 0, none⟩ = some (.slice ao m cap) := (hb2.cell (World.block_lt_of_cell? wd57 _ hHeld)).trans hHeld
          go_simp
          refine hK.out _ _ e2 (fun hHeld2 => ?_)
          clear hK K e2 hHeld
          have hHeld := hHeld2
          clear hHeld2
          clear H5
          have H5 : Hid _ := H5'
          clear H5'
          clear H7
          have H7 : Hid _ := H7'
          clear H7'
          have H6 : Hid _ := hg2.out
          have HBW2 : Hid (Below w1.heap.size w1 wd576) := HBW.out.trans (hb2.mono HBW.out.size)
          clear HBW
          have HBW := HBW2
          have HSZwd576 : Hid (wd576.heap.size = wd57.heap.size + 1) := hs2.out
          clear hg2 hb2 hs2 hw2 HBW2 hx
          refine GoL.ready (rs := [2]) (by kernel_rfl) (by simp) (by decide) ?_
          refine AllL.cons rfl (fun K hK => ?_) ?_
          · have hx := True.intro
            obtain ⟨wd5762, hw2, hb2, hs3, hg3⟩ := alloc_facts wd576 (.cells Z 3)
            have hs2 : Hid _ := hs3
            have hg2 : Hid _ := hg3
            clear hs3 hg3
            have H5' := (hb2.block _ (Array.getElem?_eq_some_iff.1 H5.out).1).trans H5.out
            have H6' := (hb2.block _ (Array.getElem?_eq_some_iff.1 H6.out).1).trans H6.out
            have H7' := (hb2.block _ (Array.getElem?_eq_some_iff.1 H7.out).1).trans H7.out
            have e2 : wd5762.cell? ⟨gb, 0, none⟩ = some (.slice ao m cap) := (hb2.cell (World.block_lt_of_cell? wd576 _ hHeld)).trans hHeld
            go_simp
            refine hK.out _ _ e2 (fun hHeld2 => ?_)
            clear hK K e2 hHeld
            have hHeld := hHeld2
            clear hHeld2
            clear H5
            have H5 : Hid _ := H5'
            clear H5'
            clear H6
            have H6 : Hid _ := H6'
            clear H6'
            clear H7
            have H7 : Hid _ := H7'
            clear H7'
            have H2 : Hid _ := hg2.out
            have HBW2 : Hid (Below w1.heap.size w1 wd5762) := HBW.out.trans (hb2.mono HBW.out.size)
            clear HBW
            have HBW := HBW2
            have HSZwd5762 : Hid (wd5762.heap.size = wd576.heap.size + 1) := hs2.out
            clear hg2 hb2 hs2 hw2 HBW2 hx
            refine GoL.ready (rs := [8]) (by kernel_rfl) (by simp) (by decide) ?_
            refine AllL.cons rfl (fun K hK => ?_) ?_
            · have hx := True.intro
              have cs9 : wd5762.cell? ⟨wd57.heap.size, 0, none⟩ = some (.slice none 0 0) := cell_of_row wd5762 _ 0 _ _ _ H6.out
              have cf9 : wd5762.frozen? ⟨wd57.heap.size, 0, none⟩ = false := by simp [World.frozen?, H6.out]
              obtain ⟨wd57628, hw2, hk2, hs3, hg3⟩ := set_facts wd5762 H6.out (.slice (some ⟨wd576.heap.size, 0, none⟩) m m)
              have hs2 : Hid _ := hs3
              have hg2 : Hid _ := hg3
              clear hs3 hg3
              have H2' := (hk2.block _ (Array.getElem?_eq_some_iff.1 H2.out).1 (by have q0 := HGL.out; have q1 := HSZwd.out; have q2 := HSZwd5.out; have q3 := HSZwd57.out; have q4 := HSZwd576.out; have q5 := HSZwd5762.out; omega)).trans H2.out
              have H5' := (hk2.block _ (Array.getElem?_eq_some_iff.1 H5.out).1 (by have q0 := HGL.out; have q1 := HSZwd.out; have q2 := HSZwd5.out; have q3 := HSZwd57.out; have q4 := HSZwd576.out; have q5 := HSZwd5762.out; omega)).trans H5.out
              have H7' := (hk2.block _ (Array.getElem?_eq_some_iff.1 H7.out).1 (by have q0 := HGL.out; have q1 := HSZwd.out; have q2 := HSZwd5.out; have q3 := HSZwd57.out; have q4 := HSZwd576.out; have q5 := HSZwd5762.out; omega)).trans H7.out
              have e2 : wd57628.cell? ⟨gb, 0, none⟩ = some (.slice ao m cap) := hk2.cell hHeld (by simp only []; have q0 := HGL.out; have q1 := HSZwd.out; have q2 := HSZwd5.out; have q3 := HSZwd57.out; have q4 := HSZwd576.out; have q5 := HSZwd5762.out; omega)
              go_simp
              refine hK.out _ _ e2 (fun hHeld2 => ?_)
              clear hK K e2 hHeld cs9 cf9
              have hHeld := hHeld2
              clear hHeld2
              clear H2
              have H2 : Hid _ := H2'
              clear H2'
              clear H5
              have H5 : Hid _ := H5'
              clear H5'
              clear H6
              clear H7
              have H7 : Hid _ := H7'
              clear H7'
              have H8 : Hid _ := hg2.out
              have HBW2 : Hid (Below w1.heap.size w1 wd57628) := HBW.out.trans (hk2.below HBW.out.size (fun x e => (by have q0 := HGL.out; have q1 := HSZwd.out; have q2 := HSZwd5.out; have q3 := HSZwd57.out; have q4 := HSZwd576.out; have q5 := HSZwd5762.out; omega)))
              clear HBW
              have HBW := HBW2
              have HSZwd57628 : Hid (wd57628.heap.size = wd5762.heap.size) := hs2.out
              clear hg2 hk2 hs2 hw2 HBW2 hx
              refine GoL.last (by kernel_rfl) (by kernel_rfl) rfl (fun K hK => ?_)
              have ct9 : wd57628.cell? ⟨wd5.heap.size, 0, none⟩ = some (.slice none 0 0) := cell_of_row wd57628 _ 0 _ _ _ H7.out
              have cf9 : wd57628.frozen? ⟨wd5.heap.size, 0, none⟩ = false := by simp [World.frozen?, H7.out]
              go_simp
              refine hK.out _ _ ?_
              exact ⟨wd57.heap.size, wd5.heap.size, wd576.heap.size, wd.heap.size, ts_made HZ.out H8.out H7.out H2.out H5.out (by have q0 := HGL.out; have q1 := HSZwd.out; have q2 := HSZwd5.out; have q3 := HSZwd57.out; have q4 := HSZwd576.out; have q5 := HSZwd5762.out; have q6 := HSZwd57628.out; omega) (by have q0 := HGL.out; have q1 := HSZwd.out; have q2 := HSZwd5.out; have q3 := HSZwd57.out; have q4 := HSZwd576.out; have q5 := HSZwd5762.out; have q6 := HSZwd57628.out; omega), HBW.out.setCell (by simp only []; have q0 := HGL.out; have q1 := HSZwd.out; have q2 := HSZwd5.out; have q3 := HSZwd57.out; have q4 := HSZwd576.out; have q5 := HSZwd5762.out; have q6 := HSZwd57628.out; omega) _, rfl⟩
            exact AllL.nil
          exact AllL.nil
        exact AllL.nil
      exact AllL.nil
    refine AllL.cons rfl (fun K hK => ?_) ?_
    · have hx := True.intro
      obtain ⟨wd6, hw2, hb2, hs3, hg3⟩ := alloc_facts wd (.cells #[.slice none 0 0] 22)
      have hs2 : Hid _ := hs3
      have hg2 : Hid _ := hg3
      clear hs3 hg3
      have e2 : wd6.cell? ⟨gb, 0, none⟩ = some (.slice ao m cap) := (hb2.cell (World.block_lt_of_cell? wd _ hHeld)).trans hHeld
      go_simp
      refine hK.out _ _ e2 (fun hHeld2 => ?_)
      clear hK K e2 hHeld
      have hHeld := hHeld2
      clear hHeld2
      have H6 : Hid _ := hg2.out
      have HBW2 : Hid (Below w1.heap.size w1 wd6) := HBW.out.trans (hb2.mono HBW.out.size)
      clear HBW
      have HBW := HBW2
      have HSZwd6 : Hid (wd6.heap.size = wd.heap.size + 1) := hs2.out
      clear hg2 hb2 hs2 hw2 HBW2 hx
      refine GoL.ready (rs := [2, 5, 7]) (by kernel_rfl) (by simp) (by decide) ?_
      refine AllL.cons rfl (fun K hK => ?_) ?_
      · have hx := True.intro
        obtain ⟨wd62, hw2, hb2, hs3, hg3⟩ := alloc_facts wd6 (.cells Z 3)
        have hs2 : Hid _ := hs3
        have hg2 : Hid _ := hg3
        clear hs3 hg3
        have H6' := (hb2.block _ (Array.getElem?_eq_some_iff.1 H6.out).1).trans H6.out
        have e2 : wd62.cell? ⟨gb, 0, none⟩ = some (.slice ao m cap) := (hb2.cell (World.block_lt_of_cell? wd6 _ hHeld)).trans hHeld
        go_simp
        refine hK.out _ _ e2 (fun hHeld2 => ?_)
        clear hK K e2 hHeld
        have hHeld := hHeld2
        clear hHeld2
        clear H6
        have H6 : Hid _ := H6'
        clear H6'
        have H2 : Hid _ := hg2.out
        have HBW2 : Hid (Below w1.heap.size w1 wd62) := HBW.out.trans (hb2.mono HBW.out.size)
        clear HBW
        have HBW := HBW2
        have HSZwd62 : Hid (wd62.heap.size = wd6.heap.size + 1) := hs2.out
        clear hg2 hb2 hs2 hw2 HBW2 hx
        refine GoL.ready (rs := [5, 7]) (by kernel_rfl) (by simp) (by decide) ?_
        refine AllL.cons rfl (fun K hK => ?_) ?_
        · have hx := True.intro
          obtain ⟨wd625, hw2, hb2, hs3, hg3⟩ := alloc_facts wd62 (.cells Z 3)
          have hs2 : Hid _ := hs3
          have hg2 : Hid _ := hg3
          clear hs3 hg3
          have H2' := (hb2.block _ (Array.getElem?_eq_some_iff.1 H2.out).1).trans H2.out
          have H6' := (hb2.block _ (Array.getElem?_eq_some_iff.1 H6.out).1).trans H6.out
          have e2 : wd625.cell? ⟨gb, 0, none⟩ = some (.slice ao m cap) := (hb2.cell (World.block_lt_of_cell? wd62 _ hHeld)).trans hHeld
          go_simp
          refine hK.out _ _ e2 (fun hHeld2 => ?_)
          clear hK K e2 hHeld
          have hHeld := hHeld2
          clear hHeld2
          clear H2
          have H2 : Hid _ := H2'
          clear H2'
          clear H6
          have H6 : Hid _ := H6'
          clear H6'
          have H5 : Hid _ := hg2.out
          have HBW2 : Hid (Below w1.heap.size w1 wd625) := HBW.out.trans (hb2.mono HBW.out.size)
          clear HBW
          have HBW := HBW2
          have HSZwd625 : Hid (wd625.heap.size = wd62.heap.size + 1) := hs2.out
          clear hg2 hb2 hs2 hw2 HBW2 hx
          refine GoL.ready (rs := [7]) (by kernel_rfl) (by simp) (by decide) ?_
          refine AllL.cons rfl (fun K hK => ?_) ?_
          · have hx := True.intro
            obtain ⟨wd6257, hw2, hb2, hs3, hg3⟩ := alloc_facts wd625 (.cells #[.slice none 0 0] 22)
            have hs2 : Hid _ := hs3
            have hg2 : Hid _ := hg3
            clear hs3 hg3
            have H2' := (hb2.block _ (Array.getElem?_eq_some_iff.1 H2.out).1).trans H2.out
            have H5' := (hb2.block _ (Array.getElem?_eq_some_iff.1 H5.out).1).trans H5.out
            have H6' := (hb2.block _ (Array.getElem?_eq_some_iff.1 H6.out).1).trans H6.out
            have e2 : wd6257.cell? ⟨gb, 0, none⟩ = some (.slice ao m cap) := (hb2.cell (World.block_lt_of_cell? wd625 _ hHeld)).trans hHeld
            go_simp
            refine hK.out _ _ e2 (fun hHeld2 => ?_)
            clear hK K e2 hHeld
            have hHeld := hHeld2
            clear hHeld2
            clear H2
            have H2 : Hid _ := H2'
            clear H2'
            clear H5
            have H5 : Hid _ := H5'
            clear H5'
            clear H6
            have H6 : Hid _ := H6'
            clear H6'
            have H7 : Hid _ := hg2.out
            have HBW2 : Hid (Below w1.heap.size w1 wd6257) := HBW.out.trans (hb2.mono HBW.out.size)
            clear HBW
            have HBW := HBW2
            have HSZwd6257 : Hid (wd6257.heap.size = wd625.heap.size + 1) := hs2.out
            clear hg2 hb2 hs2 hw2 HBW2 hx
            refine GoL.ready (rs := [8]) (by kernel_rfl) (by simp) (by decide) ?_
            refine AllL.cons rfl (fun K hK => ?_) ?_
            · have hx := True.intro
              have cs9 : wd6257.cell? ⟨wd.heap.size, 0, none⟩ = some (.slice none 0 0) := cell_of_row wd6257 _ 0 _ _ _ H6.out
              have cf9 : wd6257.frozen? ⟨wd.heap.size, 0, none⟩ = false := by simp [World.frozen?, H6.out]
              obtain ⟨wd62578, hw2, hk2, hs3, hg3⟩ := set_facts wd6257 H6.out (.slice (some ⟨wd6.heap.size, 0, none⟩) m m)
              have hs2 : Hid _ := hs3
              have hg2 : Hid _ := hg3
              clear hs3 hg3
              have H2' := (hk2.block _ (Array.getElem?_eq_some_iff.1 H2.out).1 (by have q0 := HGL.out; have q1 := HSZwd.out; have q2 := HSZwd6.out; have q3 := HSZwd62.out; have q4 := HSZwd625.out; have q5 := HSZwd6257.out; omega)).trans H2.out
              have H5' := (hk2.block _ (Array.getElem?_eq_some_iff.1 H5.out).1 (by have q0 := HGL.out; have q1 := HSZwd.out; have q2 := HSZwd6.out; have q3 := HSZwd62.out; have q4 := HSZwd625.out; have q5 := HSZwd6257.out; omega)).trans H5.out
              have H7' := (hk2.block _ (Array.getElem?_eq_some_iff.1 H7.out).1 (by have q0 := HGL.out; have q1 := HSZwd.out; have q2 := HSZwd6.out; have q3 := HSZwd62.out; have q4 := HSZwd625.out; have q5 := HSZwd6257.out; omega)).trans H7.out
              have e2 : wd62578.cell? ⟨gb, 0, none⟩ = some (.slice ao m cap) := hk2.cell hHeld (by simp only []; have q0 := HGL.out; have q1 := HSZwd.out; have q2 := HSZwd6.out; have q3 := HSZwd62.out; have q4 := HSZwd625.out; have q5 := HSZwd6257.out; omega)
              go_simp
              refine hK.out _ _ e2 (fun hHeld2 => ?_)
              clear hK K e2 hHeld cs9 cf9
              have hHeld := hHeld2
              clear hHeld2
              clear H2
              have H2 : Hid _ := H2'
              clear H2'
              clear H5
              have H5 : Hid _ := H5'
              clear H5'
              clear H6
              clear H7
              have H7 : Hid _ := H7'
              clear H7'
              have H8 : Hid _ := hg2.out
              have HBW2 : Hid (Below w1.heap.size w1 wd62578) := HBW.out.trans (hk2.below HBW.out.size (fun x e => (by have q0 := HGL.out; have q1 := HSZwd.out; have q2 := HSZwd6.out; have q3 := HSZwd62.out; have q4 := HSZwd625.out; have q5 := HSZwd6257.out; omega)))
              clear HBW
              have HBW := HBW2
              have HSZwd62578 : Hid (wd62578.heap.size = wd6257.heap.size) := hs2.out
              clear hg2 hk2 hs2 hw2 HBW2 hx
              refine GoL.last (by kernel_rfl) (by kernel_rfl) rfl (fun K hK => ?_)
              have ct9 : wd62578.cell? ⟨wd625.heap.size, 0, none⟩ = some (.slice none 0 0) := cell_of_row wd62578 _ 0 _ _ _ H7.out
              have cf9 : wd62578.frozen? ⟨wd625.heap.size, 0, none⟩ = false := by simp [World.frozen?, H7.out]
              go_simp
              refine hK.out _ _ ?_
              exact ⟨wd.heap.size, wd625.heap.size, wd6.heap.size, wd62.heap.size, ts_made HZ.out H8.out H7.out H2.out H5.out (by have q0 := HGL.out; have q1 := HSZwd.out; have q2 := HSZwd6.out; have q3 := HSZwd62.out; have q4 := HSZwd625.out; have q5 := HSZwd6257.out; have q6 := HSZwd62578.out; omega) (by have q0 := HGL.out; have q1 := HSZwd.out; have q2 := HSZwd6.out; have q3 := HSZwd62.out; have q4 := HSZwd625.out; have q5 := HSZwd6257.out; have q6 := HSZwd62578.out; omega), HBW.out.setCell (by simp only []; have q0 := HGL.out; have q1 := HSZwd.out; have q2 := HSZwd6.out; have q3 := HSZwd62.out; have q4 := HSZwd625.out; have q5 := HSZwd6257.out; have q6 := HSZwd62578.out; omega) _, rfl⟩
            exact AllL.nil
          exact AllL.nil
        refine AllL.cons rfl (fun K hK => ?_) ?_
        · have hx := True.intro
          obtain ⟨wd627, hw2, hb2, hs3, hg3⟩ := alloc_facts wd62 (.cells #[.slice none 0 0] 22)
          have hs2 : Hid _ := hs3
          have hg2 : Hid _ := hg3
          clear hs3 hg3
          have H2' := (hb2.block _ (Array.getElem?_eq_some_iff.1 H2.out).1).trans H2.out
          have H6' := (hb2.block _ (Array.getElem?_eq_some_iff.1 H6.out).1).trans H6.out
          have e2 : wd627.cell? ⟨gb, 0, none⟩ = some (.slice ao m cap) := (hb2.cell (World.block_lt_of_cell? wd62 _ hHeld)).trans hHeld
          go_simp
          refine hK.out _ _ e2 (fun hHeld2 => ?_)
          clear hK K e2 hHeld
          have hHeld := hHeld2
          clear hHeld2
          clear H2
          have H2 : Hid _ := H2'
          clear H2'
          clear H6
          have H6 : Hid _ := H6'
          clear H6'
          have H7 : Hid _ := hg2.out
          have HBW2 : Hid (Below w1.heap.size w1 wd627) := HBW.out.trans (hb2.mono HBW.out.size)
          clear HBW
          have HBW := HBW2
          have HSZwd627 : Hid (wd627.heap.size = wd62.heap.size + 1) := hs2.out
          clear hg2 hb2 hs2 hw2 HBW2 hx
          refine GoL.ready (rs := [5, 8]) (by kernel_rfl) (by simp) (by decide) ?_
          refine AllL.cons rfl (fun K hK => ?_) ?_
          · have hx := True.intro
            obtain ⟨wd6275, hw2, hb2, hs3, hg3⟩ := alloc_facts wd627 (.cells Z 3)
            have hs2 : Hid _ := hs3
            have hg2 : Hid _ := hg3
            clear hs3 hg3
            have H2' := (hb2.block _ (Array.getElem?_eq_some_iff.1 H2.out).1).trans H2.out
            have H6' := (hb2.block _ (Array.getElem?_eq_some_iff.1 H6.out).1).trans H6.out
            have H7' := (hb2.block _ (Array.getElem?_eq_some_iff.1 H7.out).1).trans H7.out
            have e2 : wd6275.cell? ⟨gb, 0, none⟩ = some (.slice ao m cap) := (hb2.cell (World.block_lt_of_cell? wd627 _ hHeld)).trans hHeld
            go_simp
            refine hK.out _ _ e2 (fun hHeld2 => ?_)
            clear hK K e2 hHeld
            have hHeld := hHeld2
            clear hHeld2
            clear H2
            have H2 : Hid _ := H2'
            clear H2'
            clear H6
            have H6 : Hid _ := H6'
            clear H6'
            clear H7
            have H7 : Hid _ := H7'
            clear H7'
            have H5 : Hid _ := hg2.out
            have HBW2 : Hid (Below w1.heap.size w1 wd6275) := HBW.out.trans (hb2.mono HBW.out.size)
            clear HBW
            have HBW := HBW2
            have HSZwd6275 : Hid (wd6275.heap.size = wd627.heap.size + 1) := hs2.out
            clear hg2 hb2 hs2 hw2 HBW2 hx
            refine GoL.ready (rs := [8]) (by kernel_rfl) (by simp) (by decide) ?_
            refine AllL.cons rfl (fun K hK => ?_) ?_
            · have hx := True.intro
              have cs9 : wd6275.cell? ⟨wd.heap.size, 0, none⟩ = some (.slice none 0 0) := cell_of_row wd6275 _ 0 _ _ _ H6.out
              have cf9 : wd6275.frozen? ⟨wd.heap.size, 0, none⟩ = false := by simp [World.frozen?, H6.out]
              obtain ⟨wd62758, hw2, hk2, hs3, hg3⟩ := set_facts wd6275 H6.out (.slice (some ⟨wd6.heap.size, 0, none⟩) m m)
              have hs2 : Hid _ := hs3
              have hg2 : Hid _ := hg3
              clear hs3 hg3
              have H2' := (hk2.block _ (Array.getElem?_eq_some_iff.1 H2.out).1 (by have q0 := HGL.out; have q1 := HSZwd.out; have q2 := HSZwd6.out; have q3 := HSZwd62.out; have q4 := HSZwd627.out; have q5 := HSZwd6275.out; omega)).trans H2.out
              have H5' := (hk2.block _ (Array.getElem?_eq_some_iff.1 H5.out).1 (by have q0 := HGL.out; have q1 := HSZwd.out; have q2 := HSZwd6.out; have q3 := HSZwd62.out; have q4 := HSZwd627.out; have q5 := HSZwd6275.out; omega)).trans H5.out
              have H7' := (hk2.block _ (Array.getElem?_eq_some_iff.1 H7.out).1 (by have q0 := HGL.out; have q1 := HSZwd.out; have q2 := HSZwd6.out; have q3 := HSZwd62.out; have q4 := HSZwd627.out; have q5 := HSZwd6275.out; omega)).trans H7.out
              have e2 : wd62758.cell? ⟨gb, 0, none⟩ = some (.slice ao m cap) := hk2.cell hHeld (by simp only []; have q0 := HGL.out; have q1 := HSZwd.out; have q2 := HSZwd6.out; have q3 := HSZwd62.out; have q4 := HSZwd627.out; have q5 := HSZwd6275.out; omega)
              go_simp
              refine hK.out _ _ e2 (fun hHeld2 => ?_)
              clear hK K e2 hHeld cs9 cf9
              have hHeld := hHeld2
              clear hHeld2
              clear H2
              have H2 : Hid _ := H2'
              clear H2'
              clear H5
              have H5 : Hid _ := H5'
              clear H5'
              clear H6
              clear H7
              have H7 : Hid _ := H7'
              clear H7'
              have H8 : Hid _ := hg2.out
              have HBW2 : Hid (Below w1.heap.size w1 wd62758) := HBW.out.trans (hk2.below HBW.out.size (fun x e => (by have q0 := HGL.out; have q1 := HSZwd.out; have q2 := HSZwd6.out; have q3 := HSZwd62.out; have q4 := HSZwd627.out; have q5 := HSZwd6275.out; omega)))
              clear HBW
              have HBW := HBW2
              have HSZwd62758 : Hid (wd62758.heap.size = wd6275.heap.size) := hs2.out
              clear hg2 hk2 hs2 hw2 HBW2 hx
              refine GoL.last (by kernel_rfl) (by kernel_rfl) rfl (fun K hK => ?_)
              have ct9 : wd62758.cell? ⟨wd62.heap.size, 0, none⟩ = some (.slice none 0 0) := cell_of_row wd62758 _ 0 _ _ _ H7.out
              have cf9 : wd62758.frozen? ⟨wd62.heap.size, 0, none⟩ = false := by simp [World.frozen?, H7.out]
              go_simp
              refine hK.out _ _ ?_
              exact ⟨wd.heap.size, wd62.heap.size, wd6.heap.size, wd627.heap.size, ts_made HZ.out H8.out H7.out H2.out H5.out (by have q0 := HGL.out; have q1 := HSZwd.out; have q2 := HSZwd6.out; have q3 := HSZwd62.out; have q4 := HSZwd627.out; have q5 := HSZwd6275.out; have q6 := HSZwd62758.out; omega) (by have q0 := HGL.out; have q1 := HSZwd.out; have q2 := HSZwd6.out; have q3 := HSZwd62.out; have q4 := HSZwd627.out; have q5 := HSZwd6275.out; have q6 := HSZwd62758.out; omega), HBW.out.setCell (by simp only []; have q0 := HGL.out; have q1 := HSZwd.out; have q2 := HSZwd6.out; have q3 := HSZwd62.out; have q4 := HSZwd627.out; have q5 := HSZwd6275.out; have q6 := HSZwd62758.out; omega) _, rfl⟩
            exact AllL.nil
          refine AllL.cons rfl (fun K hK => ?_) ?_
          · have hx := True.intro
            have cs9 : wd627.cell? ⟨wd.heap.size, 0, none⟩ = some (.slice none 0 0) := cell_of_row wd627 _ 0 _ _ _ H6.out
            have cf9 : wd627.frozen? ⟨wd.heap.size, 0, none⟩ = false := by simp [World.frozen?, H6.out]
            obtain ⟨wd6278, hw2, hk2, hs3, hg3⟩ := set_facts wd627 H6.out (.slice (some ⟨wd6.heap.size, 0, none⟩) m m)
            have hs2 : Hid _ := hs3
            have hg2 : Hid _ := hg3
            clear hs3 hg3
            have H2' := (hk2.block _ (Array.getElem?_eq_some_iff.1 H2.out).1 (by have q0 := HGL.out; have q1 := HSZwd.out; have q2 := HSZwd6.out; have q3 := HSZwd62.out; have q4 := HSZwd627.out; omega)).trans H2.out
            have H7' := (hk2.block _ (Array.getElem?_eq_some_iff.1 H7.out).1 (by have q0 := HGL.out; have q1 := HSZwd.out; have q2 := HSZwd6.out; have q3 := HSZwd62.out; have q4 := HSZwd627.out; omega)).trans H7.out
            have e2 : wd6278.cell? ⟨gb, 0, none⟩ = some (.slice ao m cap) := hk2.cell hHeld (by simp only []; have q0 := HGL.out; have q1 := HSZwd.out; have q2 := HSZwd6.out; have q3 := HSZwd62.out; have q4 := HSZwd627.out; omega)
            go_simp
            refine hK.out _ _ e2 (fun hHeld2 => ?_)
            clear hK K e2 hHeld cs9 cf9
            have hHeld := hHeld2
            clear hHeld2
            clear H2
            have H2 : Hid _ := H2'
            clear H2'
            clear H6
            clear H7
            have H7 : Hid _ := H7'
            clear H7'
            have H8 : Hid _ := hg2.out
            have HBW2 : Hid (Below w1.heap.size w1 wd6278) := HBW.out.trans (hk2.below HBW.out.size (fun x e => (by have q0 := HGL.out; have q1 := HSZwd.out; have q2 := HSZwd6.out; have q3 := HSZwd62.out; have q4 := HSZwd627.out; omega)))
            clear HBW
            have HBW := HBW2
            have HSZwd6278 : Hid (wd6278.heap.size = wd627.heap.size) := hs2.out
            clear hg2 hk2 hs2 hw2 HBW2 hx
            refine GoL.ready (rs := [5]) (by kernel_rfl) (by simp) (by decide) ?_
            refine AllL.cons rfl (fun K hK => ?_) ?_
            · have hx := True.intro
              obtain ⟨wd62785, hw2, hb2, hs3, hg3⟩ := alloc_facts wd6278 (.cells Z 3)
              have hs2 : Hid _ := hs3
              have hg2 : Hid _ := hg3
              clear hs3 hg3
              have H2' := (hb2.block _ (Array.getElem?_eq_some_iff.1 H2.out).1).trans H2.out
              have H7' := (hb2.block _ (Array.getElem?_eq_some_iff.1 H7.out).1).trans H7.out
              have H8' := (hb2.block _ (Array.getElem?_eq_some_iff.1 H8.out).1).trans H8.out
              have e2 : wd62785.cell? ⟨gb, 0, none⟩ = some (.slice ao m cap) := (hb2.cell (World.block_lt_of_cell? wd6278 _ hHeld)).trans hHeld
              go_simp
              refine hK.out _ _ e2 (fun hHeld2 => ?_)
              clear hK K e2 hHeld
              have hHeld := hHeld2
              clear hHeld2
              clear H2
              have H2 : Hid _ := H2'
              clear H2'
              clear H7
              have H7 : Hid _ := H7'
              clear H7'
              clear H8
              have H8 : Hid _ := H8'
              clear H8'
              have H5 : Hid _ := hg2.out
              have HBW2 : Hid (Below w1.heap.size w1 wd62785) := HBW.out.trans (hb2.mono HBW.out.size)
              clear HBW
              have HBW := HBW2
              have HSZwd62785 : Hid (wd62785.heap.size = wd6278.heap.size + 1) := hs2.out
              clear hg2 hb2 hs2 hw2 HBW2 hx
              refine GoL.last (by kernel_rfl) (by kernel_rfl) rfl (fun K hK => ?_)
              have ct9 : wd62785.cell? ⟨wd62.heap.size, 0, none⟩ = some (.slice none 0 0) := cell_of_row wd62785 _ 0 _ _ _ H7.out
              have cf9 : wd62785.frozen? ⟨wd62.heap.size, 0, none⟩ = false := by simp [World.frozen?, H7.out]
              go_simp
              refine hK.out _ _ ?_
              exact ⟨wd.heap.size, wd62.heap.size, wd6.heap.size, wd6278.heap.size, ts_made HZ.out H8.out H7.out H2.out H5.out (by have q0 := HGL.out; have q1 := HSZwd.out; have q2 := HSZwd6.out; have q3 := HSZwd62.out; have q4 := HSZwd627.out; have q5 := HSZwd6278.out; have q6 := HSZwd62785.out; omega) (by have q0 := HGL.out; have q1 := HSZwd.out; have q2 := HSZwd6.out; have q3 := HSZwd62.out; have q4 := HSZwd627.out; have q5 := HSZwd6278.out; have q6 := HSZwd62785.out; omega), HBW.out.setCell (by simp only []; have q0 := HGL.out; have q1 := HSZwd.out; have q2 := HSZwd6.out; have q3 := HSZwd62.out; have q4 := HSZwd627.out; have q5 := HSZwd6278.out; have q6 := HSZwd62785.out; omega) _, rfl⟩
            exact AllL.nil
          exact AllL.nil
        exact AllL.nil
      refine AllL.cons rfl (fun K hK => ?_) ?_
      · have hx := True.intro
        obtain ⟨wd65, hw2, hb2, hs3, hg3⟩ := alloc_facts wd6 (.cells Z 3)
        have hs2 : Hid _ := hs3
        have hg2 : Hid _ := hg3
        clear hs3 hg3
        have H6' := (hb2.block _ (Array.getElem?_eq_some_iff.1 H6.out).1).trans H6.out
        have e2 : wd65.cell? ⟨gb, 0, none⟩ = some (.slice ao m cap) := (hb2.cell (World.block_lt_of_cell? wd6 _ hHeld)).trans hHeld
        go_simp
        refine hK.out _ _ e2 (fun hHeld2 => ?_)
        clear hK K e2 hHeld
        have hHeld := hHeld2
        clear hHeld2
        clear H6
        have H6 : Hid _ := H6'
        clear H6'
        have H5 : Hid _ := hg2.out
        have HBW2 : Hid (Below w1.heap.size w1 wd65) := HBW.out.trans (hb2.mono HBW.out.size)
        clear HBW
        have HBW := HBW2
        have HSZwd65 : Hid (wd65.heap.size = wd6.heap.size + 1) := hs2.out
        clear hg2 hb2 hs2 hw2 HBW2 hx
        refine GoL.ready (rs := [2, 7]) (by kernel_rfl) (by simp) (by decide) ?_
        refine AllL.cons rfl (fun K hK => ?_) ?_
        · have hx := True.intro
          obtain ⟨wd652, hw2, hb2, hs3, hg3⟩ := alloc_facts wd65 (.cells Z 3)
          have hs2 : Hid _ := hs3
          have hg2 : Hid _ := hg3
          clear hs3 hg3
          have H5' := (hb2.block _ (Array.getElem?_eq_some_iff.1 H5.out).1).trans H5.out
          have H6' := (hb2.block _ (Array.getElem?_eq_some_iff.1 H6.out).1).trans H6.out
          have e2 : wd652.cell? ⟨gb, 0, none⟩ = some (.slice ao m cap) := (hb2.cell (World.block_lt_of_cell? wd65 _ hHeld)).trans hHeld
          go_simp
          refine hK.out _ _ e2 (fun hHeld2 => ?_)
          clear hK K e2 hHeld
          have hHeld := hHeld2
          clear hHeld2
          clear H5
          have H5 : Hid _ := H5'
          clear H5'
          clear H6
          have H6 : Hid _ := H6'
          clear H6'
          have H2 : Hid _ := hg2.out
          have HBW2 : Hid (Below w1.heap.size w1 wd652) := HBW.out.trans (hb2.mono HBW.out.size)
          clear HBW
          have HBW := HBW2
          have HSZwd652 : Hid (wd652.heap.size = wd65.heap.size + 1) := hs2.out
          clear hg2 hb2 hs2 hw2 HBW2 hx
          refine GoL.ready (rs := [7]) (by kernel_rfl) (by simp) (by decide) ?_
          refine AllL.cons rfl (fun K hK => ?_) ?_
          · have hx := True.intro
            obtain ⟨wd6527, hw2, hb2, hs3, hg3⟩ := alloc_facts wd652 (.cells #[.slice none 0 0] 22)
            have hs2 : Hid _ := hs3
            have hg2 : Hid _ := hg3
            clear hs3 hg3
            have H2' := (hb2.block _ (Array.getElem?_eq_some_iff.1 H2.out).1).trans H2.out
            have H5' := (hb2.block _ (Array.getElem?_eq_some_iff.1 H5.out).1).trans H5.out
            have H6' := (hb2.block _ (Array.getElem?_eq_some_iff.1 H6.out).1).trans H6.out
            have e2 : wd6527.cell? ⟨gb, 0, none⟩ = some (.slice ao m cap) := (hb2.cell (World.block_lt_of_cell? wd652 _ hHeld)).trans hHeld
            go_simp
            refine hK.out _ _ e2 (fun hHeld2 => ?_)
            clear hK K e2 hHeld
            have hHeld := hHeld2
            clear hHeld2
            clear H2
            have H2 : Hid _ := H2'
            clear H2'
            clear H5
            have H5 : Hid _ := H5'
            clear H5'
            clear H6
            have H6 : Hid _ := H6'
            clear H6'
            have H7 : Hid _ := hg2.out
            have HBW2 : Hid (Below w1.heap.size w1 wd6527) := HBW.out.trans (hb2.mono HBW.out.size)
            clear HBW
            have HBW := HBW2
            have HSZwd6527 : Hid (wd6527.heap.size = wd652.heap.size + 1) := hs2.out
            clear hg2 hb2 hs2 hw2 HBW2 hx
            refine GoL.ready (rs := [8]) (by kernel_rfl) (by simp) (by decide) ?_
            refine AllL.cons rfl (fun K hK => ?_) ?_
            · have hx := True.intro
              have cs9 : wd6527.cell? ⟨wd.heap.size, 0, none⟩ = some (.slice none 0 0) := cell_of_row wd6527 _ 0 _ _ _ H6.out
              have cf9 : wd6527.frozen? ⟨wd.heap.size, 0, none⟩ = false := by simp [World.frozen?, H6.out]
              obtain ⟨wd65278, hw2, hk2, hs3, hg3⟩ := set_facts wd6527 H6.out (.slice (some ⟨wd65.heap.size, 0, none⟩) m m)
              have hs2 : Hid _ := hs3
              have hg2 : Hid _ := hg3
              clear hs3 hg3
              have H2' := (hk2.block _ (Array.getElem?_eq_some_iff.1 H2.out).1 (by have q0 := HGL.out; have q1 := HSZwd.out; have q2 := HSZwd6.out; have q3 := HSZwd65.out; have q4 := HSZwd652.out; have q5 := HSZwd6527.out; omega)).trans H2.out
              have H5' := (hk2.block _ (Array.getElem?_eq_some_iff.1 H5.out).1 (by have q0 := HGL.out; have q1 := HSZwd.out; have q2 := HSZwd6.out; have q3 := HSZwd65.out; have q4 := HSZwd652.out; have q5 := HSZwd6527.out; omega)).trans H5.out
              have H7' := (hk2.block _ (Array.getElem?_eq_some_iff.1 H7.out).1 (by have q0 := HGL.out; have q1 := HSZwd.out; have q2 := HSZwd6.out; have q3 := HSZwd65.out; have q4 := HSZwd652.out; have q5 := HSZwd6527.out; omega)).trans H7.out
              have e2 : wd65278.cell? ⟨gb, 0, none⟩ = some (.slice ao m cap) := hk2.cell hHeld (by simp only []; have q0 := HGL.out; have q1 := HSZwd.out; have q2 := HSZwd6.out; have q3 := HSZwd65.out; have q4 := HSZwd652.out; have q5 := HSZwd6527.out; omega)
              go_simp
              refine hK.out _ _ e2 (fun hHeld2 => ?_)
              clear hK K e2 hHeld cs9 cf9
              have hHeld := hHeld2
              clear hHeld2
              clear H2
              have H2 : Hid _ := H2'
              clear H2'
              clear H5
              have H5 : Hid _ := H5'
              clear H5'
              clear H6
              clear H7
              have H7 : Hid _ := H7'
              clear H7'
              have H8 : Hid _ := hg2.out
              have HBW2 : Hid (Below w1.heap.size w1 wd65278) := HBW.out.trans (hk2.below HBW.out.size (fun x e => (by have q0 := HGL.out; have q1 := HSZwd.out; have q2 := HSZwd6.out; have q3 := HSZwd65.out; have q4 := HSZwd652.out; have q5 := HSZwd6527.out; omega)))
              clear HBW
              have HBW := HBW2
              have HSZwd65278 : Hid (wd65278.heap.size = wd6527.heap.size) := hs2.out
              clear hg2 hk2 hs2 hw2 HBW2 hx
              refine GoL.last (by kernel_rfl) (by kernel_rfl) rfl (fun K hK => ?_)
              have ct9 : wd65278.cell? ⟨wd652.heap.size, 0, none⟩ = some (.slice none 0 0) := cell_of_row wd65278 _ 0 _ _ _ H7.out
              have cf9 : wd65278.frozen? ⟨wd652.heap.size, 0, none⟩ = false := by simp [World.frozen?, H7.out]
              go_simp
              refine hK.out _ _ ?_
              exact ⟨wd.heap.size, wd652.heap.size, wd65.heap.size, wd6.heap.size, ts_made HZ.out H8.out H7.out H2.out H5.out (by have q0 := HGL.out; have q1 := HSZwd.out; have q2 := HSZwd6.out; have q3 := HSZwd65.out; have q4 := HSZwd652.out; have q5 := HSZwd6527.out; have q6 := HSZwd65278.out; omega) (by have q0 := HGL.out; have q1 := HSZwd.out; have q2 := HSZwd6.out; have q3 := HSZwd65.out; have q4 := HSZwd652.out; have q5 := HSZwd6527.out; have q6 := HSZwd65278.out; omega), HBW.out.setCell (by simp only []; have q0 := HGL.out; have q1 := HSZwd.out; have q2 := HSZwd6.out; have q3 := HSZwd65.out; have q4 := HSZwd652.out; have q5 := HSZwd6527.out; have q6 := HSZwd65278.out; omega) _, rfl⟩
            exact AllL.nil
          exact AllL.nil
        refine AllL.cons rfl (fun K hK => ?_) ?_
        · have hx := True.intro
          obtain ⟨wd657, hw2, hb2, hs3, hg3⟩ := alloc_facts wd65 (.cells #[.slice none 0 0] 22)
          have hs2 : Hid _ := hs3
          have hg2 : Hid _ := hg3
          clear hs3 hg3
          have H5' := (hb2.block _ (Array.getElem?_eq_some_iff.1 H5.out).1).trans H5.out
          have H6' := (hb2.block _ (Array.getElem?_eq_some_iff.1 H6.out).1).trans H6.out
          have e2 : wd657.cell? ⟨gb, 0, none⟩ = some (.slice ao m cap) := (hb2.cell (World.block_lt_of_cell? wd65 _ hHeld)).trans hHeld
          go_simp
          refine hK.out _ _ e2 (fun hHeld2 => ?_)
          clear hK K e2 hHeld
          have hHeld := hHeld2
          clear hHeld2
          clear H5
          have H5 : Hid _ := H5'
          clear H5'
          clear H6
          have H6 : Hid _ := H6'
          clear H6'
          have H7 : Hid _ := hg2.out
          have HBW2 : Hid (Below w1.heap.size w1 wd657) := HBW.out.trans (hb2.mono HBW.out.size)
          clear HBW
          have HBW := HBW2
          have HSZwd657 : Hid (wd657.heap.size = wd65.heap.size + 1) := hs2.out
          clear hg2 hb2 hs2 hw2 HBW2 hx
          refine GoL.ready (rs := [2]) (by kernel_rfl) (by simp) (by decide) ?_
          refine AllL.cons rfl (fun K hK => ?_) ?_
          · have hx := True.intro
            obtain ⟨wd6572, hw2, hb2, hs3, hg3⟩ := alloc_facts wd657 (.cells Z 3)
            have hs2 : Hid _ := hs3
            have hg2 : Hid _ := hg3
            clear hs3 hg3
            have H5' := (hb2.block _ (Array.getElem?_eq_some_iff.1 H5.out).1).trans H5.out
            have H6' := (hb2.block _ (Array.getElem?_eq_some_iff.1 H6.out).1).trans H6.out
            have H7' := (hb2.block _ (Array.getElem?_eq_some_iff.1 H7.out).1).trans H7.out
            have e2 : wd6572.cell? ⟨gb, 0, none⟩ = some (.slice ao m cap) := (hb2.cell (World.block_lt_of_cell? wd657 _ hHeld)).trans hHeld
            go_simp
            refine hK.out _ _ e2 (fun hHeld2 => ?_)
            clear hK K e2 hHeld
            have hHeld := hHeld2
            clear hHeld2
            clear H5
            have H5 : Hid _ := H5'
            clear H5'
            clear H6
            have H6 : Hid _ := H6'
            clear H6'
            clear H7
            have H7 : Hid _ := H7'
            clear H7'
            have H2 : Hid _ := hg2.out
            have HBW2 : Hid (Below w1.heap.size w1 wd6572) := HBW.out.trans (hb2.mono HBW.out.size)
            clear HBW
            have HBW := HBW2
            have HSZwd6572 : Hid (wd6572.heap.size = wd657.heap.size + 1) := hs2.out
            clear hg2 hb2 hs2 hw2 HBW2 hx
            refine GoL.ready (rs := [8]) (by kernel_rfl) (by simp) (by decide) ?_
            refine AllL.cons rfl (fun K hK => ?_) ?_
            · have hx := True.intro
              have cs9 : wd6572.cell? ⟨wd.heap.size, 0, none⟩ = some (.slice none 0 0) := cell_of_row wd6572 _ 0 _ _ _ H6.out
              have cf9 : wd6572.frozen? ⟨wd.heap.size, 0, none⟩ = false := by simp [World.frozen?, H6.out]
              obtain ⟨wd65728, hw2, hk2, hs3, hg3⟩ := set_facts wd6572 H6.out (.slice (some ⟨wd657.heap.size, 0, none⟩) m m)
              have hs2 : Hid _ := hs3
              have hg2 : Hid _ := hg3
              clear hs3 hg3
              have H2' := (hk2.block _ (Array.getElem?_eq_some_iff.1 H2.out).1 (by have q0 := HGL.out; have q1 := HSZwd.out; have q2 := HSZwd6.out; have q3 := HSZwd65.out; have q4 := HSZwd657.out; have q5 := HSZwd6572.out; omega)).trans H2.out
              have H5' := (hk2.block _ (Array.getElem?_eq_some_iff.1 H5.out).1 (by have q0 := HGL.out; have q1 := HSZwd.out; have q2 := HSZwd6.out; have q3 := HSZwd65.out; have q4 := HSZwd657.out; have q5 := HSZwd6572.out; omega)).trans H5.out
              have H7' := (hk2.block _ (Array.getElem?_eq_some_iff.1 H7.out).1 (by have q0 := HGL.out; have q1 := HSZwd.out; have q2 := HSZwd6.out; have q3 := HSZwd65.out; have q4 := HSZwd657.out; have q5 := HSZwd6572.out; omega)).trans H7.out
              have e2 : wd65728.cell? ⟨gb, 0, none⟩ = some (.slice ao m cap) := hk2.cell hHeld (by simp only []; have q0 := HGL.out; have q1 := HSZwd.out; have q2 := HSZwd6.out; have q3 := HSZwd65.out; have q4 := HSZwd657.out; have q5 := HSZwd6572.out; omega)
              go_simp
              refine hK.out _ _ e2 (fun hHeld2 => ?_)
              clear hK K e2 hHeld cs9 cf9
              have hHeld := hHeld2
              clear hHeld2
              clear H2
              have H2 : Hid _ := H2'
              clear H2'
              clear H5
              have H5 : Hid _ := H5'
              clear H5'
              clear H6
              clear H7
              have H7 : Hid _ := H7'
              clear H7'
              have H8 : Hid _ := hg2.out
              have HBW2 : Hid (Below w1.heap.size w1 wd65728) := HBW.out.trans (hk2.below HBW.out.size (fun x e => (by have q0 := HGL.out; have q1 := HSZwd.out; have q2 := HSZwd6.out; have q3 := HSZwd65.out; have q4 := HSZwd657.out; have q5 := HSZwd6572.out; omega)))
              clear HBW
              have HBW := HBW2
              have HSZwd65728 : Hid (wd65728.heap.size = wd6572.heap.size) := hs2.out
              clear hg2 hk2 hs2 hw2 HBW2 hx
              refine GoL.last (by kernel_rfl) (by kernel_rfl) rfl (fun K hK => ?_)
              have ct9 : wd65728.cell? ⟨wd65.heap.size, 0, none⟩ = some (.slice none 0 0) := cell_of_row wd65728 _ 0 _ _ _ H7.out
              have cf9 : wd65728.frozen? ⟨wd65.heap.size, 0, none⟩ = false := by simp [World.frozen?, H7.out]
              go_simp
              refine hK.out _ _ ?_
              exact ⟨wd.heap.size, wd65.heap.size, wd657.heap.size, wd6.heap.size, ts_made HZ.out H8.out H7.out H2.out H5.out (by have q0 := HGL.out; have q1 := HSZwd.out; have q2 := HSZwd6.out; have q3 := HSZwd65.out; have q4 := HSZwd657.out; have q5 := HSZwd6572.out; have q6 := HSZwd65728.out; omega) (by have q0 := HGL.out; have q1 := HSZwd.out; have q2 := HSZwd6.out; have q3 := HSZwd65.out; have q4 := HSZwd657.out; have q5 := HSZwd6572.out; have q6 := HSZwd65728.out; omega), HBW.out.setCell (by simp only []; have q0 := HGL.out; have q1 := HSZwd.out; have q2 := HSZwd6.out; have q3 := HSZwd65.out; have q4 := HSZwd657.out; have q5 := HSZwd6572.out; have q6 := HSZwd65728.out; omega) _, rfl⟩
            exact AllL.nil
          exact AllL.nil
        exact AllL.nil
      refine AllL.cons rfl (fun K hK => ?_) ?_
      · have hx := True.intro
        obtain ⟨wd67, hw2, hb2, hs3, hg3⟩ := alloc_facts wd6 (.cells #[.slice none 0 0] 22)
        have hs2 : Hid _ := hs3
        have hg2 : Hid _ := hg3
        clear hs3 hg3
        have H6' := (hb2.block _ (Array.getElem?_eq_some_iff.1 H6.out).1).trans H6.out
        have e2 : wd67.cell? ⟨gb, 0, none⟩ = some (.slice ao m cap) := (hb2.cell (World.block_lt_of_cell? wd6 _ hHeld)).trans hHeld
        go_simp
        refine hK.out _ _ e2 (fun hHeld2 => ?_)
        clear hK K e2 hHeld
        have hHeld := hHeld2
        clear hHeld2
        clear H6
        have H6 : Hid _ := H6'
        clear H6'
        have H7 : Hid _ := hg2.out
        have HBW2 : Hid (Below w1.heap.size w1 wd67) := HBW.out.trans (hb2.mono HBW.out.size)
        clear HBW
        have HBW := HBW2
        have HSZwd67 : Hid (wd67.heap.size = wd6.heap.size + 1) := hs2.out
        clear hg2 hb2 hs2 hw2 HBW2 hx
        refine GoL.ready (rs := [2, 5]) (by kernel_rfl) (by simp) (by decide) ?_
        refine AllL.cons rfl (fun K hK => ?_) ?_
        · have hx := True.intro
          obtain ⟨wd672, hw2, hb2, hs3, hg3⟩ := alloc_facts wd67 (.cells Z 3)
          have hs2 : Hid _ := hs3
          have hg2 : Hid _ := hg3
          clear hs3 hg3
          have H6' := (hb2.block _ (Array.getElem?_eq_some_iff.1 H6.out).1).trans H6.out
          have H7' := (hb2.block _ (Array.getElem?_eq_some_iff.1 H7.out).1).trans H7.out
          have e2 : wd672.cell? ⟨gb, 0, none⟩ = some (.slice ao m cap) := (hb2.cell (World.block_lt_of_cell? wd67 _ hHeld)).trans hHeld
          go_simp
          refine hK.out _ _ e2 (fun hHeld2 => ?_)
          clear hK K e2 hHeld
          have hHeld := hHeld2
          clear hHeld2
          clear H6
          have H6 : Hid _ := H6'
          clear H6'
          clear H7
          have H7 : Hid _ := H7'
          clear H7'
          have H2 : Hid _ := hg2.out
          have HBW2 : Hid (Below w1.heap.size w1 wd672) := HBW.out.trans (hb2.mono HBW.out.size)
          clear HBW
          have HBW := HBW2
          have HSZwd672 : Hid (wd672.heap.size = wd67.heap.size + 1) := hs2.out
          clear hg2 hb2 hs2 hw2 HBW2 hx
          refine GoL.ready (rs := [5, 8]) (by kernel_rfl) (by simp) (by decide) ?_
          refine AllL.cons rfl (fun K hK => ?_) ?_
          · have hx := True.intro
            obtain ⟨wd6725, hw2, hb2, hs3, hg3⟩ := alloc_facts wd672 (.cells Z 3)
            have hs2 : Hid _ := hs3
            have hg2 : Hid _ := hg3
            clear hs3 hg3
            have H2' := (hb2.block _ (Array.getElem?_eq_some_iff.1 H2.out).1).trans H2.out
            have H6' := (hb2.block _ (Array.getElem?_eq_some_iff.1 H6.out).1).trans H6.out
            have H7' := (hb2.block _ (Array.getElem?_eq_some_iff.1 H7.out).1).trans H7.out
            have e2 : wd6725.cell? ⟨gb, 0, none⟩ = some (.slice ao m cap) := (hb2.cell (World.block_lt_of_cell? wd672 _ hHeld)).trans hHeld
            go_simp
            refine hK.out _ _ e2 (fun hHeld2 => ?_)
            clear hK K e2 hHeld
            have hHeld := hHeld2
            clear hHeld2
            clear H2
            have H2 : Hid _ := H2'
            clear H2'
            clear H6
            have H6 : Hid _ := H6'
            clear H6'
            clear H7
            have H7 : Hid _ := H7'
            clear H7'
            have H5 : Hid _ := hg2.out
            have HBW2 : Hid (Below w1.heap.size w1 wd6725) := HBW.out.trans (hb2.mono HBW.out.size)
            clear HBW
            have HBW := HBW2
            have HSZwd6725 : Hid (wd6725.heap.size = wd672.heap.size + 1) := hs2.out
            clear hg2 hb2 hs2 hw2 HBW2 hx
            refine GoL.ready (rs := [8]) (by kernel_rfl) (by simp) (by decide) ?_
            refine AllL.cons rfl (fun K hK => ?_) ?_
            · have hx := True.intro
              have cs9 : wd6725.cell? ⟨wd.heap.size, 0, none⟩ = some (.slice none 0 0) := cell_of_row wd6725 _ 0 _ _ _ H6.out
              have cf9 : wd6725.frozen? ⟨wd.heap.size, 0, none⟩ = false := by simp [World.frozen?, H6.out]
              obtain ⟨wd67258, hw2, hk2, hs3, hg3⟩ := set_facts wd6725 H6.out (.slice (some ⟨wd67.heap.size, 0, none⟩) m m)
              have hs2 : Hid _ := hs3
              have hg2 : Hid _ := hg3
              clear hs3 hg3
              have H2' := (hk2.block _ (Array.getElem?_eq_some_iff.1 H2.out).1 (by have q0 := HGL.out; have q1 := HSZwd.out; have q2 := HSZwd6.out; have q3 := HSZwd67.out; have q4 := HSZwd672.out; have q5 := HSZwd6725.out; omega)).trans H2.out
              have H5' := (hk2.block _ (Array.getElem?_eq_some_iff.1 H5.out).1 (by have q0 := HGL.out; have q1 := HSZwd.out; have q2 := HSZwd6.out; have q3 := HSZwd67.out; have q4 := HSZwd672.out; have q5 := HSZwd6725.out; omega)).trans H5.out
              have H7' := (hk2.block _ (Array.getElem?_eq_some_iff.1 H7.out).1 (by have q0 := HGL.out; have q1 := HSZwd.out; have q2 := HSZwd6.out; have q3 := HSZwd67.out; have q4 := HSZwd672.out; have q5 := HSZwd6725.out; omega)).trans H7.out
              have e2 : wd67258.cell? ⟨gb, 0, none⟩ = some (.slice ao m cap) := hk2.cell hHeld (by simp only []; have q0 := HGL.out; have q1 := HSZwd.out; have q2 := HSZwd6.out; have q3 := HSZwd67.out; have q4 := HSZwd672.out; have q5 := HSZwd6725.out; omega)
              go_simp
              refine hK.out _ _ e2 (fun hHeld2 => ?_)
              clear hK K e2 hHeld cs9 cf9
              have hHeld := hHeld2
              clear hHeld2
              clear H2
              have H2 : Hid _ := H2'
              clear H2'
              clear H5
              have H5 : Hid _ := H5'
              clear H5'
              clear H6
              clear H7
              have H7 : Hid _ := H7'
              clear H7'
              have H8 : Hid _ := hg2.out
              have HBW2 : Hid (Below w1.heap.size w1 wd67258) := HBW.out.trans (hk2.below HBW.out.size (fun x e => (by have q0 := HGL.out; have q1 := HSZwd.out; have q2 := HSZwd6.out; have q3 := HSZwd67.out; have q4 := HSZwd672.out; have q5 := HSZwd6725.out; omega)))
              clear HBW
              have HBW := HBW2
              have HSZwd67258 : Hid (wd67258.heap.size = wd6725.heap.size) := hs2.out
              clear hg2 hk2 hs2 hw2 HBW2 hx
              refine GoL.last (by kernel_rfl) (by kernel_rfl) rfl (fun K hK => ?_)
              have ct9 : wd67258.cell? ⟨wd6.heap.size, 0, none⟩ = some (.slice none 0 0) := cell_of_row wd67258 _ 0 _ _ _ H7.out
              have cf9 : wd67258.frozen? ⟨wd6.heap.size, 0, none⟩ = false := by simp [World.frozen?, H7.out]
              go_simp
              refine hK.out _ _ ?_
              exact ⟨wd.heap.size, wd6.heap.size, wd67.heap.size, wd672.heap.size, ts_made HZ.out H8.out H7.out H2.out H5.out (by have q0 := HGL.out; have q1 := HSZwd.out; have q2 := HSZwd6.out; have q3 := HSZwd67.out; have q4 := HSZwd672.out; have q5 := HSZwd6725.out; have q6 := HSZwd67258.out; omega) (by have q0 := HGL.out; have q1 := HSZwd.out; have q2 := HSZwd6.out; have q3 := HSZwd67.out; have q4 := HSZwd672.out; have q5 := HSZwd6725.out; have q6 := HSZwd67258.out; omega), HBW.out.setCell (by simp only []; have q0 := HGL.out; have q1 := HSZwd.out; have q2 := HSZwd6.out; have q3 := HSZwd67.out; have q4 := HSZwd672.out; have q5 := HSZwd6725.out; have q6 := HSZwd67258.out; omega) _, rfl⟩
            exact AllL.nil
          refine AllL.cons rfl (fun K hK => ?_) ?_
          · have hx := True.intro
            have cs9 : wd672.cell? ⟨wd.heap.size, 0, none⟩ = some (.slice none 0 0) := cell_of_row wd672 _ 0 _ _ _ H6.out
            have cf9 : wd672.frozen? ⟨wd.heap.size, 0, none⟩ = false := by simp [World.frozen?, H6.out]
            obtain ⟨wd6728, hw2, hk2, hs3, hg3⟩ := set_facts wd672 H6.out (.slice (some ⟨wd67.heap.size, 0, none⟩) m m)
            have hs2 : Hid _ := hs3
            have hg2 : Hid _ := hg3
            clear hs3 hg3
            have H2' := (hk2.block _ (Array.getElem?_eq_some_iff.1 H2.out).1 (by have q0 := HGL.out; have q1 := HSZwd.out; have q2 := HSZwd6.out; have q3 := HSZwd67.out; have q4 := HSZwd672.out; omega)).trans H2.out
            have H7' := (hk2.block _ (Array.getElem?_eq_some_iff.1 H7.out).1 (by have q0 := HGL.out; have q1 := HSZwd.out; have q2 := HSZwd6.out; have q3 := HSZwd67.out; have q4 := HSZwd672.out; omega)).trans H7.out
            have e2 : wd6728.cell? ⟨gb, 0, none⟩ = some (.slice ao m cap) := hk2.cell hHeld (by simp only []; have q0 := HGL.out; have q1 := HSZwd.out; have q2 := HSZwd6.out; have q3 := HSZwd67.out; have q4 := HSZwd672.out; omega)
            go_simp
            refine hK.out _ _ e2 (fun hHeld2 => ?_)
            clear hK K e2 hHeld cs9 cf9
            have hHeld := hHeld2
            clear hHeld2
            clear H2
            have H2 : Hid _ := H2'
            clear H2'
            clear H6
            clear H7
            have H7 : Hid _ := H7'
            clear H7'
            have H8 : Hid _ := hg2.out
            have HBW2 : Hid (Below w1.heap.size w1 wd6728) := HBW.out.trans (hk2.below HBW.out.size (fun x e => (by have q0 := HGL.out; have q1 := HSZwd.out; have q2 := HSZwd6.out; have q3 := HSZwd67.out; have q4 := HSZwd672.out; omega)))
            clear HBW
            have HBW := HBW2
            have HSZwd6728 : Hid (wd6728.heap.size = wd672.heap.size) := hs2.out
            clear hg2 hk2 hs2 hw2 HBW2 hx
            refine GoL.ready (rs := [5]) (by kernel_rfl) (by simp) (by decide) ?_
            refine AllL.cons rfl (fun K hK => ?_) ?_
            · have hx := True.intro
              obtain ⟨wd67285, hw2, hb2, hs3, hg3⟩ := alloc_facts wd6728 (.cells Z 3)
              have hs2 : Hid _ := hs3
              have hg2 : Hid _ := hg3
              clear hs3 hg3
              have H2' := (hb2.block _ (Array.getElem?_eq_some_iff.1 H2.out).1).trans H2.out
              have H7' := (hb2.block _ (Array.getElem?_eq_some_iff.1 H7.out).1).trans H7.out
              have H8' := (hb2.block _ (Array.getElem?_eq_some_iff.1 H8.out).1).trans H8.out
              have e2 : wd67285.cell? ⟨gb, 0, none⟩ = some (.slice ao m cap) := (hb2.cell (World.block_lt_of_cell? wd6728 _ hHeld)).trans hHeld
              go_simp
              refine hK.out _ _ e2 (fun hHeld2 => ?_)
              clear hK K e2 hHeld
              have hHeld := hHeld2
              clear hHeld2
              clear H2
              have H2 : Hid _ := H2'
              clear H2'
              clear H7
              have H7 : Hid _ := H7'
              clear H7'
              clear H8
              have H8 : Hid _ := H8'
              clear H8'
              have H5 : Hid _ := hg2.out
              have HBW2 : Hid (Below w1.heap.size w1 wd67285) := HBW.out.trans (hb2.mono HBW.out.size)
              clear HBW
              have HBW := HBW2
              have HSZwd67285 : Hid (wd67285.heap.size = wd6728.heap.size + 1) := hs2.out
              clear hg2 hb2 hs2 hw2 HBW2 hx
              refine GoL.last (by kernel_rfl) (by kernel_rfl) rfl (fun K hK => ?_)
              have ct9 : wd67285.cell? ⟨wd6.heap.size, 0, none⟩ = some (.slice none 0 0) := cell_of_row wd67285 _ 0 _ _ _ H7.out
              have cf9 : wd67285.frozen? ⟨wd6.heap.size, 0, none⟩ = false := by simp [World.frozen?, H7.out]
              go_simp
              refine hK.out _ _ ?_
              exact ⟨wd.heap.size, wd6.heap.size, wd67.heap.size, wd6728.heap.size, ts_made HZ.out H8.out H7.out H2.out H5.out (by have q0 := HGL.out; have q1 := HSZwd.out; have q2 := HSZwd6.out; have q3 := HSZwd67.out; have q4 := HSZwd672.out; have q5 := HSZwd6728.out; have q6 := HSZwd67285.out; omega) (by have q0 := HGL.out; have q1 := HSZwd.out; have q2 := HSZwd6.out; have q3 := HSZwd67.out; have q4 := HSZwd672.out; have q5 := HSZwd6728.out; have q6 := HSZwd67285.out; omega), HBW.out.setCell (by simp only []; have q0 := HGL.out; have q1 := HSZwd.out; have q2 := HSZwd6.out; have q3 := HSZwd67.out; have q4 := HSZwd672.out; have q5 := HSZwd6728.out; have q6 := HSZwd67285.out; omega) _, rfl⟩
            exact AllL.nil
          exact AllL.nil
        refine AllL.cons rfl (fun K hK => ?_) ?_
        · have hx := True.intro
          obtain ⟨wd675, hw2, hb2, hs3, hg3⟩ := alloc_facts wd67 (.cells Z 3)
          have hs2 : Hid _ := hs3
          have hg2 : Hid _ := hg3
          clear hs3 hg3
          have H6' := (hb2.block _ (Array.getElem?_eq_some_iff.1 H6.out).1).trans H6.out
          have H7' := (hb2.block _ (Array.getElem?_eq_some_iff.1 H7.out).1).trans H7.out
          have e2 : wd675.cell? ⟨gb, 0, none⟩ = some (.slice ao m cap) := (hb2.cell (World.block_lt_of_cell? wd67 _ hHeld)).trans hHeld
          go_simp
          refine hK.out _ _ e2 (fun hHeld2 => ?_)
          clear hK K e2 hHeld
          have hHeld := hHeld2
          clear hHeld2
          clear H6
          have H6 : Hid _ := H6'
          clear H6'
          clear H7
          have H7 : Hid _ := H7'
          clear H7'
          have H5 : Hid _ := hg2.out
          have HBW2 : Hid (Below w1.heap.size w1 wd675) := HBW.out.trans (hb2.mono HBW.out.size)
          clear HBW
          have HBW := HBW2
          have HSZwd675 : Hid (wd675.heap.size = wd67.heap.size + 1) := hs2.out
          clear hg2 hb2 hs2 hw2 HBW2 hx
          refine GoL.ready (rs := [2]) (by kernel_rfl) (by simp) (by decide) ?_
          refine AllL.cons rfl (fun K hK => ?_) ?_
          · have hx := True.intro
            obtain ⟨wd6752, hw2, hb2, hs3, hg3⟩ := alloc_facts wd675 (.cells Z 3)
            have hs2 : Hid _ := hs3
            have hg2 : Hid _ := hg3
            clear hs3 hg3
            have H5' := (hb2.block _ (Array.getElem?_eq_some_iff.1 H5.out).1).trans H5.out
            have H6' := (hb2.block _ (Array.getElem?_eq_some_iff.1 H6.out).1).trans H6.out
            have H7' := (hb2.block _ (Array.getElem?_eq_some_iff.1 H7.out).1).trans H7.out
            have e2 : wd6752.cell? ⟨gb, 0, none⟩ = some (.slice ao m cap) := (hb2.cell (World.block_lt_of_cell? wd675 _ hHeld)).trans hHeld
            go_simp
            refine hK.out _ _ e2 (fun hHeld2 => ?_)
            clear hK K e2 hHeld
            have hHeld := hHeld2
            clear hHeld2
            clear H5
            have H5 : Hid _ := H5'
            clear H5'
            clear H6
            have H6 : Hid _ := H6'
            clear H6'
            clear H7
            have H7 : Hid _ := H7'
            clear H7'
            have H2 : Hid _ := hg2.out
            have HBW2 : Hid (Below w1.heap.size w1 wd6752) := HBW.out.trans (hb2.mono HBW.out.size)
            clear HBW
            have HBW := HBW2
            have HSZwd6752 : Hid (wd6752.heap.size = wd675.heap.size + 1) := hs2.out
            clear hg2 hb2 hs2 hw2 HBW2 hx
            refine GoL.ready (rs := [8]) (by kernel_rfl) (by simp) (by decide) ?_
            refine AllL.cons rfl (fun K hK => ?_) ?_
            · have hx := True.intro
              have cs9 : wd6752.cell? ⟨wd.heap.size, 0, none⟩ = some (.slice none 0 0) := cell_of_row wd6752 _ 0 _ _ _ H6.out
              have cf9 : wd6752.frozen? ⟨wd.heap.size, 0, none⟩ = false := by simp [World.frozen?, H6.out]
              obtain ⟨wd67528, hw2, hk2, hs3, hg3⟩ := set_facts wd6752 H6.out (.slice (some ⟨wd675.heap.size, 0, none⟩) m m)
              have hs2 : Hid _ := hs3
              have hg2 : Hid _ := hg3
              clear hs3 hg3
              have H2' := (hk2.block _ (Array.getElem?_eq_some_iff.1 H2.out).1 (by have q0 := HGL.out; have q1 := HSZwd.out; have q2 := HSZwd6.out; have q3 := HSZwd67.out; have q4 := HSZwd675.out; have q5 := HSZwd6752.out; omega)).trans H2.out
              have H5' := (hk2.block _ (Array.getElem?_eq_some_iff.1 H5.out).1 (by have q0 := HGL.out; have q1 := HSZwd.out; have q2 := HSZwd6.out; have q3 := HSZwd67.out; have q4 := HSZwd675.out; have q5 := HSZwd6752.out; omega)).trans H5.out
              have H7' := (hk2.block _ (Array.getElem?_eq_some_iff.1 H7.out).1 (by have q0 := HGL.out; have q1 := HSZwd.out; have q2 := HSZwd6.out; have q3 := HSZwd67.out; have q4 := HSZwd675.out; have q5 := HSZwd6752.out; omega)).trans H7.out
              have e2 : wd67528.cell? ⟨gb, 0, none⟩ = some (.slice ao m cap) := hk2.cell hHeld (by simp only []; have q0 := HGL.out; have q1 := HSZwd.out; have q2 := HSZwd6.out; have q3 := HSZwd67.out; have q4 := HSZwd675.out; have q5 := HSZwd6752.out; omega)
              go_simp
              refine hK.out _ _ e2 (fun hHeld2 => ?_)
              clear hK K e2 hHeld cs9 cf9
              have hHeld := hHeld2
              clear hHeld2
              clear H2
              have H2 : Hid _ := H2'
              clear H2'
              clear H5
              have H5 : Hid _ := H5'
              clear H5'
              clear H6
              clear H7
              have H7 : Hid _ := H7'
              clear H7'
              have H8 : Hid _ := hg2.out
              have HBW2 : Hid (Below w1.heap.size w1 wd67528) := HBW.out.trans (hk2.below HBW.out.size (fun x e => (by have q0 := HGL.out; have q1 := HSZwd.out; have q2 := HSZwd6.out; have q3 := HSZwd67.out; have q4 := HSZwd675.out; have q5 := HSZwd6752.out; omega)))
              clear HBW
              have HBW := HBW2
              have HSZwd67528 : Hid (wd67528.heap.size = wd6752.heap.size) := hs2.out
              clear hg2 hk2 hs2 hw2 HBW2 hx
              refine GoL.last (by kernel_rfl) (by kernel_rfl) rfl (fun K hK => ?_)
              have ct9 : wd67528.cell? ⟨wd6.heap.size, 0, none⟩ = some (.slice none 0 0) := cell_of_row wd67528 _ 0 _ _ _ H7.out
              have cf9 : wd67528.frozen? ⟨wd6.heap.size, 0, none⟩ = false := by simp [World.frozen?, H7.out]
              go_simp
              refine hK.out _ _ ?_
              exact ⟨wd.heap.size, wd6.heap.size, wd675.heap.size, wd67.heap.size, ts_made HZ.out H8.out H7.out H2.out H5.out (by have q0 := HGL.out; have q1 := HSZwd.out; have q2 := HSZwd6.out; have q3 := HSZwd67.out; have q4 := HSZwd675.out; have q5 := HSZwd6752.out; have q6 := HSZwd67528.out; omega) (by have q0 := HGL.out; have q1 := HSZwd.out; have q2 := HSZwd6.out; have q3 := HSZwd67.out; have q4 := HSZwd675.out; have q5 := HSZwd6752.out; have q6 := HSZwd67528.out; omega), HBW.out.setCell (by simp only []; have q0 := HGL.out; have q1 := HSZwd.out; have q2 := HSZwd6.out; have q3 := HSZwd67.out; have q4 := HSZwd675.out; have q5 := HSZwd6752.out; have q6 := HSZwd67528.out; omega) _, rfl⟩
            exact AllL.nil
          exact AllL.nil
        exact AllL.nil
      exact AllL.nil
    refine AllL.cons rfl (fun K hK => ?_) ?_
    · have hx := True.intro
      obtain ⟨wd7, hw2, hb2, hs3, hg3⟩ := alloc_facts wd (.cells #[.slice none 0 0] 22)
      have hs2 : Hid _ := hs3
      have hg2 : Hid _ := hg3
      clear hs3 hg3
      have e2 : wd7.cell? ⟨gb, 0, none⟩ = some (.slice ao m cap) := (hb2.cell (World.block_lt_of_cell? wd _ hHeld)).trans hHeld
      go_simp
      refine hK.out _ _ e2 (fun hHeld2 => ?_)
      clear hK K e2 hHeld
      have hHeld := hHeld2
      clear hHeld2
      have H7 : Hid _ := hg2.out
      have HBW2 : Hid (Below w1.heap.size w1 wd7) := HBW.out.trans (hb2.mono HBW.out.size)
      clear HBW
      have HBW := HBW2
      have HSZwd7 : Hid (wd7.heap.size = wd.heap.size + 1) := hs2.out
      clear hg2 hb2 hs2 hw2 HBW2 hx
      refine GoL.ready (rs := [2, 5, 6]) (by kernel_rfl) (by simp) (by decide) ?_
      refine AllL.cons rfl (fun K hK => ?_) ?_
      · have hx := True.intro
        obtain ⟨wd72, hw2, hb2, hs3, hg3⟩ := alloc_facts wd7 (.cells Z 3)
        have hs2 : Hid _ := hs3
        have hg2 : Hid _ := hg3
        clear hs3 hg3
        have H7' := (hb2.block _ (Array.getElem?_eq_some_iff.1 H7.out).1).trans H7.out
        have e2 : wd72.cell? ⟨gb, 0, none⟩ = some (.slice ao m cap) := (hb2.cell (World.block_lt_of_cell? wd7 _ hHeld)).trans hHeld
        go_simp
        refine hK.out _ _ e2 (fun hHeld2 => ?_)
        clear hK K e2 hHeld
        have hHeld := hHeld2
        clear hHeld2
        clear H7
        have H7 : Hid _ := H7'
        clear H7'
        have H2 : Hid _ := hg2.out
        have HBW2 : Hid (Below w1.heap.size w1 wd72) := HBW.out.trans (hb2.mono HBW.out.size)
        clear HBW
        have HBW := HBW2
        have HSZwd72 : Hid (wd72.heap.size = wd7.heap.size + 1) := hs2.out
        clear hg2 hb2 hs2 hw2 HBW2 hx
        refine GoL.ready (rs := [5, 6]) (by kernel_rfl) (by simp) (by decide) ?_
        refine AllL.cons rfl (fun K hK => ?_) ?_
        · have hx := True.intro
          obtain ⟨wd725, hw2, hb2, hs3, hg3⟩ := alloc_facts wd72 (.cells Z 3)
          have hs2 : Hid _ := hs3
          have hg2 : Hid _ := hg3
          clear hs3 hg3
          have H2' := (hb2.block _ (Array.getElem?_eq_some_iff.1 H2.out).1).trans H2.out
          have H7' := (hb2.block _ (Array.getElem?_eq_some_iff.1 H7.out).1).trans H7.out
          have e2 : wd725.cell? ⟨gb, 0, none⟩ = some (.slice ao m cap) := (hb2.cell (World.block_lt_of_cell? wd72 _ hHeld)).trans hHeld
          go_simp
          refine hK.out _ _ e2 (fun hHeld2 => ?_)
          clear hK K e2 hHeld
          have hHeld := hHeld2
          clear hHeld2
          clear H2
          have H2 : Hid _ := H2'
          clear H2'
          clear H7
          have H7 : Hid _ := H7'
          clear H7'
          have H5 : Hid _ := hg2.out
          have HBW2 : Hid (Below w1.heap.size w1 wd725) := HBW.out.trans (hb2.mono HBW.out.size)
          clear HBW
          have HBW := HBW2
          have HSZwd725 : Hid (wd725.heap.size = wd72.heap.size + 1) := hs2.out
          clear hg2 hb2 hs2 hw2 HBW2 hx
          refine GoL.ready (rs := [6]) (by kernel_rfl) (by simp) (by decide) ?_
          refine AllL.cons rfl (fun K hK => ?_) ?_
          · have hx := True.intro
            obtain ⟨wd7256, hw2, hb2, hs3, hg3⟩ := alloc_facts wd725 (.cells #[.slice none 0 0] 22)
            have hs2 : Hid _ := hs3
            have hg2 : Hid _ := hg3
            clear hs3 hg3
            have H2' := (hb2.block _ (Array.getElem?_eq_some_iff.1 H2.out).1).trans H2.out
            have H5' := (hb2.block _ (Array.getElem?_eq_some_iff.1 H5.out).1).trans H5.out
            have H7' := (hb2.block _ (Array.getElem?_eq_some_iff.1 H7.out).1).trans H7.out
            have e2 : wd7256.cell? ⟨gb, 0, none⟩ = some (.slice ao m cap) := (hb2.cell (World.block_lt_of_cell? wd725 _ hHeld)).trans hHeld
            go_simp
            refine hK.out _ _ e2 (fun hHeld2 => ?_)
            clear hK K e2 hHeld
            have hHeld := hHeld2
            clear hHeld2
            clear H2
            have H2 : Hid _ := H2'
            clear H2'
            clear H5
            have H5 : Hid _ := H5'
            clear H5'
            clear H7
            have H7 : Hid _ := H7'
            clear H7'
            have H6 : Hid _ := hg2.out
            have HBW2 : Hid (Below w1.heap.size w1 wd7256) := HBW.out.trans (hb2.mono HBW.out.size)
            clear HBW
            have HBW := HBW2
            have HSZwd7256 : Hid (wd7256.heap.size = wd725.heap.size + 1) := hs2.out
            clear hg2 hb2 hs2 hw2 HBW2 hx
            refine GoL.ready (rs := [8]) (by kernel_rfl) (by simp) (by decide) ?_
            refine AllL.cons rfl (fun K hK => ?_) ?_
            · have hx := True.intro
              have cs9 : wd7256.cell? ⟨wd725.heap.size, 0, none⟩ = some (.slice none 0 0) := cell_of_row wd7256 _ 0 _ _ _ H6.out
              have cf9 : wd7256.frozen? ⟨wd725.heap.size, 0, none⟩ = false := by simp [World.frozen?, H6.out]
              obtain ⟨wd72568, hw2, hk2, hs3, hg3⟩ := set_facts wd7256 H6.out (.slice (some ⟨wd7.heap.size, 0, none⟩) m m)
              have hs2 : Hid _ := hs3
              have hg2 : Hid _ := hg3
              clear hs3 hg3
              have H2' := (hk2.block _ (Array.getElem?_eq_some_iff.1 H2.out).1 (by have q0 := HGL.out; have q1 := HSZwd.out; have q2 := HSZwd7.out; have q3 := HSZwd72.out; have q4 := HSZwd725.out; have q5 := HSZwd7256.out; omega)).trans H2.out
              have H5' := (hk2.block _ (Array.getElem?_eq_some_iff.1 H5.out).1 (by have q0 := HGL.out; have q1 := HSZwd.out; have q2 := HSZwd7.out; have q3 := HSZwd72.out; have q4 := HSZwd725.out; have q5 := HSZwd7256.out; omega)).trans H5.out
              have H7' := (hk2.block _ (Array.getElem?_eq_some_iff.1 H7.out).1 (by have q0 := HGL.out; have q1 := HSZwd.out; have q2 := HSZwd7.out; have q3 := HSZwd72.out; have q4 := HSZwd725.out; have q5 := HSZwd7256.out; omega)).trans H7.out
              have e2 : wd72568.cell? ⟨gb, 0, none⟩ = some (.slice ao m cap) := hk2.cell hHeld (by simp only []; have q0 := HGL.out; have q1 := HSZwd.out; have q2 := HSZwd7.out; have q3 := HSZwd72.out; have q4 := HSZwd725.out; have q5 := HSZwd7256.out; omega)
              go_simp
              refine hK.out _ _ e2 (fun hHeld2 => ?_)
              clear hK K e2 hHeld cs9 cf9
              have hHeld := hHeld2
              clear hHeld2
              clear H2
              have H2 : Hid _ := H2'
              clear H2'
              clear H5
              have H5 : Hid _ := H5'
              clear H5'
              clear H6
              clear H7
              have H7 : Hid _ := H7'
              clear H7'
              have H8 : Hid _ := hg2.out
              have HBW2 : Hid (Below w1.heap.size w1 wd72568) := HBW.out.trans (hk2.below HBW.out.size (fun x e => (by have q0 := HGL.out; have q1 := HSZwd.out; have q2 := HSZwd7.out; have q3 := HSZwd72.out; have q4 := HSZwd725.out; have q5 := HSZwd7256.out; omega)))
              clear HBW
              have HBW := HBW2
              have HSZwd72568 : Hid (wd72568.heap.size = wd7256.heap.size) := hs2.out
              clear hg2 hk2 hs2 hw2 HBW2 hx
              refine GoL.last (by kernel_rfl) (by kernel_rfl) rfl (fun K hK => ?_)
              have ct9 : wd72568.cell? ⟨wd.heap.size, 0, none⟩ = some (.slice none 0 0) := cell_of_row wd72568 _ 0 _ _ _ H7.out
              have cf9 : wd72568.frozen? ⟨wd.heap.size, 0, none⟩ = false := by simp [World.frozen?, H7.out]
              go_simp
              refine hK.out _ _ ?_
              exact ⟨wd725.heap.size, wd.heap.size, wd7.heap.size, wd72.heap.size, ts_made HZ.out H8.out H7.out H2.out H5.out (by have q0 := HGL.out; have q1 := HSZwd.out; have q2 := HSZwd7.out; have q3 := HSZwd72.out; have q4 := HSZwd725.out; have q5 := HSZwd7256.out; have q6 := HSZwd72568.out; omega) (by have q0 := HGL.out; have q1 := HSZwd.out; have q2 := HSZwd7.out; have q3 := HSZwd72.out; have q4 := HSZwd725.out; have q5 := HSZwd7256.out; have q6 := HSZwd72568.out; omega), HBW.out.setCell (by simp only []; have q0 := HGL.out; have q1 := HSZwd.out; have q2 := HSZwd7.out; have q3 := HSZwd72.out; have q4 := HSZwd725.out; have q5 := HSZwd7256.out; have q6 := HSZwd72568.out; omega) _, rfl⟩
            exact AllL.nil
          exact AllL.nil
        refine AllL.cons rfl (fun K hK => ?_) ?_
        · have hx := True.intro
          obtain ⟨wd726, hw2, hb2, hs3, hg3⟩ := alloc_facts wd72 (.cells #[.slice none 0 0] 22)
          have hs2 : Hid _ := hs3
          have hg2 : Hid _ := hg3
          clear hs3 hg3
          have H2' := (hb2.block _ (Array.getElem?_eq_some_iff.1 H2.out).1).trans H2.out
          have H7' := (hb2.block _ (Array.getElem?_eq_some_iff.1 H7.out).1).trans H7.out
          have e2 : wd726.cell? ⟨gb, 0, none⟩ = some (.slice ao m cap) := (hb2.cell (World.block_lt_of_cell? wd72 _ hHeld)).trans hHeld
          go_simp
          refine hK.out _ _ e2 (fun hHeld2 => ?_)
          clear hK K e2 hHeld
          have hHeld := hHeld2
          clear hHeld2
          clear H2
          have H2 : Hid _ := H2'
          clear H2'
          clear H7
          have H7 : Hid _ := H7'
          clear H7'
          have H6 : Hid _ := hg2.out
          have HBW2 : Hid (Below w1.heap.size w1 wd726) := HBW.out.trans (hb2.mono HBW.out.size)
          clear HBW
          have HBW := HBW2
          have HSZwd726 : Hid (wd726.heap.size = wd72.heap.size + 1) := hs2.out
          clear hg2 hb2 hs2 hw2 HBW2 hx
          refine GoL.ready (rs := [5, 8]) (by kernel_rfl) (by simp) (by decide) ?_
          refine AllL.cons rfl (fun K hK => ?_) ?_
          · have hx := True.intro
            obtain ⟨wd7265, hw2, hb2, hs3, hg3⟩ := alloc_facts wd726 (.cells Z 3)
            have hs2 : Hid _ := hs3
            have hg2 : Hid _ := hg3
            clear hs3 hg3
            have H2' := (hb2.block _ (Array.getElem?_eq_some_iff.1 H2.out).1).trans H2.out
            have H6' := (hb2.block _ (Array.getElem?_eq_some_iff.1 H6.out).1).trans H6.out
            have H7' := (hb2.block _ (Array.getElem?_eq_some_iff.1 H7.out).1).trans H7.out
            have e2 : wd7265.cell? ⟨gb, 0, none⟩ = some (.slice ao m cap) := (hb2.cell (World.block_lt_of_cell? wd726 _ hHeld)).trans hHeld
            go_simp
            refine hK.out _ _ e2 (fun hHeld2 => ?_)
            clear hK K e2 hHeld
            have hHeld := hHeld2
            clear hHeld2
            clear H2
            have H2 : Hid _ := H2'
            clear H2'
            clear H6
            have H6 : Hid _ := H6'
            clear H6'
            clear H7
            have H7 : Hid _ := H7'
            clear H7'
            have H5 : Hid _ := hg2.out
            have HBW2 : Hid (Below w1.heap.size w1 wd7265) := HBW.out.trans (hb2.mono HBW.out.size)
            clear HBW
            have HBW := HBW2
            have HSZwd7265 : Hid (wd7265.heap.size = wd726.heap.size + 1) := hs2.out
            clear hg2 hb2 hs2 hw2 HBW2 hx
            refine GoL.ready (rs := [8]) (by kernel_rfl) (by simp) (by decide) ?_
            refine AllL.cons rfl (fun K hK => ?_) ?_
            · have hx := True.intro
              have cs9 : wd7265.cell? ⟨wd72.heap.size, 0, none⟩ = some (.slice none 0 0) := cell_of_row wd7265 _ 0 _ _ _ H6.out
              have cf9 : wd7265.frozen? ⟨wd72.heap.size, 0, none⟩ = false := by simp [World.frozen?, H6.out]
              obtain ⟨wd72658, hw2, hk2, hs3, hg3⟩ := set_facts wd7265 H6.out (.slice (some ⟨wd7.heap.size, 0, none⟩) m m)
              have hs2 : Hid _ := hs3
              have hg2 : Hid _ := hg3
              clear hs3 hg3
              have H2' := (hk2.block _ (Array.getElem?_eq_some_iff.1 H2.out).1 (by have q0 := HGL.out; have q1 := HSZwd.out; have q2 := HSZwd7.out; have q3 := HSZwd72.out; have q4 := HSZwd726.out; have q5 := HSZwd7265.out; omega)).trans H2.out
              have H5' := (hk2.block _ (Array.getElem?_eq_some_iff.1 H5.out).1 (by have q0 := HGL.out; have q1 := HSZwd.out; have q2 := HSZwd7.out; have q3 := HSZwd72.out; have q4 := HSZwd726.out; have q5 := HSZwd7265.out; omega)).trans H5.out
              have H7' := (hk2.block _ (Array.getElem?_eq_some_iff.1 H7.out).1 (by have q0 := HGL.out; have q1 := HSZwd.out; have q2 := HSZwd7.out; have q3 := HSZwd72.out; have q4 := HSZwd726.out; have q5 := HSZwd7265.out; omega)).trans H7.out
              have e2 : wd72658.cell? ⟨gb, 0, none⟩ = some (.slice ao m cap) := hk2.cell hHeld (by simp only []; have q0 := HGL.out; have q1 := HSZwd.out; have q2 := HSZwd7.out; have q3 := HSZwd72.out; have q4 := HSZwd726.out; have q5 := HSZwd7265.out; omega)
              go_simp
              refine hK.out _ _ e2 (fun hHeld2 => ?_)
              clear hK K e2 hHeld cs9 cf9
              have hHeld := hHeld2
              clear hHeld2
              clear H2
              have H2 : Hid _ := H2'
              clear H2'
              clear H5
              have H5 : Hid _ := H5'
              clear H5'
              clear H6
              clear H7
              have H7 : Hid _ := H7'
              clear H7'
              have H8 : Hid _ := hg2.out
              have HBW2 : Hid (Below w1.heap.size w1 wd72658) := HBW.out.trans (hk2.below HBW.out.size (fun x e => (by have q0 := HGL.out; have q1 := HSZwd.out; have q2 := HSZwd7.out; have q3 := HSZwd72.out; have q4 := HSZwd726.out; have q5 := HSZwd7265.out; omega)))
              clear HBW
              have HBW := HBW2
              have HSZwd72658 : Hid (wd72658.heap.size = wd7265.heap.size) := hs2.out
              clear hg2 hk2 hs2 hw2 HBW2 hx
              refine GoL.last (by kernel_rfl) (by kernel_rfl) rfl (fun K hK => ?_)
              have ct9 : wd72658.cell? ⟨wd.heap.size, 0, none⟩ = some (.slice none 0 0) := cell_of_row wd72658 _ 0 _ _ _ H7.out
              have cf9 : wd72658.frozen? ⟨wd.heap.size, 0, none⟩ = false := by simp [World.frozen?, H7.out]
              go_simp
              refine hK.out _ _ ?_
              exact ⟨wd72.heap.size, wd.heap.size, wd7.heap.size, wd726.heap.size, ts_made HZ.out H8.out H7.out H2.out H5.out (by have q0 := HGL.out; have q1 := HSZwd.out; have q2 := HSZwd7.out; have q3 := HSZwd72.out; have q4 := HSZwd726.out; have q5 := HSZwd7265.out; have q6 := HSZwd72658.out; omega) (by have q0 := HGL.out; have q1 := HSZwd.out; have q2 := HSZwd7.out; have q3 := HSZwd72.out; have q4 := HSZwd726.out; have q5 := HSZwd7265.out; have q6 := HSZwd72658.out; omega), HBW.out.setCell (by simp only []; have q0 := HGL.out; have q1 := HSZwd.out; have q2 := HSZwd7.out; have q3 := HSZwd72.out; have q4 := HSZwd726.out; have q5 := HSZwd7265.out; have q6 := HSZwd72658.out; omega) _, rfl⟩
            exact AllL.nil
          refine AllL.cons rfl (fun K hK => ?_) ?_
          · have hx := True.intro
            have cs9 : wd726.cell? ⟨wd72.heap.size, 0, none⟩ = some (.slice none 0 0) := cell_of_row wd726 _ 0 _ _ _ H6.out
            have cf9 : wd726.frozen? ⟨wd72.heap.size, 0, none⟩ = false := by simp [World.frozen?, H6.out]
            obtain ⟨wd7268, hw2, hk2, hs3, hg3⟩ := set_facts wd726 H6.out (.slice (some ⟨wd7.heap.size, 0, none⟩) m m)
            have hs2 : Hid _ := hs3
            have hg2 : Hid _ := hg3
            clear hs3 hg3
            have H2' := (hk2.block _ (Array.getElem?_eq_some_iff.1 H2.out).1 (by have q0 := HGL.out; have q1 := HSZwd.out; have q2 := HSZwd7.out; have q3 := HSZwd72.out; have q4 := HSZwd726.out; omega)).trans H2.out
            have H7' := (hk2.block _ (Array.getElem?_eq_some_iff.1 H7.out).1 (by have q0 := HGL.out; have q1 := HSZwd.out; have q2 := HSZwd7.out; have q3 := HSZwd72.out; have q4 := HSZwd726.out; omega)).trans H7.out
            have e2 : wd7268.cell? ⟨gb, 0, none⟩ = some (.slice ao m cap) := hk2.cell hHeld (by simp only []; have q0 := HGL.out; have q1 := HSZwd.out; have q2 := HSZwd7.out; have q3 := HSZwd72.out; have q4 := HSZwd726.out; omega)
            go_simp
            refine hK.out _ _ e2 (fun hHeld2 => ?_)
            clear hK K e2 hHeld cs9 cf9
            have hHeld := hHeld2
            clear hHeld2
            clear H2
            have H2 : Hid _ := H2'
            clear H2'
            clear H6
            clear H7
            have H7 : Hid _ := H7'
            clear H7'
            have H8 : Hid _ := hg2.out
            have HBW2 : Hid (Below w1.heap.size w1 wd7268) := HBW.out.trans (hk2.below HBW.out.size (fun x e => (by have q0 := HGL.out; have q1 := HSZwd.out; have q2 := HSZwd7.out; have q3 := HSZwd72.out; have q4 := HSZwd726.out; omega)))
            clear HBW
            have HBW := HBW2
            have HSZwd7268 : Hid (wd7268.heap.size = wd726.heap.size) := hs2.out
            clear hg2 hk2 hs2 hw2 HBW2 hx
            refine GoL.ready (rs := [5]) (by kernel_rfl) (by simp) (by decide) ?_
            refine AllL.cons rfl (fun K hK => ?_) ?_
            · have hx := True.intro
              obtain ⟨wd72685, hw2, hb2, hs3, hg3⟩ := alloc_facts wd7268 (.cells Z 3)
              have hs2 : Hid _ := hs3
              have hg2 : Hid _ := hg3
              clear hs3 hg3
              have H2' := (hb2.block _ (Array.getElem?_eq_some_iff.1 H2.out).1).trans H2.out
              have H7' := (hb2.block _ (Array.getElem?_eq_some_iff.1 H7.out).1).trans H7.out
              have H8' := (hb2.block _ (Array.getElem?_eq_some_iff.1 H8.out).1).trans H8.out
              have e2 : wd72685.cell? ⟨gb, 0, none⟩ = some (.slice ao m cap) := (hb2.cell (World.block_lt_of_cell? wd7268 _ hHeld)).trans hHeld
              go_simp
              refine hK.out _ _ e2 (fun hHeld2 => ?_)
              clear hK K e2 hHeld
              have hHeld := hHeld2
              clear hHeld2
              clear H2
              have H2 : Hid _ := H2'
              clear H2'
              clear H7
              have H7 : Hid _ := H7'
              clear H7'
              clear H8
              have H8 : Hid _ := H8'
              clear H8'
              have H5 : Hid _ := hg2.out
              have HBW2 : Hid (Below w1.heap.size w1 wd72685) := HBW.out.trans (hb2.mono HBW.out.size)
              clear HBW
              have HBW := HBW2
              have HSZwd72685 : Hid (wd72685.heap.size = wd7268.heap.size + 1) := hs2.out
              clear hg2 hb2 hs2 hw2 HBW2 hx
              refine GoL.last (by kernel_rfl) (by kernel_rfl) rfl (fun K hK => ?_)
              have ct9 : wd72685.cell? ⟨wd.heap.size, 0, none⟩ = some (.slice none 0 0) := cell_of_row wd72685 _ 0 _ _ _ H7.out
              have cf9 : wd72685.frozen? ⟨wd.heap.size, 0, none⟩ = false := by simp [World.frozen?, H7.out]
              go_simp
              refine hK.out _ _ ?_
              exact ⟨wd72.heap.size, wd.heap.size, wd7.heap.size, wd7268.heap.size, ts_made HZ.out H8.out H7.out H2.out H5.out (by have q0 := HGL.out; have q1 := HSZwd.out; have q2 := HSZwd7.out; have q3 := HSZwd72.out; have q4 := HSZwd726.out; have q5 := HSZwd7268.out; have q6 := HSZwd72685.out; omega) (by have q0 := HGL.out; have q1 := HSZwd.out; have q2 := HSZwd7.out; have q3 := HSZwd72.out; have q4 := HSZwd726.out; have q5 := HSZwd7268.out; have q6 := HSZwd72685.out; omega), HBW.out.setCell (by simp only []; have q0 := HGL.out; have q1 := HSZwd.out; have q2 := HSZwd7.out; have q3 := HSZwd72.out; have q4 := HSZwd726.out; have q5 := HSZwd7268.out; have q6 := HSZwd72685.out; omega) _, rfl⟩
            exact AllL.nil
          exact AllL.nil
        exact AllL.nil
      refine AllL.cons rfl (fun K hK => ?_) ?_
      · have hx := True.intro
        obtain ⟨wd75, hw2, hb2, hs3, hg3⟩ := alloc_facts wd7 (.cells Z 3)
        have hs2 : Hid _ := hs3
        have hg2 : Hid _ := hg3
        clear hs3 hg3
        have H7' := (hb2.block _ (Array.getElem?_eq_some_iff.1 H7.out).1).trans H7.out
        have e2 : wd75.cell? ⟨gb, 0, none⟩ = some (.slice ao m cap) := (hb2.cell (World.block_lt_of_cell? wd7 _ hHeld)).trans hHeld
        go_simp
        refine hK.out _ _ e2 (fun hHeld2 => ?_)
        clear hK K e2 hHeld
        have hHeld := hHeld2
        clear hHeld2
        clear H7
        have H7 : Hid _ := H7'
        clear H7'
        have H5 : Hid _ := hg2.out
        have HBW2 : Hid (Below w1.heap.size w1 wd75) := HBW.out.trans (hb2.mono HBW.out.size)
        clear HBW
        have HBW := HBW2
        have HSZwd75 : Hid (wd75.heap.size = wd7.heap.size + 1) := hs2.out
        clear hg2 hb2 hs2 hw2 HBW2 hx
        refine GoL.ready (rs := [2, 6]) (by kernel_rfl) (by simp) (by decide) ?_
        refine AllL.cons rfl (fun K hK => ?_) ?_
        · have hx := True.intro
          obtain ⟨wd752, hw2, hb2, hs3, hg3⟩ := alloc_facts wd75 (.cells Z 3)
          have hs2 : Hid _ := hs3
          have hg2 : Hid _ := hg3
          clear hs3 hg3
          have H5' := (hb2.block _ (Array.getElem?_eq_some_iff.1 H5.out).1).trans H5.out
          have H7' := (hb2.block _ (Array.getElem?_eq_some_iff.1 H7.out).1).trans H7.out
          have e2 : wd752.cell? ⟨gb, 0, none⟩ = some (.slice ao m cap) := (hb2.cell (World.block_lt_of_cell? wd75 _ hHeld)).trans hHeld
          go_simp
          refine hK.out _ _ e2 (fun hHeld2 => ?_)
          clear hK K e2 hHeld
          have hHeld := hHeld2
          clear hHeld2
          clear H5
          have H5 : Hid _ := H5'
          clear H5'
          clear H7
          have H7 : Hid _ := H7'
          clear H7'
          have H2 : Hid _ := hg2.out
          have HBW2 : Hid (Below w1.heap.size w1 wd752) := HBW.out.trans (hb2.mono HBW.out.size)
          clear HBW
          have HBW := HBW2
          have HSZwd752 : Hid (wd752.heap.size = wd75.heap.size + 1) := hs2.out
          clear hg2 hb2 hs2 hw2 HBW2 hx
          refine GoL.ready (rs := [6]) (by kernel_rfl) (by simp) (by decide) ?_
          refine AllL.cons rfl (fun K hK => ?_) ?_
          · have hx := True.intro
            obtain ⟨wd7526, hw2, hb2, hs3, hg3⟩ := alloc_facts wd752 (.cells #[.slice none 0 0] 22)
            have hs2 : Hid _ := hs3
            have hg2 : Hid _ := hg3
            clear hs3 hg3
            have H2' := (hb2.block _ (Array.getElem?_eq_some_iff.1 H2.out).1).trans H2.out
            have H5' := (hb2.block _ (Array.getElem?_eq_some_iff.1 H5.out).1).trans H5.out
            have H7' := (hb2.block _ (Array.getElem?_eq_some_iff.1 H7.out).1).trans H7.out
            have e2 : wd7526.cell? ⟨gb, 0, none⟩ = some (.slice ao m cap) := (hb2.cell (World.block_lt_of_cell? wd752 _ hHeld)).trans hHeld
            go_simp
            refine hK.out _ _ e2 (fun hHeld2 => ?_)
            clear hK K e2 hHeld
            have hHeld := hHeld2
            clear hHeld2
            clear H2
            have H2 : Hid _ := H2'
            clear H2'
            clear H5
            have H5 : Hid _ := H5'
            clear H5'
            clear H7
            have H7 : Hid _ := H7'
            clear H7'
            have H6 : Hid _ := hg2.out
            have HBW2 : Hid (Below w1.heap.size w1 wd7526) := HBW.out.trans (hb2.mono HBW.out.size)
            clear HBW
            have HBW := HBW2
            have HSZwd7526 : Hid (wd7526.heap.size = wd752.heap.size + 1) := hs2.out
            clear hg2 hb2 hs2 hw2 HBW2 hx
            refine GoL.ready (rs := [8]) (by kernel_rfl) (by simp) (by decide) ?_
            refine AllL.cons rfl (fun K hK => ?_) ?_
            · have hx := True.intro
              have cs9 : wd7526.cell? ⟨wd752.heap.size, 0, none⟩ = some (.slice none 0 0) := cell_of_row wd7526 _ 0 _ _ _ H6.out
              have cf9 : wd7526.frozen? ⟨wd752.heap.size, 0, none⟩ = false := by simp [World.frozen?, H6.out]
              obtain ⟨wd75268, hw2, hk2, hs3, hg3⟩ := set_facts wd7526 H6.out (.slice (some ⟨wd75.heap.size, 0, none⟩) m m)
              have hs2 : Hid _ := hs3
              have hg2 : Hid _ := hg3
              clear hs3 hg3
              have H2' := (hk2.block _ (Array.getElem?_eq_some_iff.1 H2.out).1 (by have q0 := HGL.out; have q1 := HSZwd.out; have q2 := HSZwd7.out; have q3 := HSZwd75.out; have q4 := HSZwd752.out; have q5 := HSZwd7526.out; omega)).trans H2.out
              have H5' := (hk2.block _ (Array.getElem?_eq_some_iff.1 H5.out).1 (by have q0 := HGL.out; have q1 := HSZwd.out; have q2 := HSZwd7.out; have q3 := HSZwd75.out; have q4 := HSZwd752.out; have q5 := HSZwd7526.out; omega)).trans H5.out
              have H7' := (hk2.block _ (Array.getElem?_eq_some_iff.1 H7.out).1 (by have q0 := HGL.out; have q1 := HSZwd.out; have q2 := HSZwd7.out; have q3 := HSZwd75.out; have q4 := HSZwd752.out; have q5 := HSZwd7526.out; omega)).trans H7.out
              have e2 : wd75268.cell? ⟨gb, 0, none⟩ = some (.slice ao m cap) := hk2.cell hHeld (by simp only []; have q0 := HGL.out; have q1 := HSZwd.out; have q2 := HSZwd7.out; have q3 := HSZwd75.out; have q4 := HSZwd752.out; have q5 := HSZwd7526.out; omega)
              go_simp
              refine hK.out _ _ e2 (fun hHeld2 => ?_)
              clear hK K e2 hHeld cs9 cf9
              have hHeld := hHeld2
              clear hHeld2
              clear H2
              have H2 : Hid _ := H2'
              clear H2'
              clear H5
              have H5 : Hid _ := H5'
              clear H5'
              clear H6
              clear H7
              have H7 : Hid _ := H7'
              clear H7'
              have H8 : Hid _ := hg2.out
              have HBW2 : Hid (Below w1.heap.size w1 wd75268) := HBW.out.trans (hk2.below HBW.out.size (fun x e => (by have q0 := HGL.out; have q1 := HSZwd.out; have q2 := HSZwd7.out; have q3 := HSZwd75.out; have q4 := HSZwd752.out; have q5 := HSZwd7526.out; omega)))
              clear HBW
              have HBW := HBW2
              have HSZwd75268 : Hid (wd75268.heap.size = wd7526.heap.size) := hs2.out
              clear hg2 hk2 hs2 hw2 HBW2 hx
              refine GoL.last (by kernel_rfl) (by kernel_rfl) rfl (fun K hK => ?_)
              have ct9 : wd75268.cell? ⟨wd.heap.size, 0, none⟩ = some (.slice none 0 0) := cell_of_row wd75268 _ 0 _ _ _ H7.out
              have cf9 : wd75268.frozen? ⟨wd.heap.size, 0, none⟩ = false := by simp [World.frozen?, H7.out]
              go_simp
              refine hK.out _ _ ?_
              exact ⟨wd752.heap.size, wd.heap.size, wd75.heap.size, wd7.heap.size, ts_made HZ.out H8.out H7.out H2.out H5.out (by have q0 := HGL.out; have q1 := HSZwd.out; have q2 := HSZwd7.out; have q3 := HSZwd75.out; have q4 := HSZwd752.out; have q5 := HSZwd7526.out; have q6 := HSZwd75268.out; omega) (by have q0 := HGL.out; have q1 := HSZwd.out; have q2 := HSZwd7.out; have q3 := HSZwd75.out; have q4 := HSZwd752.out; have q5 := HSZwd7526.out; have q6 := HSZwd75268.out; omega), HBW.out.setCell (by simp only []; have q0 := HGL.out; have q1 := HSZwd.out; have q2 := HSZwd7.out; have q3 := HSZwd75.out; have q4 := HSZwd752.out; have q5 := HSZwd7526.out; have q6 := HSZwd75268.out; omega) _, rfl⟩
            exact AllL.nil
          exact AllL.nil
        refine AllL.cons rfl (fun K hK => ?_) ?_
        · have hx := True.intro
          obtain ⟨wd756, hw2, hb2, hs3, hg3⟩ := alloc_facts wd75 (.cells #[.slice none 0 0] 22)
          have hs2 : Hid _ := hs3
          have hg2 : Hid _ := hg3
          clear hs3 hg3
          have H5' := (hb2.block _ (Array.getElem?_eq_some_iff.1 H5.out).1).trans H5.out
          have H7' := (hb2.block _ (Array.getElem?_eq_some_iff.1 H7.out).1).trans H7.out
          have e2 : wd756.cell? ⟨gb, 0, none⟩ = some (.slice ao m cap) := (hb2.cell (World.block_lt_of_cell? wd75 _ hHeld)).trans hHeld
          go_simp
          refine hK.out _ _ e2 (fun hHeld2 => ?_)
          clear hK K e2 hHeld
          have hHeld := hHeld2
          clear hHeld2
          clear H5
          have H5 : Hid _ := H5'
          clear H5'
          clear H7
          have H7 : Hid _ := H7'
          clear H7'
          have H6 : Hid _ := hg2.out
          have HBW2 : Hid (Below w1.heap.size w1 wd756) := HBW.out.trans (hb2.mono HBW.out.size)
          clear HBW
          have HBW := HBW2
          have HSZwd756 : Hid (wd756.heap.size = wd75.heap.size + 1) := hs2.out
          clear hg2 hb2 hs2 hw2 HBW2 hx
          refine GoL.ready (rs := [2]) (by kernel_rfl) (by simp) (by decide) ?_
          refine AllL.cons rfl (fun K hK => ?_) ?_
          · have hx := True.intro
            obtain ⟨wd7562, hw2, hb2, hs3, hg3⟩ := alloc_facts wd756 (.cells Z 3)
            have hs2 : Hid _ := hs3
            have hg2 : Hid _ := hg3
            clear hs3 hg3
            have H5' := (hb2.block _ (Array.getElem?_eq_some_iff.1 H5.out).1).trans H5.out
            have H6' := (hb2.block _ (Array.getElem?_eq_some_iff.1 H6.out).1).trans H6.out
            have H7' := (hb2.block _ (Array.getElem?_eq_some_iff.1 H7.out).1).trans H7.out
            have e2 : wd7562.cell? ⟨gb, 0, none⟩ = some (.slice ao m cap) := (hb2.cell (World.block_lt_of_cell? wd756 _ hHeld)).trans hHeld
            go_simp
            refine hK.out _ _ e2 (fun hHeld2 => ?_)
            clear hK K e2 hHeld
            have hHeld := hHeld2
            clear hHeld2
            clear H5
            have H5 : Hid _ := H5'
            clear H5'
            clear H6
            have H6 : Hid _ := H6'
            clear H6'
            clear H7
            have H7 : Hid _ := H7'
            clear H7'
            have H2 : Hid _ := hg2.out
            have HBW2 : Hid (Below w1.heap.size w1 wd7562) := HBW.out.trans (hb2.mono HBW.out.size)
            clear HBW
            have HBW := HBW2
            have HSZwd7562 : Hid (wd7562.heap.size = wd756.heap.size + 1) := hs2.out
            clear hg2 hb2 hs2 hw2 HBW2 hx
            refine GoL.ready (rs := [8]) (by kernel_rfl) (by simp) (by decide) ?_
            refine AllL.cons rfl (fun K hK => ?_) ?_
            · have hx := True.intro
              have cs9 : wd7562.cell? ⟨wd75.heap.size, 0, none⟩ = some (.slice none 0 0) := cell_of_row wd7562 _ 0 _ _ _ H6.out
              have cf9 : wd7562.frozen? ⟨wd75.heap.size, 0, none⟩ = false := by simp [World.frozen?, H6.out]
              obtain ⟨wd75628, hw2, hk2, hs3, hg3⟩ := set_facts wd7562 H6.out (.slice (some ⟨wd756.heap.size, 0, none⟩) m m)
              have hs2 : Hid _ := hs3
              have hg2 : Hid _ := hg3
              clear hs3 hg3
              have H2' := (hk2.block _ (Array.getElem?_eq_some_iff.1 H2.out).1 (by have q0 := HGL.out; have q1 := HSZwd.out; have q2 := HSZwd7.out; have q3 := HSZwd75.out; have q4 := HSZwd756.out; have q5 := HSZwd7562.out; omega)).trans H2.out
              have H5' := (hk2.block _ (Array.getElem?_eq_some_iff.1 H5.out).1 (by have q0 := HGL.out; have q1 := HSZwd.out; have q2 := HSZwd7.out; have q3 := HSZwd75.out; have q4 := HSZwd756.out; have q5 := HSZwd7562.out; omega)).trans H5.out
              have H7' := (hk2.block _ (Array.getElem?_eq_some_iff.1 H7.out).1 (by have q0 := HGL.out; have q1 := HSZwd.out; have q2 := HSZwd7.out; have q3 := HSZwd75.out; have q4 := HSZwd756.out; have q5 := HSZwd7562.out; omega)).trans H7.out
              have e2 : wd75628.cell? ⟨gb, 0, none⟩ = some (.slice ao m cap) := hk2.cell hHeld (by simp only []; have q0 := HGL.out; have q1 := HSZwd.out; have q2 := HSZwd7.out; have q3 := HSZwd75.out; have q4 := HSZwd756.out; have q5 := HSZwd7562.out; omega)
              go_simp
              refine hK.out _ _ e2 (fun hHeld2 => ?_)
              clear hK K e2 hHeld cs9 cf9
              have hHeld := hHeld2
              clear hHeld2
              clear H2
              have H2 : Hid _ := H2'
              clear H2'
              clear H5
              have H5 : Hid _ := H5'
              clear H5'
              clear H6
              clear H7
              have H7 : Hid _ := H7'
              clear H7'
              have H8 : Hid _ := hg2.out
              have HBW2 : Hid (Below w1.heap.size w1 wd75628) := HBW.out.trans (hk2.below HBW.out.size (fun x e => (by have q0 := HGL.out; have q1 := HSZwd.out; have q2 := HSZwd7.out; have q3 := HSZwd75.out; have q4 := HSZwd756.out; have q5 := HSZwd7562.out; omega)))
              clear HBW
              have HBW := HBW2
              have HSZwd75628 : Hid (wd75628.heap.size = wd7562.heap.size) := hs2.out
              clear hg2 hk2 hs2 hw2 HBW2 hx
              refine GoL.last (by kernel_rfl) (by kernel_rfl) rfl (fun K hK => ?_)
              have ct9 : wd75628.cell? ⟨wd.heap.size, 0, none⟩ = some (.slice none 0 0) := cell_of_row wd75628 _ 0 _ _ _ H7.out
              have cf9 : wd75628.frozen? ⟨wd.heap.size, 0, none⟩ = false := by simp [World.frozen?, H7.out]
              go_simp
              refine hK.out _ _ ?_
              exact ⟨wd75.heap.size, wd.heap.size, wd756.heap.size, wd7.heap.size, ts_made HZ.out H8.out H7.out H2.out H5.out (by have q0 := HGL.out; have q1 := HSZwd.out; have q2 := HSZwd7.out; have q3 := HSZwd75.out; have q4 := HSZwd756.out; have q5 := HSZwd7562.out; have q6 := HSZwd75628.out; omega) (by have q0 := HGL.out; have q1 := HSZwd.out; have q2 := HSZwd7.out; have q3 := HSZwd75.out; have q4 := HSZwd756.out; have q5 := HSZwd7562.out; have q6 := HSZwd75628.out; omega), HBW.out.setCell (by simp only []; have q0 := HGL.out; have q1 := HSZwd.out; have q2 := HSZwd7.out; have q3 := HSZwd75.out; have q4 := HSZwd756.out; have q5 := HSZwd7562.out; have q6 := HSZwd75628.out; omega) _, rfl⟩
            exact AllL.nil
          exact AllL.nil
        exact AllL.nil
      refine AllL.cons rfl (fun K hK => ?_) ?_
      · have hx := True.intro
        obtain ⟨wd76, hw2, hb2, hs3, hg3⟩ := alloc_facts wd7 (.cells #[.slice none 0 0] 22)
        have hs2 : Hid _ := hs3
        have hg2 : Hid _ := hg3
        clear hs3 hg3
        have H7' := (hb2.block _ (Array.getElem?_eq_some_iff.1 H7.out).1).trans H7.out
        have e2 : wd76.cell? ⟨gb, 0, none⟩ = some (.slice ao m cap) := (hb2.cell (World.block_lt_of_cell? wd7 _ hHeld)).trans hHeld
        go_simp
        refine hK.out _ _ e2 (fun hHeld2 => ?_)
        clear hK K e2 hHeld
        have hHeld := hHeld2
        clear hHeld2
        clear H7
        have H7 : Hid _ := H7'
        clear H7'
        have H6 : Hid _ := hg2.out
        have HBW2 : Hid (Below w1.heap.size w1 wd76) := HBW.out.trans (hb2.mono HBW.out.size)
        clear HBW
        have HBW := HBW2
        have HSZwd76 : Hid (wd76.heap.size = wd7.heap.size + 1) := hs2.out
        clear hg2 hb2 hs2 hw2 HBW2 hx
        refine GoL.ready (rs := [2, 5]) (by kernel_rfl) (by simp) (by decide) ?_
        refine AllL.cons rfl (fun K hK => ?_) ?_
        · have hx := True.intro
          obtain ⟨wd762, hw2, hb2, hs3, hg3⟩ := alloc_facts wd76 (.cells Z 3)
          have hs2 : Hid _ := hs3
          have hg2 : Hid _ := hg3
          clear hs3 hg3
          have H6' := (hb2.block _ (Array.getElem?_eq_some_iff.1 H6.out).1).trans H6.out
          have H7' := (hb2.block _ (Array.getElem?_eq_some_iff.1 H7.out).1).trans H7.out
          have e2 : wd762.cell? ⟨gb, 0, none⟩ = some (.slice ao m cap) := (hb2.cell (World.block_lt_of_cell? wd76 _ hHeld)).trans hHeld
          go_simp
          refine hK.out _ _ e2 (fun hHeld2 => ?_)
          clear hK K e2 hHeld
          have hHeld := hHeld2
          clear hHeld2
          clear H6
          have H6 : Hid _ := H6'
          clear H6'
          clear H7
          have H7 : Hid _ := H7'
          clear H7'
          have H2 : Hid _ := hg2.out
          have HBW2 : Hid (Below w1.heap.size w1 wd762) := HBW.out.trans (hb2.mono HBW.out.size)
          clear HBW
          have HBW := HBW2
          have HSZwd762 : Hid (wd762.heap.size = wd76.heap.size + 1) := hs2.out
          clear hg2 hb2 hs2 hw2 HBW2 hx
          refine GoL.ready (rs := [5, 8]) (by kernel_rfl) (by simp) (by decide) ?_
          refine AllL.cons rfl (fun K hK => ?_) ?_
          · have hx := True.intro
            obtain ⟨wd7625, hw2, hb2, hs3, hg3⟩ := alloc_facts wd762 (.cells Z 3)
            have hs2 : Hid _ := hs3
            have hg2 : Hid _ := hg3
            clear hs3 hg3
            have H2' := (hb2.block _ (Array.getElem?_eq_some_iff.1 H2.out).1).trans H2.out
            have H6' := (hb2.block _ (Array.getElem?_eq_some_iff.1 H6.out).1).trans H6.out
            have H7' := (hb2.block _ (Array.getElem?_eq_some_iff.1 H7.out).1).trans H7.out
            have e2 : wd7625.cell? ⟨gb, 0, none⟩ = some (.slice ao m cap) := (hb2.cell (World.block_lt_of_cell? wd762 _ hHeld)).trans hHeld
            go_simp
            refine hK.out _ _ e2 (fun hHeld2 => ?_)
            clear hK K e2 hHeld
            have hHeld := hHeld2
            clear hHeld2
            clear H2
            have H2 : Hid _ := H2'
            clear H2'
            clear H6
            have H6 : Hid _ := H6'
            clear H6'
            clear H7
            have H7 : Hid _ := H7'
            clear H7'
            have H5 : Hid _ := hg2.out
            have HBW2 : Hid (Below w1.heap.size w1 wd7625) := HBW.out.trans (hb2.mono HBW.out.size)
            clear HBW
            have HBW := HBW2
            have HSZwd7625 : Hid (wd7625.heap.size = wd762.heap.size + 1) := hs2.out
            clear hg2 hb2 hs2 hw2 HBW2 hx
            refine GoL.ready (rs := [8]) (by kernel_rfl) (by simp) (by decide) ?_
            refine AllL.cons rfl (fun K hK => ?_) ?_
            · have hx := True.intro
              have cs9 : wd7625.cell? ⟨wd7.heap.size, 0, none⟩ = some (.slice none 0 0) := cell_of_row wd7625 _ 0 _ _ _ H6.out
              have cf9 : wd7625.frozen? ⟨wd7.heap.size, 0, none⟩ = false := by simp [World.frozen?, H6.out]
              obtain ⟨wd76258, hw2, hk2, hs3, hg3⟩ := set_facts wd7625 H6.out (.slice (some ⟨wd76.heap.size, 0, none⟩) m m)
              have hs2 : Hid _ := hs3
              have hg2 : Hid _ := hg3
              clear hs3 hg3
              have H2' := (hk2.block _ (Array.getElem?_eq_some_iff.1 H2.out).1 (by have q0 := HGL.out; have q1 := HSZwd.out; have q2 := HSZwd7.out; have q3 := HSZwd76.out; have q4 := HSZwd762.out; have q5 := HSZwd7625.out; omega)).trans H2.out
              have H5' := (hk2.block _ (Array.getElem?_eq_some_iff.1 H5.out).1 (by have q0 := HGL.out; have q1 := HSZwd.out; have q2 := HSZwd7.out; have q3 := HSZwd76.out; have q4 := HSZwd762.out; have q5 := HSZwd7625.out; omega)).trans H5.out
              have H7' := (hk2.block _ (Array.getElem?_eq_some_iff.1 H7.out).1 (by have q0 := HGL.out; have q1 := HSZwd.out; have q2 := HSZwd7.out; have q3 := HSZwd76.out; have q4 := HSZwd762.out; have q5 := HSZwd7625.out; omega)).trans H7.out
              have e2 : wd76258.cell? ⟨gb, 0, none⟩ = some (.slice ao m cap) := hk2.cell hHeld (by simp only []; have q0 := HGL.out; have q1 := HSZwd.out; have q2 := HSZwd7.out; have q3 := HSZwd76.out; have q4 := HSZwd762.out; have q5 := HSZwd7625.out; omega)
              go_simp
              refine hK.out _ _ e2 (fun hHeld2 => ?_)
              clear hK K e2 hHeld cs9 cf9
              have hHeld := hHeld2
              clear hHeld2
              clear H2
              have H2 : Hid _ := H2'
              clear H2'
              clear H5
              have H5 : Hid _ := H5'
              clear H5'
              clear H6
              clear H7
              have H7 : Hid _ := H7'
              clear H7'
              have H8 : Hid _ := hg2.out
              have HBW2 : Hid (Below w1.heap.size w1 wd76258) := HBW.out.trans (hk2.below HBW.out.size (fun x e => (by have q0 := HGL.out; have q1 := HSZwd.out; have q2 := HSZwd7.out; have q3 := HSZwd76.out; have q4 := HSZwd762.out; have q5 := HSZwd7625.out; omega)))
              clear HBW
              have HBW := HBW2
              have HSZwd76258 : Hid (wd76258.heap.size = wd7625.heap.size) := hs2.out
              clear hg2 hk2 hs2 hw2 HBW2 hx
              refine GoL.last (by kernel_rfl) (by kernel_rfl) rfl (fun K hK => ?_)
              have ct9 : wd76258.cell? ⟨wd.heap.size, 0, none⟩ = some (.slice none 0 0) := cell_of_row wd76258 _ 0 _ _ _ H7.out
              have cf9 : wd76258.frozen? ⟨wd.heap.size, 0, none⟩ = false := by simp [World.frozen?, H7.out]
              go_simp
              refine hK.out _ _ ?_
              exact ⟨wd7.heap.size, wd.heap.size, wd76.heap.size, wd762.heap.size, ts_made HZ.out H8.out H7.out H2.out H5.out (by have q0 := HGL.out; have q1 := HSZwd.out; have q2 := HSZwd7.out; have q3 := HSZwd76.out; have q4 := HSZwd762.out; have q5 := HSZwd7625.out; have q6 := HSZwd76258.out; omega) (by have q0 := HGL.out; have q1 := HSZwd.out; have q2 := HSZwd7.out; have q3 := HSZwd76.out; have q4 := HSZwd762.out; have q5 := HSZwd7625.out; have q6 := HSZwd76258.out; omega), HBW.out.setCell (by simp only []; have q0 := HGL.out; have q1 := HSZwd.out; have q2 := HSZwd7.out; have q3 := HSZwd76.out; have q4 := HSZwd762.out; have q5 := HSZwd7625.out; have q6 := HSZwd76258.out; omega) _, rfl⟩
            exact AllL.nil
          refine AllL.cons rfl (fun K hK => ?_) ?_
          · have hx := True.intro
            have cs9 : wd762.cell? ⟨wd7.heap.size, 0, none⟩ = some (.slice none 0 0) := cell_of_row wd762 _ 0 _ _ _ H6.out
            have cf9 : wd762.frozen? ⟨wd7.heap.size, 0, none⟩ = false := by simp [World.frozen?, H6.out]
            obtain ⟨wd7628, hw2, hk2, hs3, hg3⟩ := set_facts wd762 H6.out (.slice (some ⟨wd76.heap.size, 0, none⟩) m m)
            have hs2 : Hid _ := hs3
            have hg2 : Hid _ := hg3
            clear hs3 hg3
            have H2' := (hk2.block _ (Array.getElem?_eq_some_iff.1 H2.out).1 (by have q0 := HGL.out; have q1 := HSZwd.out; have q2 := HSZwd7.out; have q3 := HSZwd76.out; have q4 := HSZwd762.out; omega)).trans H2.out
            have H7' := (hk2.block _ (Array.getElem?_eq_some_iff.1 H7.out).1 (by have q0 := HGL.out; have q1 := HSZwd.out; have q2 := HSZwd7.out; have q3 := HSZwd76.out; have q4 := HSZwd762.out; omega)).trans H7.out
            have e2 : wd7628.cell? ⟨gb, 0, none⟩ = some (.slice ao m cap) := hk2.cell hHeld (by simp only []; have q0 := HGL.out; have q1 := HSZwd.out; have q2 := HSZwd7.out; have q3 := HSZwd76.out; have q4 := HSZwd762.out; omega)
            go_simp
            refine hK.out _ _ e2 (fun hHeld2 => ?_)
            clear hK K e2 hHeld cs9 cf9
            have hHeld := hHeld2
            clear hHeld2
            clear H2
            have H2 : Hid _ := H2'
            clear H2'
            clear H6
            clear H7
            have H7 : Hid _ := H7'
            clear H7'
            have H8 : Hid _ := hg2.out
            have HBW2 : Hid (Below w1.heap.size w1 wd7628) := HBW.out.trans (hk2.below HBW.out.size (fun x e => (by have q0 := HGL.out; have q1 := HSZwd.out; have q2 := HSZwd7.out; have q3 := HSZwd76.out; have q4 := HSZwd762.out; omega)))
            clear HBW
            have HBW := HBW2
            have HSZwd7628 : Hid (wd7628.heap.size = wd762.heap.size) := hs2.out
            clear hg2 hk2 hs2 hw2 HBW2 hx
            refine GoL.ready (rs := [5]) (by kernel_rfl) (by simp) (by decide) ?_
            refine AllL.cons rfl (fun K hK => ?_) ?_
            · have hx := True.intro
              obtain ⟨wd76285, hw2, hb2, hs3, hg3⟩ := alloc_facts wd7628 (.cells Z 3)
              have hs2 : Hid _ := hs3
              have hg2 : Hid _ := hg3
              clear hs3 hg3
              have H2' := (hb2.block _ (Array.getElem?_eq_some_iff.1 H2.out).1).trans H2.out
              have H7' := (hb2.block _ (Array.getElem?_eq_some_iff.1 H7.out).1).trans H7.out
              have H8' := (hb2.block _ (Array.getElem?_eq_some_iff.1 H8.out).1).trans H8.out
              have e2 : wd76285.cell? ⟨gb, 0, none⟩ = some (.slice ao m cap) := (hb2.cell (World.block_lt_of_cell? wd7628 _ hHeld)).trans hHeld
              go_simp
              refine hK.out _ _ e2 (fun hHeld2 => ?_)
              clear hK K e2 hHeld
              have hHeld := hHeld2
              clear hHeld2
              clear H2
              have H2 : Hid _ := H2'
              clear H2'
              clear H7
              have H7 : Hid _ := H7'
              clear H7'
              clear H8
              have H8 : Hid _ := H8'
              clear H8'
              have H5 : Hid _ := hg2.out
              have HBW2 : Hid (Below w1.heap.size w1 wd76285) := HBW.out.trans (hb2.mono HBW.out.size)
              clear HBW
              have HBW := HBW2
              have HSZwd76285 : Hid (wd76285.heap.size = wd7628.heap.size + 1) := hs2.out
              clear hg2 hb2 hs2 hw2 HBW2 hx
              refine GoL.last (by kernel_rfl) (by kernel_rfl) rfl (fun K hK => ?_)
              have ct9 : wd76285.cell? ⟨wd.heap.size, 0, none⟩ = some (.slice none 0 0) := cell_of_row wd76285 _ 0 _ _ _ H7.out
              have cf9 : wd76285.frozen? ⟨wd.heap.size, 0, none⟩ = false := by simp [World.frozen?, H7.out]
              go_simp
              refine hK.out _ _ ?_
              exact ⟨wd7.heap.size, wd.heap.size, wd76.heap.size, wd7628.heap.size, ts_made HZ.out H8.out H7.out H2.out H5.out (by have q0 := HGL.out; have q1 := HSZwd.out; have q2 := HSZwd7.out; have q3 := HSZwd76.out; have q4 := HSZwd762.out; have q5 := HSZwd7628.out; have q6 := HSZwd76285.out; omega) (by have q0 := HGL.out; have q1 := HSZwd.out; have q2 := HSZwd7.out; have q3 := HSZwd76.out; have q4 := HSZwd762.out; have q5 := HSZwd7628.out; have q6 := HSZwd76285.out; omega), HBW.out.setCell (by simp only []; have q0 := HGL.out; have q1 := HSZwd.out; have q2 := HSZwd7.out; have q3 := HSZwd76.out; have q4 := HSZwd762.out; have q5 := HSZwd7628.out; have q6 := HSZwd76285.out; omega) _, rfl⟩
            exact AllL.nil
          exact AllL.nil
        refine AllL.cons rfl (fun K hK => ?_) ?_
        · have hx := True.intro
          obtain ⟨wd765, hw2, hb2, hs3, hg3⟩ := alloc_facts wd76 (.cells Z 3)
          have hs2 : Hid _ := hs3
          have hg2 : Hid _ := hg3
          clear hs3 hg3
          have H6' := (hb2.block _ (Array.getElem?_eq_some_iff.1 H6.out).1).trans H6.out
          have H7' := (hb2.block _ (Array.getElem?_eq_some_iff.1 H7.out).1).trans H7.out
          have e2 : wd765.cell? ⟨gb, 0, none⟩ = some (.slice ao m cap) := (hb2.cell (World.block_lt_of_cell? wd76 _ hHeld)).trans hHeld
          go_simp
          refine hK.out _ _ e2 (fun hHeld2 => ?_)
          clear hK K e2 hHeld
          have hHeld := hHeld2
          clear hHeld2
          clear H6
          have H6 : Hid _ := H6'
          clear H6'
          clear H7
          have H7 : Hid _ := H7'
          clear H7'
          have H5 : Hid _ := hg2.out
          have HBW2 : Hid (Below w1.heap.size w1 wd765) := HBW.out.trans (hb2.mono HBW.out.size)
          clear HBW
          have HBW := HBW2
          have HSZwd765 : Hid (wd765.heap.size = wd76.heap.size + 1) := hs2.out
          clear hg2 hb2 hs2 hw2 HBW2 hx
          refine GoL.ready (rs := [2]) (by kernel_rfl) (by simp) (by decide) ?_
          refine AllL.cons rfl (fun K hK => ?_) ?_
          · have hx := True.intro
            obtain ⟨wd7652, hw2, hb2, hs3, hg3⟩ := alloc_facts wd765 (.cells Z 3)
            have hs2 : Hid _ := hs3
            have hg2 : Hid _ := hg3
            clear hs3 hg3
            have H5' := (hb2.block _ (Array.getElem?_eq_some_iff.1 H5.out).1).trans H5.out
            have H6' := (hb2.block _ (Array.getElem?_eq_some_iff.1 H6.out).1).trans H6.out
            have H7' := (hb2.block _ (Array.getElem?_eq_some_iff.1 H7.out).1).trans H7.out
            have e2 : wd7652.cell? ⟨gb, 0, none⟩ = some (.slice ao m cap) := (hb2.cell (World.block_lt_of_cell? wd765 _ hHeld)).trans hHeld
            go_simp
            refine hK.out _ _ e2 (fun hHeld2 => ?_)
            clear hK K e2 hHeld
            have hHeld := hHeld2
            clear hHeld2
            clear H5
            have H5 : Hid _ := H5'
            clear H5'
            clear H6
            have H6 : Hid _ := H6'
            clear H6'
            clear H7
            have H7 : Hid _ := H7'
            clear H7'
            have H2 : Hid _ := hg2.out
            have HBW2 : Hid (Below w1.heap.size w1 wd7652) := HBW.out.trans (hb2.mono HBW.out.size)
            clear HBW
            have HBW := HBW2
            have HSZwd7652 : Hid (wd7652.heap.size = wd765.heap.size + 1) := hs2.out
            clear hg2 hb2 hs2 hw2 HBW2 hx
            refine GoL.ready (rs := [8]) (by kernel_rfl) (by simp) (by decide) ?_
            refine AllL.cons rfl (fun K hK => ?_) ?_
            · have hx := True.intro
              have cs9 : wd7652.cell? ⟨wd7.heap.size, 0, none⟩ = some (.slice none 0 0) := cell_of_row wd7652 _ 0 _ _ _ H6.out
              have cf9 : wd7652.frozen? ⟨wd7.heap.size, 0, none⟩ = false := by simp [World.frozen?, H6.out]
              obtain ⟨wd76528, hw2, hk2, hs3, hg3⟩ := set_facts wd7652 H6.out (.slice (some ⟨wd765.heap.size, 0, none⟩) m m)
              have hs2 : Hid _ := hs3
              have hg2 : Hid _ := hg3
              clear hs3 hg3
              have H2' := (hk2.block _ (Array.getElem?_eq_some_iff.1 H2.out).1 (by have q0 := HGL.out; have q1 := HSZwd.out; have q2 := HSZwd7.out; have q3 := HSZwd76.out; have q4 := HSZwd765.out; have q5 := HSZwd7652.out; omega)).trans H2.out
              have H5' := (hk2.block _ (Array.getElem?_eq_some_iff.1 H5.out).1 (by have q0 := HGL.out; have q1 := HSZwd.out; have q2 := HSZwd7.out; have q3 := HSZwd76.out; have q4 := HSZwd765.out; have q5 := HSZwd7652.out; omega)).trans H5.out
              have H7' := (hk2.block _ (Array.getElem?_eq_some_iff.1 H7.out).1 (by have q0 := HGL.out; have q1 := HSZwd.out; have q2 := HSZwd7.out; have q3 := HSZwd76.out; have q4 := HSZwd765.out; have q5 := HSZwd7652.out; omega)).trans H7.out
              have e2 : wd76528.cell? ⟨gb, 0, none⟩ = some (.slice ao m cap) := hk2.cell hHeld (by simp only []; have q0 := HGL.out; have q1 := HSZwd.out; have q2 := HSZwd7.out; have q3 := HSZwd76.out; have q4 := HSZwd765.out; have q5 := HSZwd7652.out; omega)
              go_simp
              refine hK.out _ _ e2 (fun hHeld2 => ?_)
              clear hK K e2 hHeld cs9 cf9
              have hHeld := hHeld2
              clear hHeld2
              clear H2
              have H2 : Hid _ := H2'
              clear H2'
              clear H5
              have H5 : Hid _ := H5'
              clear H5'
              clear H6
              clear H7
              have H7 : Hid _ := H7'
              clear H7'
              have H8 : Hid _ := hg2.out
              have HBW2 : Hid (Below w1.heap.size w1 wd76528) := HBW.out.trans (hk2.below HBW.out.size (fun x e => (by have q0 := HGL.out; have q1 := HSZwd.out; have q2 := HSZwd7.out; have q3 := HSZwd76.out; have q4 := HSZwd765.out; have q5 := HSZwd7652.out; omega)))
              clear HBW
              have HBW := HBW2
              have HSZwd76528 : Hid (wd76528.heap.size = wd7652.heap.size) := hs2.out
              clear hg2 hk2 hs2 hw2 HBW2 hx
              refine GoL.last (by kernel_rfl) (by kernel_rfl) rfl (fun K hK => ?_)
              have ct9 : wd76528.cell? ⟨wd.heap.size, 0, none⟩ = some (.slice none 0 0) := cell_of_row wd76528 _ 0 _ _ _ H7.out
              have cf9 : wd76528.frozen? ⟨wd.heap.size, 0, none⟩ = false := by simp [World.frozen?, H7.out]
              go_simp
              refine hK.out _ _ ?_
              exact ⟨wd7.heap.size, wd.heap.size, wd765.heap.size, wd76.heap.size, ts_made HZ.out H8.out H7.out H2.out H5.out (by have q0 := HGL.out; have q1 := HSZwd.out; have q2 := HSZwd7.out; have q3 := HSZwd76.out; have q4 := HSZwd765.out; have q5 := HSZwd7652.out; have q6 := HSZwd76528.out; omega) (by have q0 := HGL.out; have q1 := HSZwd.out; have q2 := HSZwd7.out; have q3 := HSZwd76.out; have q4 := HSZwd765.out; have q5 := HSZwd7652.out; have q6 := HSZwd76528.out; omega), HBW.out.setCell (by simp only []; have q0 := HGL.out; have q1 := HSZwd.out; have q2 := HSZwd7.out; have q3 := HSZwd76.out; have q4 := HSZwd765.out; have q5 := HSZwd7652.out; have q6 := HSZwd76528.out; omega) _, rfl⟩
            exact AllL.nil
          exact AllL.nil
        exact AllL.nil
      exact AllL.nil
    exact AllL.nil
  · rename_i K aK
    intro e a' w' he
    cases e with
    | normal =>
      obtain ⟨bs, bt, rs, rt, hts, hb, rfl⟩ := he
      refine aK _ _ ?_
      exact HREST.out bs bt rs rt w' (hts.low HB1.out.size) (HB1.out.trans (hb.mono HB1.out.size))
    | exit id => exact he.elim
    | goto t => exact he.elim
    | ret => exact he.elim
    | panic ch => exact he.elim
    | outgrown => exact he.elim
end Go.Proofs.Ytnikbcljonbpcaa

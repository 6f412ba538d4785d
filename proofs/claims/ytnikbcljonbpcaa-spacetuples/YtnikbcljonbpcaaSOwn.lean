/-
  The law's own: a selection anew. Conditions: there are at most 30000 points.
-/
import Derived.Test.YtnikbcljonbpcaaSOwnI
namespace Go.Proofs.Ytnikbcljonbpcaa
open Go.RowKit Go.Shelf
set_option linter.unusedVariables false
set_option maxRecDepth 100000

theorem gset {w wr : World} {g : Nat} (h : w.grownBy wr (some g)) (i : Nat) (v : Value) : w.grownBy (wr.setCell ⟨g, i, none⟩ v) (some g) :=
  ⟨h.os, h.tape, h.output, Nat.le_trans h.size (by simp [World.setCell]), fun k hk hne => (Below.heap_setCell _ _ _ _ (fun e => hne (by rw [e]))).trans (h.block k hk hne)⟩
/-- A selection is laid into its place. -/
theorem sel_sets (w : World) (g : Nat) (z0 z1 z2 z3 z4 z5 v0 v1 v2 v3 v4 v5 : Value) (h : w.heap[g]? = some (.cells #[z0, z1, z2, z3, z4, z5] 33 (0, 0))) :
    ∃ y0 y1 y2 y3 y4 y5 : World, (w.setCell ⟨g, 0, none⟩ v0 = y0 ∧ w.cell? ⟨g, 0, none⟩ = some z0 ∧ w.frozen? ⟨g, 0, none⟩ = false) ∧ (y0.setCell ⟨g, 1, none⟩ v1 = y1 ∧ y0.cell? ⟨g, 1, none⟩ = some z1 ∧ y0.frozen? ⟨g, 1, none⟩ = false) ∧ (y1.setCell ⟨g, 2, none⟩ v2 = y2 ∧ y1.cell? ⟨g, 2, none⟩ = some z2 ∧ y1.frozen? ⟨g, 2, none⟩ = false) ∧ (y2.setCell ⟨g, 3, none⟩ v3 = y3 ∧ y2.cell? ⟨g, 3, none⟩ = some z3 ∧ y2.frozen? ⟨g, 3, none⟩ = false) ∧ (y3.setCell ⟨g, 4, none⟩ v4 = y4 ∧ y3.cell? ⟨g, 4, none⟩ = some z4 ∧ y3.frozen? ⟨g, 4, none⟩ = false) ∧ (y4.setCell ⟨g, 5, none⟩ v5 = y5 ∧ y4.cell? ⟨g, 5, none⟩ = some z5 ∧ y4.frozen? ⟨g, 5, none⟩ = false) ∧ y5.heap[g]? = some (.cells #[v0, v1, v2, v3, v4, v5] 33 (0, 0)) ∧ w.grownBy y5 (some g) := by
  have fr : ∀ (y : World) (cs : Array Value) (i : Nat), y.heap[g]? = some (.cells cs 33 (0, 0)) → y.frozen? ⟨g, i, none⟩ = false := fun y cs i e => by simp [World.frozen?, e]
  have h0 := heap_setCell_same w g 0 _ _ v0 h
  have h1 := heap_setCell_same _ g 1 _ _ v1 h0
  have h2 := heap_setCell_same _ g 2 _ _ v2 h1
  have h3 := heap_setCell_same _ g 3 _ _ v3 h2
  have h4 := heap_setCell_same _ g 4 _ _ v4 h3
  have h5 := heap_setCell_same _ g 5 _ _ v5 h4
  refine ⟨_, _, _, _, _, _, ⟨rfl, cell_of_row _ _ 0 _ _ _ h, fr _ _ _ h⟩, ⟨rfl, cell_of_row _ _ 1 _ _ _ h0, fr _ _ _ h0⟩, ⟨rfl, cell_of_row _ _ 2 _ _ _ h1, fr _ _ _ h1⟩, ⟨rfl, cell_of_row _ _ 3 _ _ _ h2, fr _ _ _ h2⟩, ⟨rfl, cell_of_row _ _ 4 _ _ _ h3, fr _ _ _ h3⟩, ⟨rfl, cell_of_row _ _ 5 _ _ _ h4, fr _ _ _ h4⟩, h5, ?_⟩
  exact gset (gset (gset (gset (gset (gset (World.grownBy.refl _ _) _ _) _ _) _ _) _ _) _ _) _ _
theorem results_cell1 {fn : Func} {p : Tmp} {ty : TypeId} (h : fn.results = #[.cell p ty]) (tmps : Array Value) (P : Program) (w : World) :
    (results fn tmps).run P w = ((asAddr (tmps.getD p undef)).run P w).andThen fun a w₁ => (loadVar ty a).run P w₁ := by
  simp only [results, h]
  simp [Sem.run_bind, Result.andThen]
theorem RwP.grown {w w' : World} {B : Nat} {v : Value} {L : List (List Int)} (h : RwP w B v L) {r : Option Nat} (hg : w.grownBy w' r) (hr : ∀ k, r = some k → k < B) : RwP w' B v L := by
  obtain ⟨vs, h⟩ := h
  refine ⟨vs, h.grown hg (fun g h1 h2 => ?_) (fun i u t hu ht g h1 h2 => ?_)⟩
  · have := (h.own.lt g h1).1
    have := hr g h2.symm
    omega
  · have h3 : w.ownsRow B 3 1 u t.length (gc encZ t) := (h.el i u t hu ht).1
    have := (h3.lt g h1).1
    have := hr g h2.symm
    omega
/-- Four lists of the call's own, apart from each other. -/
structure Four (w : World) (B M : Nat) (n1 n2 n3 n4 g1 d1 g2 d2 g3 d3 g4 d4 : Nat) (l1 l2 l3 l4 : List Int) : Prop where
  a : OwnI w B (.slice (some ⟨g1, 0, none⟩) n1 d1) l1
  b : OwnI w B (.slice (some ⟨g2, 0, none⟩) n2 d2) l2
  c : OwnI w B (.slice (some ⟨g3, 0, none⟩) n3 d3) l3
  d : OwnI w B (.slice (some ⟨g4, 0, none⟩) n4 d4) l4
  lt : g1 < M ∧ g2 < M ∧ g3 < M ∧ g4 < M
  ne : g1 ≠ g2 ∧ g1 ≠ g3 ∧ g1 ≠ g4 ∧ g2 ≠ g3 ∧ g2 ≠ g4 ∧ g3 ≠ g4
theorem own_grown {w w' : World} {B g n d : Nat} {l : List Int} (h : OwnI w B (.slice (some ⟨g, 0, none⟩) n d) l) {r : Option Nat} (hg : w.grownBy w' r) (hr : r ≠ some g) : OwnI w' B (.slice (some ⟨g, 0, none⟩) n d) l :=
  h.kp ((Kp.refl (fun x => some x = r) w).grown hg (fun x _ e => e.symm)) (fun x hx e => by
    obtain rfl := Option.some.inj hx
    exact hr e.symm)
theorem Four.grown {w w' : World} {B M n1 n2 n3 n4 g1 d1 g2 d2 g3 d3 g4 d4 : Nat} {l1 l2 l3 l4 : List Int} (h : Four w B M n1 n2 n3 n4 g1 d1 g2 d2 g3 d3 g4 d4 l1 l2 l3 l4) {r : Option Nat} (hg : w.grownBy w' r) (h1 : r ≠ some g1) (h2 : r ≠ some g2) (h3 : r ≠ some g3) (h4 : r ≠ some g4) : Four w' B M n1 n2 n3 n4 g1 d1 g2 d2 g3 d3 g4 d4 l1 l2 l3 l4 :=
  ⟨own_grown h.a hg h1, own_grown h.b hg h2, own_grown h.c hg h3, own_grown h.d hg h4, h.lt, h.ne⟩
theorem own_bel {w w' : World} {B M g n d : Nat} {l : List Int} (h : OwnI w B (.slice (some ⟨g, 0, none⟩) n d) l) (hb : Below M w w') (hg : g < M) : OwnI w' B (.slice (some ⟨g, 0, none⟩) n d) l := by
  obtain ⟨h1, h2 | ⟨g', cap, cur, e, hB, hc, r⟩⟩ := h
  · exact ⟨h1, .inl h2⟩
  · have e2 := e
    injection e2 with e2 _ _
    injection e2 with e2
    injection e2 with e2 _ _
    subst e2
    exact ⟨h1, .inr ⟨g, cap, cur, e, hB, (hb.block g hg).trans hc, r⟩⟩
theorem Four.bel {w w' : World} {B M n1 n2 n3 n4 g1 d1 g2 d2 g3 d3 g4 d4 : Nat} {l1 l2 l3 l4 : List Int} (h : Four w B M n1 n2 n3 n4 g1 d1 g2 d2 g3 d3 g4 d4 l1 l2 l3 l4) (hb : Below M w w') : Four w' B M n1 n2 n3 n4 g1 d1 g2 d2 g3 d3 g4 d4 l1 l2 l3 l4 :=
  ⟨own_bel h.a hb h.lt.1, own_bel h.b hb h.lt.2.1, own_bel h.c hb h.lt.2.2.1, own_bel h.d hb h.lt.2.2.2, h.lt, h.ne⟩
/-- A selection anew. -/
def OwnS (w : World) (B : Nat) (s : Sel) (v : Value) : Prop := ∃ M pv g1 d1 g2 d2 g3 d3 g4 d4, v = .agg #[.int .i64 s.kind, pv, .slice (some ⟨g1, 0, none⟩) s.st.length d1, .slice (some ⟨g2, 0, none⟩) s.sd.length d2, .slice (some ⟨g3, 0, none⟩) s.ct.length d3, .slice (some ⟨g4, 0, none⟩) s.bl.length d4] ∧ Four w B M s.st.length s.sd.length s.ct.length s.bl.length g1 d1 g2 d2 g3 d3 g4 d4 s.st s.sd s.ct s.bl ∧ RwP w M pv s.pts ∧ B ≤ M ∧ M ≤ w.heap.size
set_option maxHeartbeats 16000000 in
theorem own_any (V : SV) (s : Sel) (w : World) (hS : Ss w V s) (hp : s.pts.length ≤ 30000) : Calls Try.prog 17 #[selV s.kind V] w fun e w' => ∃ v, e = .returned v ∧ OwnS w' w.heap.size s v ∧ Below w.heap.size w w' := by
  have HS : Hid (Ss w V s) := hS
  obtain ⟨a0, n0, c0, a1, n1, c1, a2, n2, c2, a3, n3, c3, a4, n4, c4, e, hV⟩ := selV_open hS
  have HA1 : Hid (Is w (.slice a1 n1 c1) s.st) := by have := hS.a; rwa [hV] at this
  have HA2 : Hid (Is w (.slice a2 n2 c2) s.sd) := by have := hS.b; rwa [hV] at this
  have HA3 : Hid (Is w (.slice a3 n3 c3) s.ct) := by have := hS.c; rwa [hV] at this
  have HA4 : Hid (Is w (.slice a4 n4 c4) s.bl) := by have := hS.d; rwa [hV] at this
  have HP : Hid (Iss w (.slice a0 n0 c0) s.pts) := by have := hS.p; rwa [hV] at this
  obtain ⟨W1, hW1, hb1, hz1, b0, b1, b2, b3, b4, b5⟩ := box_sel w s.kind (.slice a0 n0 c0) (.slice a1 n1 c1) (.slice a2 n2 c2) (.slice a3 n3 c3) (.slice a4 n4 c4)
  obtain ⟨W2, hW2, hb2, hz2, hg2⟩ := alloc_facts W1 (.cells #[.int .i64 0, .slice none 0 0, .slice none 0 0, .slice none 0 0, .slice none 0 0, .slice none 0 0] 33)
  have HB2 : Hid (Below w.heap.size w W2) := hb1.trans (hb2.mono hb1.size)
  have HG2 : Hid (W2.heap[W1.heap.size]? = some (.cells #[.int .i64 0, .slice none 0 0, .slice none 0 0, .slice none 0 0, .slice none 0 0, .slice none 0 0] 33 (0, 0))) := hg2
  have HC6 : Hid (∀ w9, Below W2.heap.size W2 w9 → w9.cell? ⟨w.heap.size, 0, none⟩ = some (.int .i64 s.kind) ∧ w9.cell? ⟨w.heap.size, 1, none⟩ = some (.slice a0 n0 c0) ∧ w9.cell? ⟨w.heap.size, 2, none⟩ = some (.slice a1 n1 c1) ∧ w9.cell? ⟨w.heap.size, 3, none⟩ = some (.slice a2 n2 c2) ∧ w9.cell? ⟨w.heap.size, 4, none⟩ = some (.slice a3 n3 c3) ∧ w9.cell? ⟨w.heap.size, 5, none⟩ = some (.slice a4 n4 c4)) := fun w9 h9 => by
    have h : Below W1.heap.size W1 w9 := hb2.trans (h9.mono hb2.size)
    exact ⟨(h.cell (World.block_lt_of_cell? W1 _ b0)).trans b0, (h.cell (World.block_lt_of_cell? W1 _ b1)).trans b1, (h.cell (World.block_lt_of_cell? W1 _ b2)).trans b2, (h.cell (World.block_lt_of_cell? W1 _ b3)).trans b3, (h.cell (World.block_lt_of_cell? W1 _ b4)).trans b4, (h.cell (World.block_lt_of_cell? W1 _ b5)).trans b5⟩
  rw [e]
  clear hS hV b0 b1 b2 b3 b4 b5 hb1 hb2 hg2 hz2
  go_enter Try.func17, Try.ntmps17
  go_upto_region 1 with fail
  have hDR : Below W2.heap.size W2 W2.drew := (Below.refl _ _).drew
  have e2 := HC6.out W2.drew hDR
  refine wp_region_L (S := (fun w9 => w9.cell? ⟨w.heap.size, 0, none⟩ = some (.int .i64 s.kind) ∧ w9.cell? ⟨w.heap.size, 1, none⟩ = some (.slice a0 n0 c0) ∧ w9.cell? ⟨w.heap.size, 2, none⟩ = some (.slice a1 n1 c1) ∧ w9.cell? ⟨w.heap.size, 3, none⟩ = some (.slice a2 n2 c2) ∧ w9.cell? ⟨w.heap.size, 4, none⟩ = some (.slice a3 n3 c3) ∧ w9.cell? ⟨w.heap.size, 5, none⟩ = some (.slice a4 n4 c4))) 20 (by kernel_rfl) e2 (fun hHeld => ?_)
  refine GoL.takeD (some 5) (i := 0) (v := ?_) rfl rfl (by kernel_rfl) (by kernel_rfl) (by kernel_rfl) (by decide) (fun _ _ _ h => h) (Or.inl ⟨by rfl, ?_⟩) (by assumption) ?_
  rotate_left 1
  · intro w9 hSw
    obtain ⟨s0, s1, s2, s3, s4, s5⟩ := hSw
    go_simp
    try with_reducible rfl
  try simp only [Act.put, List.setIfInBounds_toArray, List.set_cons_zero, List.set_cons_succ]
  refine GoL.takeD (some 6) (i := 1) (v := ?_) rfl rfl (by kernel_rfl) (by kernel_rfl) (by kernel_rfl) (by decide) (fun _ _ _ h => h) (Or.inl ⟨by rfl, ?_⟩) (by assumption) ?_
  rotate_left 1
  · intro w9 hSw
    obtain ⟨s0, s1, s2, s3, s4, s5⟩ := hSw
    go_simp
    try with_reducible rfl
  try simp only [Act.put, List.setIfInBounds_toArray, List.set_cons_zero, List.set_cons_succ]
  refine GoL.takeD (some 8) (i := 3) (v := ?_) rfl rfl (by kernel_rfl) (by kernel_rfl) (by kernel_rfl) (by decide) (fun _ _ _ h => h) (Or.inl ⟨by rfl, ?_⟩) (by assumption) ?_
  rotate_left 1
  · intro w9 hSw
    obtain ⟨s0, s1, s2, s3, s4, s5⟩ := hSw
    go_simp
    try with_reducible rfl
  try simp only [Act.put, List.setIfInBounds_toArray, List.set_cons_zero, List.set_cons_succ]
  refine GoL.takeD (some 9) (i := 4) (v := ?_) rfl rfl (by kernel_rfl) (by kernel_rfl) (by kernel_rfl) (by decide) (fun _ _ _ h => h) (Or.inl ⟨by rfl, ?_⟩) (by assumption) ?_
  rotate_left 1
  · intro w9 hSw
    obtain ⟨s0, s1, s2, s3, s4, s5⟩ := hSw
    go_simp
    try with_reducible rfl
  try simp only [Act.put, List.setIfInBounds_toArray, List.set_cons_zero, List.set_cons_succ]
  refine GoL.takeD (some 12) (i := 7) (v := ?_) rfl rfl (by kernel_rfl) (by kernel_rfl) (by kernel_rfl) (by decide) (fun _ _ _ h => h) (Or.inl ⟨by rfl, ?_⟩) (by assumption) ?_
  rotate_left 1
  · intro w9 hSw
    obtain ⟨s0, s1, s2, s3, s4, s5⟩ := hSw
    go_simp
    try with_reducible rfl
  try simp only [Act.put, List.setIfInBounds_toArray, List.set_cons_zero, List.set_cons_succ]
  refine GoL.takeD (some 13) (i := 8) (v := ?_) rfl rfl (by kernel_rfl) (by kernel_rfl) (by kernel_rfl) (by decide) (fun _ _ _ h => h) (Or.inl ⟨by rfl, ?_⟩) (by assumption) ?_
  rotate_left 1
  · intro w9 hSw
    obtain ⟨s0, s1, s2, s3, s4, s5⟩ := hSw
    go_simp
    try with_reducible rfl
  try simp only [Act.put, List.setIfInBounds_toArray, List.set_cons_zero, List.set_cons_succ]
  refine GoL.takeD (some 16) (i := 11) (v := ?_) rfl rfl (by kernel_rfl) (by kernel_rfl) (by kernel_rfl) (by decide) (fun _ _ _ h => h) (Or.inl ⟨by rfl, ?_⟩) (by assumption) ?_
  rotate_left 1
  · intro w9 hSw
    obtain ⟨s0, s1, s2, s3, s4, s5⟩ := hSw
    go_simp
    try with_reducible rfl
  try simp only [Act.put, List.setIfInBounds_toArray, List.set_cons_zero, List.set_cons_succ]
  refine GoL.takeD (some 17) (i := 12) (v := ?_) rfl rfl (by kernel_rfl) (by kernel_rfl) (by kernel_rfl) (by decide) (fun _ _ _ h => h) (Or.inl ⟨by rfl, ?_⟩) (by assumption) ?_
  rotate_left 1
  · intro w9 hSw
    obtain ⟨s0, s1, s2, s3, s4, s5⟩ := hSw
    go_simp
    try with_reducible rfl
  try simp only [Act.put, List.setIfInBounds_toArray, List.set_cons_zero, List.set_cons_succ]
  refine GoL.takeD (some 20) (i := 15) (v := ?_) rfl rfl (by kernel_rfl) (by kernel_rfl) (by kernel_rfl) (by decide) (fun _ _ _ h => h) (Or.inl ⟨by rfl, ?_⟩) (by assumption) ?_
  rotate_left 1
  · intro w9 hSw
    obtain ⟨s0, s1, s2, s3, s4, s5⟩ := hSw
    go_simp
    try with_reducible rfl
  try simp only [Act.put, List.setIfInBounds_toArray, List.set_cons_zero, List.set_cons_succ]
  refine GoL.takeD (some 21) (i := 16) (v := ?_) rfl rfl (by kernel_rfl) (by kernel_rfl) (by kernel_rfl) (by decide) (fun _ _ _ h => h) (Or.inl ⟨by rfl, ?_⟩) (by assumption) ?_
  rotate_left 1
  · intro w9 hSw
    obtain ⟨s0, s1, s2, s3, s4, s5⟩ := hSw
    go_simp
    try with_reducible rfl
  try simp only [Act.put, List.setIfInBounds_toArray, List.set_cons_zero, List.set_cons_succ]
  obtain ⟨ns, hns⟩ : ∃ ns : Nat → Nat, ns = fun c => if c = 0 then n1 else if c = 1 then n2 else if c = 2 then n3 else n4 := ⟨_, rfl⟩
  obtain ⟨Ls, hLs⟩ : ∃ Ls : Nat → List Int, Ls = fun c => if c = 0 then s.st else if c = 1 then s.sd else if c = 2 then s.ct else s.bl := ⟨_, rfl⟩
  have hn0 : ns 0 = n1 := by rw [hns]; rfl
  have hl0 : (Ls 0).length = ns 0 := by rw [hn0, hLs]; obtain ⟨_, _, _, q1, q2, _⟩ := HA1.out.open; injection q1 with _ q3 _; exact q2.trans q3.symm
  have HI0 : Hid (∀ w9, Below W2.heap.size W2 w9 → Is w9 (.slice a1 (ns 0) c1) (Ls 0)) := fun w9 h => by rw [hn0, hLs]; exact (HA1.out.below HB2.out).below h
  have hn1 : ns 1 = n2 := by rw [hns]; rfl
  have hl1 : (Ls 1).length = ns 1 := by rw [hn1, hLs]; obtain ⟨_, _, _, q1, q2, _⟩ := HA2.out.open; injection q1 with _ q3 _; exact q2.trans q3.symm
  have HI1 : Hid (∀ w9, Below W2.heap.size W2 w9 → Is w9 (.slice a2 (ns 1) c2) (Ls 1)) := fun w9 h => by rw [hn1, hLs]; exact (HA2.out.below HB2.out).below h
  have hn2 : ns 2 = n3 := by rw [hns]; rfl
  have hl2 : (Ls 2).length = ns 2 := by rw [hn2, hLs]; obtain ⟨_, _, _, q1, q2, _⟩ := HA3.out.open; injection q1 with _ q3 _; exact q2.trans q3.symm
  have HI2 : Hid (∀ w9, Below W2.heap.size W2 w9 → Is w9 (.slice a3 (ns 2) c3) (Ls 2)) := fun w9 h => by rw [hn2, hLs]; exact (HA3.out.below HB2.out).below h
  have hn3 : ns 3 = n4 := by rw [hns]; rfl
  have hl3 : (Ls 3).length = ns 3 := by rw [hn3, hLs]; obtain ⟨_, _, _, q1, q2, _⟩ := HA4.out.open; injection q1 with _ q3 _; exact q2.trans q3.symm
  have HI3 : Hid (∀ w9, Below W2.heap.size W2 w9 → Is w9 (.slice a4 (ns 3) c4) (Ls 3)) := fun w9 h => by rw [hn3, hLs]; exact (HA4.out.below HB2.out).below h
  have hs0 : Ls 0 = s.st := by rw [hLs]; rfl
  have hs1 : Ls 1 = s.sd := by rw [hLs]; rfl
  have hs2 : Ls 2 = s.ct := by rw [hLs]; rfl
  have hs3 : Ls 3 = s.bl := by rw [hLs]; rfl
  clear hns hLs
  refine GoL.inv (fuel := 1) [2, 5, 6, 9, 10, 13, 14, 17, 18, 19] (by kernel_rfl) (fun sel a w9 => ∃ p0 p1 p2 p3 q0 q1 q2 q3 u v f, a = { tmps := #[.agg #[.int .i64 s.kind, .slice a0 n0 c0, .slice a1 n1 c1, .slice a2 n2 c2, .slice a3 n3 c3, .slice a4 n4 c4], .pointer (some ⟨w.heap.size, 0, none⟩), .pointer (some ⟨w.heap.size + 1, 0, none⟩), v, undef, .pointer (some ⟨w.heap.size, 0, none⟩), .int .i64 s.kind, p0, .pointer (some ⟨w.heap.size, 2, none⟩), .slice a1 n1 c1, q0, p1, .pointer (some ⟨w.heap.size, 3, none⟩), .slice a2 n2 c2, q1, p2, .pointer (some ⟨w.heap.size, 4, none⟩), .slice a3 n3 c3, q2, p3, .pointer (some ⟨w.heap.size, 5, none⟩), .slice a4 n4 c4, q3, u, undef, undef, undef, undef, undef, undef, undef, undef, undef, undef, undef, undef, undef, undef, undef, undef, undef, undef, undef, undef], defers := [] } ∧ OwI sel W2 w9 ns Ls s.kind p0 p1 p2 p3 q0 q1 q2 q3 u v f) ?_ ?_ 10 [] _ _ (by decide) (by simp) (by simp) ?_
  · intro sel a w9 i o hI hiG his ho hw K hK
    obtain ⟨p0, p1, p2, p3, q0, q1, q2, q3, u, v, f, rfl, h⟩ := hI
    have hiG' : i = 2 ∨ i = 5 ∨ i = 6 ∨ i = 9 ∨ i = 10 ∨ i = 13 ∨ i = 14 ∨ i = 17 ∨ i = 18 ∨ i = 19 := by simpa using hiG
    rcases hiG' with rfl | rfl | rfl | rfl | rfl | rfl | rfl | rfl | rfl | rfl
    · obtain rfl := Option.some.inj ho
      have hN := h.b0 his
      have hsN := HC6.out _ hN.bel
      go_simp
      exact hK _ _ hsN ⟨_, _, _, _, _, _, _, _, _, _, _, rfl, hN⟩
    · obtain rfl := Option.some.inj ho
      have hbs : 2 ∈ sel := hw 2 (of_decide_eq_true (by kernel_rfl)) (by decide)
      obtain ⟨g0, m1, m2, m3, m4, m5⟩ := h.c0.isOn hbs his
      subst m1 m2
      obtain ⟨g, cap, w10, hr, ho', hgr, hat⟩ := run_app_at w9 22 g0 a1 (ns 0) c1 (Ls 0) (own_empty m4) (HI0.out w9 h.bel) (Nat.le_of_lt (h.ap.bd 0 g0 m3).2)
      have hN := h.a0 his hbs hl0 m3 hgr ho' hat
      have hsN := HC6.out _ hN.bel
      rw [hn0] at hr
      refine step_run_append rfl (.tmp 7) (.tmp 9) _ rfl rfl rfl hr (hK _ _ hsN ⟨_, _, _, _, _, _, _, _, _, _, _, ?_, hN⟩)
      rw [hn0]
      rfl
    · obtain rfl := Option.some.inj ho
      have hN := h.b1 his
      have hsN := HC6.out _ hN.bel
      go_simp
      exact hK _ _ hsN ⟨_, _, _, _, _, _, _, _, _, _, _, rfl, hN⟩
    · obtain rfl := Option.some.inj ho
      have hbs : 6 ∈ sel := hw 6 (of_decide_eq_true (by kernel_rfl)) (by decide)
      obtain ⟨g0, m1, m2, m3, m4, m5⟩ := h.c1.isOn hbs his
      subst m1 m2
      obtain ⟨g, cap, w10, hr, ho', hgr, hat⟩ := run_app_at w9 22 g0 a2 (ns 1) c2 (Ls 1) (own_empty m4) (HI1.out w9 h.bel) (Nat.le_of_lt (h.ap.bd 1 g0 m3).2)
      have hN := h.a1 his hbs hl1 m3 hgr ho' hat
      have hsN := HC6.out _ hN.bel
      rw [hn1] at hr
      refine step_run_append rfl (.tmp 11) (.tmp 13) _ rfl rfl rfl hr (hK _ _ hsN ⟨_, _, _, _, _, _, _, _, _, _, _, ?_, hN⟩)
      rw [hn1]
      rfl
    · obtain rfl := Option.some.inj ho
      have hN := h.b2 his
      have hsN := HC6.out _ hN.bel
      go_simp
      exact hK _ _ hsN ⟨_, _, _, _, _, _, _, _, _, _, _, rfl, hN⟩
    · obtain rfl := Option.some.inj ho
      have hbs : 10 ∈ sel := hw 10 (of_decide_eq_true (by kernel_rfl)) (by decide)
      obtain ⟨g0, m1, m2, m3, m4, m5⟩ := h.c2.isOn hbs his
      subst m1 m2
      obtain ⟨g, cap, w10, hr, ho', hgr, hat⟩ := run_app_at w9 22 g0 a3 (ns 2) c3 (Ls 2) (own_empty m4) (HI2.out w9 h.bel) (Nat.le_of_lt (h.ap.bd 2 g0 m3).2)
      have hN := h.a2 his hbs hl2 m3 hgr ho' hat
      have hsN := HC6.out _ hN.bel
      rw [hn2] at hr
      refine step_run_append rfl (.tmp 15) (.tmp 17) _ rfl rfl rfl hr (hK _ _ hsN ⟨_, _, _, _, _, _, _, _, _, _, _, ?_, hN⟩)
      rw [hn2]
      rfl
    · obtain rfl := Option.some.inj ho
      have hN := h.b3 his
      have hsN := HC6.out _ hN.bel
      go_simp
      exact hK _ _ hsN ⟨_, _, _, _, _, _, _, _, _, _, _, rfl, hN⟩
    · obtain rfl := Option.some.inj ho
      have hbs : 14 ∈ sel := hw 14 (of_decide_eq_true (by kernel_rfl)) (by decide)
      obtain ⟨g0, m1, m2, m3, m4, m5⟩ := h.c3.isOn hbs his
      subst m1 m2
      obtain ⟨g, cap, w10, hr, ho', hgr, hat⟩ := run_app_at w9 22 g0 a4 (ns 3) c4 (Ls 3) (own_empty m4) (HI3.out w9 h.bel) (Nat.le_of_lt (h.ap.bd 3 g0 m3).2)
      have hN := h.a3 his hbs hl3 m3 hgr ho' hat
      have hsN := HC6.out _ hN.bel
      rw [hn3] at hr
      refine step_run_append rfl (.tmp 19) (.tmp 21) _ rfl rfl rfl hr (hK _ _ hsN ⟨_, _, _, _, _, _, _, _, _, _, _, ?_, hN⟩)
      rw [hn3]
      rfl
    · obtain rfl := Option.some.inj ho
      obtain ⟨x0, g0, d0, e1, e2, f0, O0⟩ := h.c0.isAll (hw 5 (of_decide_eq_true (by kernel_rfl)) (by decide))
      subst e1 e2
      obtain ⟨x1, g1, d1, e1, e2, f1, O1⟩ := h.c1.isAll (hw 9 (of_decide_eq_true (by kernel_rfl)) (by decide))
      subst e1 e2
      obtain ⟨x2, g2, d2, e1, e2, f2, O2⟩ := h.c2.isAll (hw 13 (of_decide_eq_true (by kernel_rfl)) (by decide))
      subst e1 e2
      obtain ⟨x3, g3, d3, e1, e2, f3, O3⟩ := h.c3.isAll (hw 17 (of_decide_eq_true (by kernel_rfl)) (by decide))
      subst e1 e2
      have hN := h.bd (hw 5 (of_decide_eq_true (by kernel_rfl)) (by decide)) (hw 9 (of_decide_eq_true (by kernel_rfl)) (by decide)) (hw 13 (of_decide_eq_true (by kernel_rfl)) (by decide)) (hw 17 (of_decide_eq_true (by kernel_rfl)) (by decide))
      have hsN := HC6.out _ hN.bel
      rw [hn0, hn1, hn2, hn3] at hN
      go_simp
      exact hK _ _ hsN ⟨_, _, _, _, _, _, _, _, _, _, _, rfl, hN⟩
    · obtain rfl := Option.some.inj ho
      have hN := h.al19
      have hsN := HC6.out _ hN.bel
      go_simp
      exact hK _ _ hsN ⟨_, _, _, _, _, _, _, _, _, _, _, rfl, hN⟩
  · intro sel a w9 hI hall
    obtain ⟨p0, p1, p2, p3, q0, q1, q2, q3, u, v, f, rfl, h⟩ := hI
    obtain ⟨x0, g0, d0, e1, e2, f0, O0⟩ := h.c0.isAll (hall 5 (by decide))
    subst e1 e2
    obtain ⟨x1, g1, d1, e1, e2, f1, O1⟩ := h.c1.isAll (hall 9 (by decide))
    subst e1 e2
    obtain ⟨x2, g2, d2, e1, e2, f2, O2⟩ := h.c2.isAll (hall 13 (by decide))
    subst e1 e2
    obtain ⟨x3, g3, d3, e1, e2, f3, O3⟩ := h.c3.isAll (hall 17 (by decide))
    subst e1 e2
    obtain ⟨_, _, _, _, hu⟩ := h.bu.1 (hall 18 (by decide))
    subst hu
    rcases h.al with ⟨e1, _⟩ | ⟨_, gx, e1, f4, hgx⟩
    · exact absurd (hall 19 (by decide)) e1
    subst e1
    refine GoL.last (by kernel_rfl) (by kernel_rfl) rfl (fun K hK => ?_)
    obtain ⟨y0, y1, y2, y3, y4, y5, ⟨j0, j1, j2⟩, ⟨j3, j4, j5⟩, ⟨j6, j7, j8⟩, ⟨j9, j10, j11⟩, ⟨j12, j13, j14⟩, ⟨j15, j16, j17⟩, hgy, hgg⟩ := sel_sets w9 gx _ _ _ _ _ _ (.int .i64 s.kind) (.slice none 0 0) (.slice (some ⟨g0, 0, none⟩) n1 d0) (.slice (some ⟨g1, 0, none⟩) n2 d1) (.slice (some ⟨g2, 0, none⟩) n3 d2) (.slice (some ⟨g3, 0, none⟩) n4 d3) hgx
    have HGX : Hid (y5.heap[gx]? = some (.cells #[.int .i64 s.kind, .slice none 0 0, .slice (some ⟨g0, 0, none⟩) n1 d0, .slice (some ⟨g1, 0, none⟩) n2 d1, .slice (some ⟨g2, 0, none⟩) n3 d2, .slice (some ⟨g3, 0, none⟩) n4 d3] 33 (0, 0))) := hgy
    have hgb := h.ap.bd 4 gx f4
    have HLT : Hid (W2.heap.size ≤ gx ∧ gx < y5.heap.size) := ⟨hgb.1, Nat.lt_of_lt_of_le hgb.2 hgg.size⟩
    have HBX : Hid (Below W2.heap.size W2 y5) := h.bel.grown hgg h.bel.size (fun x hx => by have := Option.some.inj hx; omega)
    have x0 : gx ≠ g0 := fun e => by have := h.ap.inj 4 0 gx f4 (by rw [f0, e]); omega
    have x1 : gx ≠ g1 := fun e => by have := h.ap.inj 4 1 gx f4 (by rw [f1, e]); omega
    have x2 : gx ≠ g2 := fun e => by have := h.ap.inj 4 2 gx f4 (by rw [f2, e]); omega
    have x3 : gx ≠ g3 := fun e => by have := h.ap.inj 4 3 gx f4 (by rw [f3, e]); omega
    have x01 : g0 ≠ g1 := fun e => by have := h.ap.inj 0 1 g0 f0 (by rw [f1, e]); omega
    have x02 : g0 ≠ g2 := fun e => by have := h.ap.inj 0 2 g0 f0 (by rw [f2, e]); omega
    have x03 : g0 ≠ g3 := fun e => by have := h.ap.inj 0 3 g0 f0 (by rw [f3, e]); omega
    have x12 : g1 ≠ g2 := fun e => by have := h.ap.inj 1 2 g1 f1 (by rw [f2, e]); omega
    have x13 : g1 ≠ g3 := fun e => by have := h.ap.inj 1 3 g1 f1 (by rw [f3, e]); omega
    have x23 : g2 ≠ g3 := fun e => by have := h.ap.inj 2 3 g2 f2 (by rw [f3, e]); omega
    have HNE : Hid (gx ≠ g0 ∧ gx ≠ g1 ∧ gx ≠ g2 ∧ gx ≠ g3) := ⟨x0, x1, x2, x3⟩
    rw [hn0, hs0] at O0
    rw [hn1, hs1] at O1
    rw [hn2, hs2] at O2
    rw [hn3, hs3] at O3
    have HFO : Hid (Four y5 W2.heap.size y5.heap.size n1 n2 n3 n4 g0 d0 g1 d1 g2 d2 g3 d3 s.st s.sd s.ct s.bl) := ⟨own_grown O0 hgg (fun e => x0 (Option.some.inj e)), own_grown O1 hgg (fun e => x1 (Option.some.inj e)), own_grown O2 hgg (fun e => x2 (Option.some.inj e)), own_grown O3 hgg (fun e => x3 (Option.some.inj e)), ⟨Nat.lt_of_lt_of_le (h.ap.bd 0 g0 f0).2 hgg.size, Nat.lt_of_lt_of_le (h.ap.bd 1 g1 f1).2 hgg.size, Nat.lt_of_lt_of_le (h.ap.bd 2 g2 f2).2 hgg.size, Nat.lt_of_lt_of_le (h.ap.bd 3 g3 f3).2 hgg.size⟩, ⟨x01, x02, x03, x12, x13, x23⟩⟩
    go_simp
    refine hK.out _ _ ?_
    have hnp : n0 ≤ 30000 := by
      obtain ⟨_, _, _, k1, k2, _⟩ := HP.out.open
      injection k1 with _ k1 _
      omega
    have HNP : Hid (s.pts.length = n0) := by
      obtain ⟨_, _, _, k1, k2, _⟩ := HP.out.open
      injection k1 with _ k1 _
      exact k2.trans k1.symm
    have HNL : Hid (n1 = s.st.length ∧ n2 = s.sd.length ∧ n3 = s.ct.length ∧ n4 = s.bl.length) := by
      obtain ⟨_, _, _, k1, k2, _⟩ := HA1.out.open
      injection k1 with _ k1 _
      obtain ⟨_, _, _, k3, k4, _⟩ := HA2.out.open
      injection k3 with _ k3 _
      obtain ⟨_, _, _, k5, k6, _⟩ := HA3.out.open
      injection k5 with _ k5 _
      obtain ⟨_, _, _, k7, k8, _⟩ := HA4.out.open
      injection k7 with _ k7 _
      exact ⟨by omega, by omega, by omega, by omega⟩
    clear hgy hgg hgx h hgb j0 j1 j2 j3 j4 j5 j6 j7 j8 j9 j10 j11 j12 j13 j14 j15 j16 j17 O0 O1 O2 O3 f0 f1 f2 f3 f4 x0 x1 x2 x3 x01 x02 x03 x12 x13 x23 hK K hall hn0 hn1 hn2 hn3 hs0 hs1 hs2 hs3 hl0 hl1 hl2 hl3 HI0 HI1 HI2 HI3 e2 hHeld hDR hp e
    go_wp2_with fail
    go_loopw [4] (fun x wr => ∃ (i : Nat) (po : Option Addr) (pc : Nat), i ≤ n0 ∧ x = .int .i64 (i : Int) ∧ Hid (wr.heap[gx]? = some (.cells #[.int .i64 s.kind, .slice po i pc, .slice (some ⟨g0, 0, none⟩) n1 d0, .slice (some ⟨g1, 0, none⟩) n2 d1, .slice (some ⟨g2, 0, none⟩) n3 d2, .slice (some ⟨g3, 0, none⟩) n4 d3] 33 (0, 0))) ∧ Hid (RwP wr y5.heap.size (.slice po i pc) (s.pts.take i)) ∧ Hid (Four wr W2.heap.size y5.heap.size n1 n2 n3 n4 g0 d0 g1 d1 g2 d2 g3 d3 s.st s.sd s.ct s.bl) ∧ Hid (Below W2.heap.size W2 wr) ∧ Hid (y5.heap.size ≤ wr.heap.size)) (fun x _ => n0 - (intOf x).toNat)
    case atStart => exact ⟨0, none, 0, Nat.zero_le _, rfl, HGX.out, by rw [Hid, List.take_zero]; exact RwP.nil _ _, HFO.out, HBX.out, Nat.le_refl _⟩
    case round =>
      clear HGX HFO HBX
      obtain ⟨i, po, pc, hin, rfl, HGX, HRW, HFO, HBX, HSZ⟩ := hrel
      rename World => w6
      have HBW : Hid (Below w.heap.size w w6) := HB2.out.trans (HBX.out.mono HB2.out.size)
      obtain ⟨k0, k1, k2, k3, k4, k5⟩ := HC6.out w6 HBX.out
      have z1 : w6.cell? ⟨gx, 1, none⟩ = some (.slice po i pc) := cell_of_row _ _ 1 _ _ _ HGX.out
      by_cases hlt : i < n0
      · have hil : (i : Int) < (n0 : Int) := by omega
        have hi0 : (0 : Int) ≤ (i : Int) := by omega
        obtain ⟨go, oo, t, ua, un, uc, rfl, ht, htl, _, hun, hcu, hiu⟩ := (HP.out.below HBW.out).at hlt
        have HIU : Hid (Is w6 (.slice ua un uc) t) := hiu
        have HT : Hid (s.pts[i]? = some t ∧ t.length = un) := ⟨ht, htl⟩
        have HGO : Hid (go < w.heap.size) := by
          obtain ⟨go', oo', _, _, _, _, e9, _, _, _, _, hc9, _⟩ := HP.out.at hlt
          injection e9 with e9
          injection e9 with e9 _ _
          subst e9
          exact World.block_lt_of_cell? w _ hc9
        have HMM : Hid (w.heap.size < y5.heap.size ∧ w.heap.size + 1 < y5.heap.size) := by
          have h1 := HLT.out
          have h2 := (Array.getElem?_eq_some_iff.1 HG2.out).1
          exact ⟨by omega, by omega⟩
        have HSK : Hid (∀ w9, Below y5.heap.size w6 w9 → w9.cell? ⟨w.heap.size, 1, none⟩ = some (.slice (some ⟨go, oo, none⟩) n0 c0) ∧ w9.cell? ⟨gx, 1, none⟩ = some (.slice po i pc) ∧ w9.cell? ⟨go, oo + i, none⟩ = some (.slice ua un uc)) := fun w9 h9 =>
          ⟨(h9.cell HMM.out.1).trans k1, (h9.cell HLT.out.2).trans z1, (h9.cell (Nat.lt_trans HGO.out HMM.out.1)).trans hcu⟩
        clear ht htl hiu
        go_wp2_with fail
        clear k0 k1 k2 k3 k4 k5 z1 hcu
        have hD : Below y5.heap.size w6 w6.drew := (Below.refl _ _).drew
        have e0 := HSK.out _ hD
        refine wp_region_L (S := fun w9 => w9.cell? ⟨w.heap.size, 1, none⟩ = some (.slice (some ⟨go, oo, none⟩) n0 c0) ∧ w9.cell? ⟨gx, 1, none⟩ = some (.slice po i pc) ∧ w9.cell? ⟨go, oo + i, none⟩ = some (.slice ua un uc)) 12 (by kernel_rfl) e0 (fun hHeld => ?_)
        refine GoL.takeD (some 31) (i := 0) (v := ?_) rfl rfl (by kernel_rfl) (by kernel_rfl) (by kernel_rfl) (by decide) (fun _ _ _ h => h) (Or.inl ⟨by rfl, ?_⟩) (by assumption) ?_
        rotate_left 1
        · intro w9 hSw
          obtain ⟨s0, s1, s2⟩ := hSw
          go_simp
          try with_reducible rfl
        try simp only [Act.put, List.setIfInBounds_toArray, List.set_cons_zero, List.set_cons_succ]
        refine GoL.takeD (some 32) (i := 1) (v := ?_) rfl rfl (by kernel_rfl) (by kernel_rfl) (by kernel_rfl) (by decide) (fun _ _ _ h => h) (Or.inl ⟨by rfl, ?_⟩) (by assumption) ?_
        rotate_left 1
        · intro w9 hSw
          obtain ⟨s0, s1, s2⟩ := hSw
          go_simp
          try with_reducible rfl
        try simp only [Act.put, List.setIfInBounds_toArray, List.set_cons_zero, List.set_cons_succ]
        refine GoL.takeD (some 34) (i := 3) (v := ?_) rfl rfl (by kernel_rfl) (by kernel_rfl) (by kernel_rfl) (by decide) (fun _ _ _ h => h) (Or.inl ⟨by rfl, ?_⟩) (by assumption) ?_
        rotate_left 1
        · intro w9 hSw
          obtain ⟨s0, s1, s2⟩ := hSw
          go_simp
          try with_reducible rfl
        try simp only [Act.put, List.setIfInBounds_toArray, List.set_cons_zero, List.set_cons_succ]
        refine GoL.takeD (some 35) (i := 4) (v := ?_) rfl rfl (by kernel_rfl) (by kernel_rfl) (by kernel_rfl) (by decide) (fun _ _ _ h => h) (Or.inl ⟨by rfl, ?_⟩) (by assumption) ?_
        rotate_left 1
        · intro w9 hSw
          obtain ⟨s0, s1, s2⟩ := hSw
          go_simp
          try with_reducible rfl
        try simp only [Act.put, List.setIfInBounds_toArray, List.set_cons_zero, List.set_cons_succ]
        refine GoL.takeD (some 36) (i := 5) (v := ?_) rfl rfl (by kernel_rfl) (by kernel_rfl) (by kernel_rfl) (by decide) (fun _ _ _ h => h) (Or.inl ⟨by rfl, ?_⟩) (by assumption) ?_
        rotate_left 1
        · intro w9 hSw
          obtain ⟨s0, s1, s2⟩ := hSw
          go_simp
          try with_reducible rfl
        try simp only [Act.put, List.setIfInBounds_toArray, List.set_cons_zero, List.set_cons_succ]
        refine GoL.takeD (some 37) (i := 6) (v := ?_) rfl rfl (by kernel_rfl) (by kernel_rfl) (by kernel_rfl) (by decide) (fun _ _ _ h => h) (Or.inl ⟨by rfl, ?_⟩) (by assumption) ?_
        rotate_left 1
        · intro w9 hSw
          obtain ⟨s0, s1, s2⟩ := hSw
          go_simp
          try with_reducible rfl
        try simp only [Act.put, List.setIfInBounds_toArray, List.set_cons_zero, List.set_cons_succ]
        refine GoL.takeD (some 38) (i := 7) (v := ?_) rfl rfl (by kernel_rfl) (by kernel_rfl) (by kernel_rfl) (by decide) (fun _ _ _ h => h) (Or.inl ⟨by rfl, ?_⟩) (by assumption) ?_
        rotate_left 1
        · intro w9 hSw
          obtain ⟨s0, s1, s2⟩ := hSw
          go_simp
          try with_reducible rfl
        try simp only [Act.put, List.setIfInBounds_toArray, List.set_cons_zero, List.set_cons_succ]
        obtain ⟨wA, hwA, hbA, hsA, hgA⟩ := alloc_facts w6.drew (.cells #[] 3)
        have HA : Hid (Below w6.heap.size w6 wA) := ((Below.refl _ _).drew : Below w6.heap.size w6 w6.drew).trans (hbA.mono (Nat.le_refl _))
        have e1 := HSK.out _ (HA.out.mono HSZ.out)
        refine GoL.ready (rs := [2]) (by kernel_rfl) (by simp) (by decide) (AllL.cons rfl (fun K hK => ?_) AllL.nil)
        go_simp
        refine hK.out _ _ e1 (fun hHeld => ?_)
        clear hK K
        try simp only [Act.put, List.setIfInBounds_toArray, List.set_cons_zero, List.set_cons_succ]
        obtain ⟨gA, cA, w7, hrA, hoA, hgrA, hatA⟩ := run_app_at wA 22 w6.heap.size ua un uc t (own_empty hgA) (HIU.out.below HA.out) HA.out.size
        have HB7 : Hid (Below w6.heap.size w6 w7) := HA.out.grown hgrA HA.out.size (fun b hb => by have := Option.some.inj hb; omega)
        have e3 := HSK.out _ (HB7.out.mono HSZ.out)
        refine GoL.ready (rs := [8]) (by kernel_rfl) (by simp) (by decide) (AllL.cons rfl (fun K hK => ?_) AllL.nil)
        refine step_run_append rfl (.tmp 33) (.tmp 38) _ rfl rfl rfl hrA (hK.out _ _ e3 (fun hHeld => ?_))
        clear hK K
        try simp only [Act.put, List.setIfInBounds_toArray]
        obtain ⟨wB, hwB, hbB, hsB, hgB⟩ := alloc_facts w7 (.cells #[.slice (some ⟨gA, 0, none⟩) un cA] 22)
        have HBB : Hid (Below w6.heap.size w6 wB) := HB7.out.trans (hbB.mono HB7.out.size)
        have e4 := HSK.out _ (HBB.out.mono HSZ.out)
        refine GoL.ready (rs := [9]) (by kernel_rfl) (by simp) (by decide) (AllL.cons rfl (fun K hK => ?_) AllL.nil)
        go_simp
        refine hK.out _ _ e4 (fun hHeld => ?_)
        clear hK K
        try simp only [Act.put, List.setIfInBounds_toArray, List.set_cons_zero, List.set_cons_succ]
        have hA7 : OwnI wB y5.heap.size (.slice (some ⟨gA, 0, none⟩) un cA) t := by
          have h9 : OwnI w7 w6.heap.size (.slice (some ⟨gA, 0, none⟩) un cA) t := by unfold OwnI; rw [HT.out.2]; exact hoA
          exact (h9.below hbB).mono HSZ.out
        have hrB : RwP wB y5.heap.size (.slice po i pc) (s.pts.take i) := HRW.out.below HBB.out
        have hti : (s.pts.take i).length = i := by rw [List.length_take, HNP.out]; omega
        refine GoL.ready (rs := [10]) (by kernel_rfl) (by simp) (by decide) (AllL.cons rfl (fun K hK => ?_) AllL.nil)
        refine step_push_row (w := wB) rfl (.tmp 32) (.tmp 40) rfl y5.heap.size (.slice po i pc) (s.pts.take i) i hti w7.heap.size (some ⟨gA, 0, none⟩) un cA t (by rfl) (by rfl) hrB hA7 HIU.out.len HIU.out.rng hgB (by omega) (Nat.le_trans HSZ.out HBB.out.size) ?_
        intro gC cC wC hRC hgC
        have HBC : Hid (Below y5.heap.size w6 wC) := (HBB.out.mono HSZ.out).grown hgC (Nat.le_trans HSZ.out HBB.out.size) (fun b hb => (hrB.choose_spec.own.lt b hb).1)
        have e5 := HSK.out _ HBC.out
        refine hK.out _ _ e5 (fun hHeld => ?_)
        clear hK K
        show GoL _ _ _ _ _ _ _ _ (Act.put _ (some 41) (.slice (some ⟨gC, 0, none⟩) (i + 1) cC)) _
        try simp only [Act.put, List.setIfInBounds_toArray, List.set_cons_zero, List.set_cons_succ]
        refine GoL.takeD (some 42) (i := 11) (v := ?_) rfl rfl (by kernel_rfl) (by kernel_rfl) (by kernel_rfl) (by decide) (fun _ _ _ h => h) (Or.inl ⟨by rfl, ?_⟩) (by assumption) ?_
        rotate_left 1
        · intro w9 hSw
          obtain ⟨s0, s1, s2⟩ := hSw
          go_simp
          try with_reducible rfl
        try simp only [Act.put, List.setIfInBounds_toArray, List.set_cons_zero, List.set_cons_succ]
        have hgxC : wC.heap[gx]? = some (.cells #[.int .i64 s.kind, .slice po i pc, .slice (some ⟨g0, 0, none⟩) n1 d0, .slice (some ⟨g1, 0, none⟩) n2 d1, .slice (some ⟨g2, 0, none⟩) n3 d2, .slice (some ⟨g3, 0, none⟩) n4 d3] 33 (0, 0)) := (HBC.out.block gx HLT.out.2).trans HGX.out
        have j1 : wC.cell? ⟨gx, 1, none⟩ = some (.slice po i pc) := e5.2.1
        have j2 : wC.frozen? ⟨gx, 1, none⟩ = false := by simp [World.frozen?, hgxC]
        obtain ⟨wD, hwD⟩ : ∃ wD, wC.setCell ⟨gx, 1, none⟩ (.slice (some ⟨gC, 0, none⟩) (i + 1) cC) = wD := ⟨_, rfl⟩
        have HGXD : Hid (wD.heap[gx]? = some (.cells #[.int .i64 s.kind, .slice (some ⟨gC, 0, none⟩) (i + 1) cC, .slice (some ⟨g0, 0, none⟩) n1 d0, .slice (some ⟨g1, 0, none⟩) n2 d1, .slice (some ⟨g2, 0, none⟩) n3 d2, .slice (some ⟨g3, 0, none⟩) n4 d3] 33 (0, 0))) := by
          rw [← hwD]
          exact heap_setCell_same wC gx 1 _ _ _ hgxC
        have hgD : wC.grownBy wD (some gx) := by rw [← hwD]; exact gset (World.grownBy.refl _ _) _ _
        have HRD : Hid (RwP wD y5.heap.size (.slice (some ⟨gC, 0, none⟩) (i + 1) cC) (s.pts.take (i + 1))) := by
          rw [Hid, List.take_add_one, HT.out.1]
          exact hRC.grown hgD (fun k hk => by have := Option.some.inj hk; have := HLT.out.2; omega)
        have HFD : Hid (Four wD W2.heap.size y5.heap.size n1 n2 n3 n4 g0 d0 g1 d1 g2 d2 g3 d3 s.st s.sd s.ct s.bl) := (HFO.out.bel HBC.out).grown hgD (fun e => HNE.out.1 (Option.some.inj e)) (fun e => HNE.out.2.1 (Option.some.inj e)) (fun e => HNE.out.2.2.1 (Option.some.inj e)) (fun e => HNE.out.2.2.2 (Option.some.inj e))
        have HBD : Hid (Below W2.heap.size W2 wD) := (HBX.out.trans (HBC.out.mono (Nat.le_of_lt (Nat.lt_of_le_of_lt HLT.out.1 HLT.out.2)))).grown hgD (Nat.le_trans HBX.out.size HBC.out.size) (fun b hb => by have := Option.some.inj hb; have := HLT.out.1; omega)
        have HSD : Hid (y5.heap.size ≤ wD.heap.size) := Nat.le_trans HSZ.out (Nat.le_trans HBC.out.size hgD.size)
        refine GoL.last (by kernel_rfl) (by kernel_rfl) rfl (fun K hK => ?_)
        go_simp
        refine hK.out _ _ ?_
        clear hK K
        go_wp2_with fail
        go_roundw
        case rel => exact ⟨i + 1, _, _, hlt, by simp, HGXD.out, HRD.out, HFD.out, HBD.out, HSD.out⟩
        case measure => simp [intOf]; omega
      · obtain rfl : i = n0 := by omega
        have hw1 : w.heap.size + 1 < W2.heap.size := by
          have h2 := (Array.getElem?_eq_some_iff.1 HG2.out).1
          omega
        have HRV : Hid (∀ w9, w6.grownBy w9 (some (w.heap.size + 1)) → OwnS w9 w.heap.size s (.agg #[.int .i64 s.kind, .slice po i pc, .slice (some ⟨g0, 0, none⟩) n1 d0, .slice (some ⟨g1, 0, none⟩) n2 d1, .slice (some ⟨g2, 0, none⟩) n3 d2, .slice (some ⟨g3, 0, none⟩) n4 d3])) := fun w9 h9 => by
          obtain ⟨r1, r2, r3, r4⟩ := HNL.out
          subst r1 r2 r3 r4
          have h1 : RwP w6 y5.heap.size (.slice po i pc) s.pts := by
            have h8 := HRW.out
            rwa [List.take_of_length_le (by rw [HNP.out]; exact Nat.le_refl _)] at h8
          have hl : ∀ (g n d : Nat) (l : List Int), OwnI w6 W2.heap.size (.slice (some ⟨g, 0, none⟩) n d) l → (some (w.heap.size + 1) : Option Nat) ≠ some g := fun g n d l ho e => by
            have h5 : w6.ownsRow W2.heap.size 3 1 (.slice (some ⟨g, 0, none⟩) n d) l.length (gc encZ l) := ho
            have := (h5.lt g rfl).1
            have := Option.some.inj e
            omega
          have h2 := HFO.out.grown h9 (hl _ _ _ _ HFO.out.a) (hl _ _ _ _ HFO.out.b) (hl _ _ _ _ HFO.out.c) (hl _ _ _ _ HFO.out.d)
          exact ⟨y5.heap.size, _, _, _, _, _, _, _, _, _, rfl, ⟨h2.a.mono HB2.out.size, h2.b.mono HB2.out.size, h2.c.mono HB2.out.size, h2.d.mono HB2.out.size, h2.lt, h2.ne⟩, h1.grown h9 (fun k hk => by have := Option.some.inj hk; have := HLT.out; omega), by have := HLT.out; omega, Nat.le_trans HSZ.out h9.size⟩
        have hres : w6.heap[w.heap.size + 1]? = some (.cells #[.int .i64 0, .slice none 0 0, .slice none 0 0, .slice none 0 0, .slice none 0 0, .slice none 0 0] 33 (0, 0)) := by
          have h2 := HG2.out
          rw [hz1] at h2
          exact (HBX.out.block _ hw1).trans h2
        have x0 : w6.cell? ⟨gx, 0, none⟩ = some (.int .i64 s.kind) := cell_of_row _ _ 0 _ _ _ HGX.out
        have x2 : w6.cell? ⟨gx, 2, none⟩ = some (.slice (some ⟨g0, 0, none⟩) n1 d0) := cell_of_row _ _ 2 _ _ _ HGX.out
        have x3 : w6.cell? ⟨gx, 3, none⟩ = some (.slice (some ⟨g1, 0, none⟩) n2 d1) := cell_of_row _ _ 3 _ _ _ HGX.out
        have x4 : w6.cell? ⟨gx, 4, none⟩ = some (.slice (some ⟨g2, 0, none⟩) n3 d2) := cell_of_row _ _ 4 _ _ _ HGX.out
        have x5 : w6.cell? ⟨gx, 5, none⟩ = some (.slice (some ⟨g3, 0, none⟩) n4 d3) := cell_of_row _ _ 5 _ _ _ HGX.out
        obtain ⟨u0, u1, u2, u3, u4, u5, ⟨j0, j1, j2⟩, ⟨j3, j4, j5⟩, ⟨j6, j7, j8⟩, ⟨j9, j10, j11⟩, ⟨j12, j13, j14⟩, ⟨j15, j16, j17⟩, hgy, hgg⟩ := sel_sets w6 (w.heap.size + 1) _ _ _ _ _ _ (.int .i64 s.kind) (.slice po i pc) (.slice (some ⟨g0, 0, none⟩) n1 d0) (.slice (some ⟨g1, 0, none⟩) n2 d1) (.slice (some ⟨g2, 0, none⟩) n3 d2) (.slice (some ⟨g3, 0, none⟩) n4 d3) hres
        have HV := HRV.out u5 hgg
        have HBV : Hid (Below w.heap.size w u5) := HBW.out.grown hgg HBW.out.size (fun b hb => by have := Option.some.inj hb; omega)
        have v0 := cell_of_row _ _ 0 _ _ _ hgy
        have v1 := cell_of_row _ _ 1 _ _ _ hgy
        have v2 := cell_of_row _ _ 2 _ _ _ hgy
        have v3 := cell_of_row _ _ 3 _ _ _ hgy
        have v4 := cell_of_row _ _ 4 _ _ _ hgy
        have v5 := cell_of_row _ _ 5 _ _ _ hgy
        clear HRV hgg hgy hres k0 k2 k3 k4 k5
        go_wp2_with fail
        try simp only [Exit.inBlock, Exit.then]
        refine bodyPost_ret (v := .agg #[.int .i64 s.kind, .slice po i pc, .slice (some ⟨g0, 0, none⟩) n1 d0, .slice (some ⟨g1, 0, none⟩) n2 d1, .slice (some ⟨g2, 0, none⟩) n3 d2, .slice (some ⟨g3, 0, none⟩) n4 d3]) ?_ rfl ?_
        · rw [results_cell1 (fn := Try.f17) rfl]
          go_simp
        · exact ⟨_, rfl, HV, HBV.out⟩
  · exact ⟨undef, undef, undef, undef, undef, undef, undef, undef, undef, undef, fun _ => none, rfl, ⟨hDR, ⟨fun c g h => (by cases h), fun c d g h => (by cases h)⟩, .no (by simp) (by simp) rfl rfl rfl, .no (by simp) (by simp) rfl rfl rfl, .no (by simp) (by simp) rfl rfl rfl, .no (by simp) (by simp) rfl rfl rfl, ⟨fun h => (by simp at h), fun _ => rfl⟩, .inl ⟨by simp, rfl, rfl⟩⟩⟩
end Go.Proofs.Ytnikbcljonbpcaa

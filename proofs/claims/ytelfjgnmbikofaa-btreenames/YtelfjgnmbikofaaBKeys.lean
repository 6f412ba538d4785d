/-
  Keys of a tree, and new trees beside others. Conditions: lengths are such as memory bears.
-/
import Derived.Test.YtelfjgnmbikofaaBAll
import Derived.Laws.MakeOwn
namespace Go.Proofs.Ytelfjgnmbikofaa
open Go.RowKit
set_option linter.unusedVariables false
set_option maxRecDepth 100000

/-- appendAll, as a step. -/
theorem GrowP.all {w : World} {B p q most c : Nat} {F : List It} {R : List Pc} {vO : Value} (h3 : 3 ≤ most) (h64 : most ≤ 64) {h : Nat} {t : Nd (Tr h)} {lo : Nat} (hS : Sep w B (rowS vO [] :: (pcs (h + 1) (up1 t) ++ (treeO p q most :: keptO q t.n c :: R)))) (hs : Shp most (h + 1) lo most (up1 t)) (hlo : 0 < h → 1 ≤ lo) (hF : flat (h + 1) (up1 t) = F) (hB : B ≤ w.heap.size) (hn : F.length ≤ 1000000) (hz : ∀ y ∈ F, y.1.size ≤ 281474976710656) :
    Calls Try.prog 37 #[.pointer (some ⟨p, 0, none⟩), vO, .pointer (some ⟨t.n, 0, none⟩)] w fun e w' => ∃ vO', e = .returned vO' ∧ GrowP most B p q c F (rowS vO' (F.map (·.1)) :: R) w' ∧ Below B w w' := by
  subst hF
  refine (all_any (p := p) (q := q) h3 h64 h t w lo vO [] _ hS (by simp) hB hs hlo (by simpa using hn) hz).mono ?_
  rintro e w' ⟨vO', rfl, h5, h6⟩
  refine ⟨vO', rfl, ⟨h, t, lo, ?_, hs, hlo, rfl⟩, h6⟩
  rw [List.nil_append] at h5
  have h7 : List.Perm (rowS vO' ((flat (h + 1) (up1 t)).map (·.1)) :: (pcs (h + 1) (up1 t) ++ (treeO p q most :: keptO q t.n c :: R))) (pcs (h + 1) (up1 t) ++ (treeO p q most :: keptO q t.n c :: rowS vO' ((flat (h + 1) (up1 t)).map (·.1)) :: R)) := by
    have h8 := (List.perm_middle (a := rowS vO' ((flat (h + 1) (up1 t)).map (·.1))) (l₁ := pcs (h + 1) (up1 t) ++ [treeO p q most, keptO q t.n c]) (l₂ := R)).symm
    simpa using h8
  exact h5.perm h7
set_option maxHeartbeats 4000000 in
theorem keys_any {w : World} {B p q most : Nat} {F : List It} {R : List Pc} (h3 : 3 ≤ most) (h64 : most ≤ 64) (h : BT w B p q most F R) (hB : B ≤ w.heap.size) (hn : F.length ≤ 100000) (hz : ∀ y ∈ F, y.1.size ≤ 281474976710656) :
    Calls Try.prog 17 #[.pointer (some ⟨p, 0, none⟩)] w fun e w' => ∃ vO, e = .returned vO ∧ BT w' B p q most F (rowS vO (F.map (·.1)) :: R) ∧ Below B w w' := by
  obtain ⟨⟨h, t, lo, hS, hs, hlo, hF⟩, hR⟩ := h
  obtain ⟨i1, hi1, hy0, hy1, hy2⟩ := info_partsG Try.infoS
  have t3 := (hS.tr (p := p) (q := q) (most := most) (by simp)).2.2.2
  obtain ⟨k0, k1, _, _, _⟩ := kept_c hS (q := q) (n := t.n) (c := F.length) (by simp)
  have HS : Hid (Sep w B (pcs (h + 1) (up1 t) ++ (treeO p q most :: keptO q t.n F.length :: R))) := hS
  have HSH : Hid (Shp most (h + 1) lo most (up1 t)) := hs
  have HR : Hid (Rise F) := hR
  have HF : Hid (flat (h + 1) (up1 t) = F) := hF
  have HLo : Hid (0 < h → 1 ≤ lo) := hlo
  have HZ : Hid (∀ y ∈ F, y.1.size ≤ 281474976710656) := hz
  obtain ⟨c, HC⟩ : ∃ c, Hid (F.length = c) := ⟨_, rfl⟩
  rw [HC.out] at k1 hn HS
  clear hS hs hlo hF hR hz
  go_enter Try.func17, Try.ntmps17
  go_upto_region 3 with (go_at_call 30; refine (tNone_any p q _ t3).mono ?_; rintro e w1 ⟨rfl, hw1⟩; obtain rfl := hw1.symm)
  obtain ⟨wm, hrun, hom, hgm⟩ := run_make_own (P := Try.prog) w.drew B 26 9 i1 _ 1 Try.underlying26 hi1 hy0 hy1 .i64 .i64 c (by rw [hy2]; omega) (by unfold maxLen; omega) hB
  have HBM : Hid (Below w.heap.size w wm) := ⟨hgm.os, hgm.tape, hgm.output, hgm.size, fun x hx => hgm.block x hx (by simp)⟩
  have HSM : Hid (Sep wm B (rowS (.slice (some ⟨w.heap.size, 0, none⟩) 0 c) [] :: (pcs (h + 1) (up1 t) ++ (treeO p q most :: keptO q t.n c :: R)))) := Sep.new HS.out HBM.out hom (by intro x hx; simp [Pc.blk, rowS, Value.ownBlock] at hx; omega)
  have t3m := (HSM.out.tr (p := p) (q := q) (most := most) (by simp)).2.2.2
  obtain ⟨k0m, k1m, _, _, _⟩ := kept_c HSM.out (q := q) (n := t.n) (c := c) (by simp)
  have HALL : Hid _ := GrowP.all h3 h64 HSM.out HSH.out HLo.out HF.out (Nat.le_trans hB HBM.out.size) (by rw [HC.out]; omega) HZ.out
  have HBBM : Hid (Below B w wm) := HBM.out.mono hB
  clear hom hgm
  go_region_law (refine step_call rfl 37 (enters_of Try.func37 (by kernel_rfl) rfl) #[.tmp 5, .tmp 13, .tmp 20] _ rfl _ (by go_simp) (fun v w' => GrowP most B p q c F (rowS v (F.map (·.1)) :: R) w' ∧ Below B wm w') (Calls.mono HALL.out (by rintro e w' ⟨v, rfl, h⟩; exact ⟨_, rfl, h⟩)) ?_; rintro v9 w9 ⟨hg9, hb9⟩; have HG9 : Hid (GrowP most B p q c F (rowS v9 (F.map (·.1)) :: R) w9) := hg9; have HB9 : Hid (Below B w w9) := HBBM.out.trans hb9; clear hg9 hb9)
  all_goals (go_wp2_with fail)
  all_goals
    go_ret
    refine ⟨v9, rfl, ⟨?_, HR.out⟩, HB9.out⟩
    rw [HC.out]
    exact HG9.out
/-- A new tree beside other pieces. -/
theorem newNames_sep {w : World} {B : Nat} {ps : List Pc} (hS : Sep w B ps) (hB : B ≤ w.heap.size) (m : Nat) (h3 : 3 ≤ m) (h64 : m ≤ 64) :
    Calls Try.prog 8 #[.int .i64 (m : Int)] w fun e w' => ∃ p q, e = .returned (.pointer (some ⟨p, 0, none⟩)) ∧ BT w' B p q m [] ps ∧ Below w.heap.size w w' := by
  have HN : Hid _ := newTree_any (m : Int) w (by omega) (by omega)
  have HS : Hid (Sep w B ps) := hS
  clear hS
  go_enter Try.func8, Try.ntmps8
  go_wp2_with (go_at_call 28; refine Calls.mono HN.out ?_; rintro e w1 ⟨p, q, n, rfl, hl1, hb1⟩; have HL1 : Hid (LT w1 w.heap.size p q n (m : Int) 0 (.slice none 0 0) []) := hl1; have HB1 : Hid (Below w.heap.size w w1) := hb1; clear hl1 hb1)
  go_ret
  refine ⟨p, q, rfl, ⟨⟨0, ⟨n, .slice none 0 0, .slice none 0 0, [], []⟩, 0, ?_, shp_up.2 ⟨Nat.zero_le _, Nat.zero_le _, fun hh => absurd hh (by omega), fun d hd => by cases hd⟩, fun hh => absurd hh (by omega), rfl⟩, List.Pairwise.nil⟩, HB1.out⟩
  have hl := HL1.out
  have hX : Sep w1 B [.obj n #[.slice none 0 0, .slice none 0 0] 73, treeO p q m, keptO q n 0] := by
    refine ⟨fun p' hp => ?_, ?_⟩
    · simp only [List.mem_cons, List.not_mem_nil, or_false] at hp
      rcases hp with rfl | rfl | rfl
      · exact ⟨hl.node, Nat.le_trans hB hl.bn⟩
      · exact ⟨hl.tree, Nat.le_trans hB hl.bp⟩
      · exact ⟨hl.kept, Nat.le_trans hB hl.bq⟩
    · have h1 := hl.pn
      have h2 := hl.qn
      have h3 := hl.pq
      simp [Pc.blk, treeO, keptO]
      exact ⟨⟨fun e => h1 e.symm, fun e => h2 e.symm⟩, h3⟩
  have h1 := Sep.step (X := []) (Y := ps) HS.out hX (fun x hx _ => HB1.out.block x hx) (by
    intro x hx
    have h4 := hl.bn
    have h5 := hl.bp
    have h6 := hl.bq
    simp [Pc.blk, treeO, keptO] at hx
    right
    rcases hx with rfl | rfl | rfl <;> assumption)
  have h2 := (h1.nil 65 1).nil 69 2
  have h3 : List.Perm (Pc.row 69 2 (.slice none 0 0) 0 [] :: Pc.row 65 1 (.slice none 0 0) 0 [] :: ([.obj n #[.slice none 0 0, .slice none 0 0] 73, treeO p q m, keptO q n 0] ++ ps)) (pcs 1 (up1 (⟨n, .slice none 0 0, .slice none 0 0, [], []⟩ : Nd (Tr 0))) ++ (treeO p q m :: keptO q n 0 :: ps)) := by
    show List.Perm (Pc.row _ _ _ _ _ :: Pc.row _ _ _ _ _ :: .obj n _ _ :: _) (.obj n _ _ :: Pc.row _ _ _ _ _ :: Pc.row _ _ _ _ _ :: _)
    exact ((List.Perm.swap _ _ _).cons _).trans (List.Perm.swap _ _ _)
  exact h2.perm h3
end Go.Proofs.Ytelfjgnmbikofaa

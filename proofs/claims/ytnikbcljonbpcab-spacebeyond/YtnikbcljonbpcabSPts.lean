/-
  A hyperslab selects what the points of its tuples select: the law's walk. No conditions.
-/
import Derived.Test.YtnikbcljonbpcabSTl
import Derived.Test.YtnikbcljonbpcabSLaw
namespace Go.Proofs.Ytnikbcljonbpcab
open Go.RowKit Go.Shelf
set_option linter.unusedVariables false
set_option maxRecDepth 100000

/-- It answers one way or the other. -/
def GrP (e : Ending) : Prop := ∃ b : Bool, e = .returned (.bool b)
set_option maxHeartbeats 4000000 in
theorem great_any (s : Sel) (V : SV) (w : World) (hS : Ss w V s) : Calls Try.prog 6 #[selV s.kind V] w fun e w' => GrP e ∧ Below w.heap.size w w' := by
  have HP : Hid (Iss w V.p s.pts) := hS.p
  obtain ⟨a0, n0, c0, a1, n1, c1, a2, n2, c2, a3, n3, c3, a4, n4, c4, e, hV⟩ := selV_open hS
  rw [hV] at HP
  have HPO : Hid (Iss w (.slice a0 n0 c0) s.pts) := HP.out
  obtain ⟨_, _, _, e9, hl, hc, hb⟩ := HPO.out.open
  injection e9 with e1 e2 e3
  subst e1 e2 e3
  obtain ⟨W1, hW1, hb1, hz1, b0, b1, b2, b3, b4, b5⟩ := box_sel w s.kind (.slice a0 n0 c0) (.slice a1 n1 c1) (.slice a2 n2 c2) (.slice a3 n3 c3) (.slice a4 n4 c4)
  have HB1 : Hid (Below w.heap.size w W1) := hb1
  rw [e]
  clear hS HP hb1 e hV hl
  go_enter Try.func6, Try.ntmps6
  go_wp2_with fail
  go_loopw [4, 3] (fun x y wr => ∃ (i : Nat) (m : Int), i ≤ n0 ∧ x = .int .i64 (i : Int) ∧ y = .int .i64 m ∧ 0 ≤ m ∧ m ≤ 5864062044634 ∧ Hid (Below W1.heap.size W1 wr)) (fun x _ _ => n0 - (intOf x).toNat)
  case atStart => exact ⟨0, (n0 : Int), Nat.zero_le _, rfl, rfl, by omega, by omega, Below.refl _ _⟩
  case round =>
    obtain ⟨i, m, hin, rfl, rfl, hm0, hm1, HB⟩ := hrel
    have q1 := (HB.out.cell (World.block_lt_of_cell? W1 _ b1)).trans b1
    by_cases hlt : i < n0
    · obtain ⟨g, o, l, u, k, c, rfl, _, _, _, hk, hcell, _⟩ := ((HPO.out.below HB1.out).below HB.out).at hlt
      have hili : (i : Int) < (n0 : Int) := by omega
      have hw : IntKind.i64.wrap (m + (k : Int)) = m + (k : Int) := wrap_i64_in _ (by omega) (by omega)
      by_cases hbig : 30000 < m + (k : Int)
      · have e1 : decide (30000 < m + (k : Int)) = true := by simpa using hbig
        go_wp2_with fail
        go_ret
        exact ⟨⟨true, rfl⟩, HB1.out.trans (HB.out.mono HB1.out.size)⟩
      · have e1 : decide (30000 < m + (k : Int)) = false := by simpa using hbig
        have hge : 0 ≤ m + (k : Int) := by omega
        have hle : m + (k : Int) ≤ 5864062044634 := by omega
        go_wp2_with fail
        go_roundw
        case rel => exact ⟨i + 1, m + (k : Int), by omega, by simp, rfl, hge, hle, HB.out⟩
        case measure => simp [intOf]; omega
    · go_wp2_with fail
      go_ret
      exact ⟨⟨_, rfl⟩, HB1.out.trans (HB.out.mono HB1.out.size)⟩
def ptS (P : List (List Int)) : Sel := ⟨2, P, [], [], [], []⟩
theorem pts_sel {w : World} {V : SV} {D : List Int} {s : Sel} (hS : Ss w V s) (hE : slE D s = 0) : slE D (ptS (tups D s)) = 0 ∧ tups D (ptS (tups D s)) = tups D s := by
  obtain ⟨h1, h2, h3⟩ := tups_ok hS hE
  have he : elE D = 0 := by
    by_cases he : elE D = 0
    · exact he
    · rw [slE, if_pos he] at hE; exact hE
  refine ⟨?_, by rw [tups, if_pos (by simp [ptS])]; rfl⟩
  rw [slE, if_neg (by rw [he]; simp), if_neg (by simp [ptS]), if_pos (by simp [ptS])]
  simp only [ptS]
  have o1 : (tups D s).all (okB D.length) = true := by
    rw [List.all_eq_true]
    intro t ht
    have hi := h3 t ht
    refine okB_iff.2 ⟨hi.1, fun x hx => ?_⟩
    obtain ⟨i, hix⟩ := List.mem_iff_getElem?.1 hx
    have hil := (List.getElem?_eq_some_iff.1 hix).1
    exact (hi.2 i x _ hix (List.getElem?_eq_getElem (by rw [← hi.1]; exact hil))).1
  have o2 : (tups D s).any (outB D) = false := by
    rw [List.any_eq_false]
    intro t ht
    have hi := h3 t ht
    have : outB D t = false := by
      rw [outB, List.any_eq_false]
      rintro ⟨n, x⟩ hx
      obtain ⟨i, hix⟩ := List.mem_iff_getElem?.1 hx
      rw [List.getElem?_zip_eq_some] at hix
      have := hi.2 i x n hix.2 hix.1
      simp
      omega
    simp [this]
  rw [ptE, o1, o2, if_neg (by simp), if_neg (by simp), if_pos h2]
theorem ptSs {w : World} {v : Value} {P : List (List Int)} (h : Iss w v P) : Ss w ⟨v, .slice none 0 0, .slice none 0 0, .slice none 0 0, .slice none 0 0⟩ (ptS P) :=
  ⟨⟨by simp [ptS], by simp [ptS]⟩, h, is_nil w, is_nil w, is_nil w, is_nil w⟩
theorem frozen_new {W : World} {cs : Array Value} {T : TypeId} {g : Nat} (h : W.heap[g]? = some (.cells cs T (0, 0))) (j : Nat) : W.frozen? ⟨g, j, none⟩ = false := by simp [World.frozen?, h]
theorem box_pt (w : World) (u : Value) : ∃ W4 W6, w.alloc (.cells #[.int .i64 2, u, .slice none 0 0, .slice none 0 0, .slice none 0 0, .slice none 0 0] 26) = W4 ∧ (((W4.setCell ⟨w.heap.size, 2, none⟩ (.slice none 0 0)).setCell ⟨w.heap.size, 3, none⟩ (.slice none 0 0)).setCell ⟨w.heap.size, 4, none⟩ (.slice none 0 0)).setCell ⟨w.heap.size, 5, none⟩ (.slice none 0 0) = W6 ∧
    W4.frozen? ⟨w.heap.size, 2, none⟩ = false ∧ W4.frozen? ⟨w.heap.size, 3, none⟩ = false ∧ W4.frozen? ⟨w.heap.size, 4, none⟩ = false ∧ W4.frozen? ⟨w.heap.size, 5, none⟩ = false ∧
    W4.cell? ⟨w.heap.size, 2, none⟩ = some (.slice none 0 0) ∧ W4.cell? ⟨w.heap.size, 3, none⟩ = some (.slice none 0 0) ∧ W4.cell? ⟨w.heap.size, 4, none⟩ = some (.slice none 0 0) ∧ W4.cell? ⟨w.heap.size, 5, none⟩ = some (.slice none 0 0) ∧ Below w.heap.size w W6 ∧
    W6.cell? ⟨w.heap.size, 0, none⟩ = some (.int .i64 2) ∧ W6.cell? ⟨w.heap.size, 1, none⟩ = some u ∧ W6.cell? ⟨w.heap.size, 2, none⟩ = some (.slice none 0 0) ∧ W6.cell? ⟨w.heap.size, 3, none⟩ = some (.slice none 0 0) ∧ W6.cell? ⟨w.heap.size, 4, none⟩ = some (.slice none 0 0) ∧ W6.cell? ⟨w.heap.size, 5, none⟩ = some (.slice none 0 0) := by
  have h := heap_alloc_new w (.cells #[.int .i64 2, u, .slice none 0 0, .slice none 0 0, .slice none 0 0, .slice none 0 0] 26)
  have e2 := heap_setCell_same _ w.heap.size 2 _ _ (.slice none 0 0) h
  have e3 := heap_setCell_same _ w.heap.size 3 _ _ (.slice none 0 0) e2
  have e4 := heap_setCell_same _ w.heap.size 4 _ _ (.slice none 0 0) e3
  have e5 := heap_setCell_same _ w.heap.size 5 _ _ (.slice none 0 0) e4
  refine ⟨_, _, rfl, rfl, ?_, ?_, ?_, ?_, ?_, ?_, ?_, ?_, ?_, cell_of_row _ _ 0 _ _ _ e5, cell_of_row _ _ 1 _ _ _ e5, cell_of_row _ _ 2 _ _ _ e5, cell_of_row _ _ 3 _ _ _ e5, cell_of_row _ _ 4 _ _ _ e5, cell_of_row _ _ 5 _ _ _ e5⟩
  · exact frozen_new h 2
  · exact frozen_new h 3
  · exact frozen_new h 4
  · exact frozen_new h 5
  · exact cell_of_row _ _ 2 _ _ _ h
  · exact cell_of_row _ _ 3 _ _ _ h
  · exact cell_of_row _ _ 4 _ _ _ h
  · exact cell_of_row _ _ 5 _ _ _ h
  · exact ((((((Below.refl _ w).alloc (Nat.le_refl _) _).setCell (Nat.le_refl _) _).setCell (Nat.le_refl _) _).setCell (Nat.le_refl _) _).setCell (Nat.le_refl _) _)
end Go.Proofs.Ytnikbcljonbpcab

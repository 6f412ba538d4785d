/-
  The law's pair and lives. No conditions.
-/
import Derived.Test.YtojcokdfplldbaaDByT
namespace Go.Proofs.Ytojcokdfplldbaa
open Go.RowKit Go.Shelf
set_option linter.unusedVariables false
set_option maxRecDepth 100000

def numT (c wd : Int) : Ty 1 := (⟨c, wd, false, [], [], [], []⟩ : TyN (Ty 0))
def pairT (wd : Int) : Ty 2 := (⟨5, wd, false, [(⟨#[97]⟩, 0, numT 2 2), (⟨#[98]⟩, 4, numT 4 4)], [], [], []⟩ : TyN (Ty 1))
def int3T : Ty 1 := numT 1 3
theorem lv9 : szT (pairT 12) = 12 ∧ szE (pairT 12) = 0 ∧ plT (pairT 12) = [⟨0, 2, 2, false⟩, ⟨4, 3, 4, false⟩, ⟨8, 3, 4, false⟩] ∧ szE (pairT 8) = 15 ∧ szE int3T = 0 := by
  refine ⟨by kernel_rfl, by kernel_rfl, by kernel_rfl, by kernel_rfl, by kernel_rfl⟩
def nilV : TV := ⟨.slice none 0 0, .slice none 0 0, .slice none 0 0, .slice none 0 0⟩
theorem tr_num (w : World) (c wd : Int) (h1 : I64 c) (h2 : I64 wd) : TR 1 w nilV (numT c wd) :=
  ⟨h1, h2, ⟨by simp [numT], by simp [numT], none, 0, rfl, Nat.le_refl _, fun i q h => by simp [numT] at h⟩, ⟨by simp [numT], by simp [numT], none, 0, rfl, Nat.le_refl _, fun i q h => by simp [numT] at h⟩, ⟨by simp [numT], none, 0, rfl, Nat.le_refl _, fun i q h => by simp [numT] at h⟩, ⟨by simp [numT], by simp [numT], none, 0, rfl, Nat.le_refl _, fun i q h => by simp [numT] at h⟩⟩
def pairV (g : Nat) : TV := ⟨.slice (some ⟨g, 0, none⟩) 2 2, .slice none 0 0, .slice none 0 0, .slice none 0 0⟩
theorem results_cell1 {fn : Func} {p : Tmp} {ty : TypeId} (h : fn.results = #[.cell p ty]) (tmps : Array Value) (P : Program) (w : World) :
    (results fn tmps).run P w = ((asAddr (tmps.getD p undef)).run P w).andThen fun a w₁ => (loadVar ty a).run P w₁ := by
  simp only [results, h]
  simp [Sem.run_bind, Result.andThen]
theorem pair_made (wd : Int) (w : World) : ∃ wa W, w.alloc (.cells #[.int .i64 5, .int .i64 wd, .bool false, .slice (some ⟨w.heap.size + 1, 0, none⟩) 2 2, .slice none 0 0, .slice none 0 0, .slice none 0 0] 28) = wa ∧ wa.alloc (.cells #[.string ⟨#[97]⟩, .int .i64 0, .int .i64 2, .int .i64 2, .bool false, .slice none 0 0, .slice none 0 0, .slice none 0 0, .slice none 0 0, .string ⟨#[98]⟩, .int .i64 4, .int .i64 4, .int .i64 4, .bool false, .slice none 0 0, .slice none 0 0, .slice none 0 0, .slice none 0 0] 66) = W ∧ Below w.heap.size w W ∧ Bx W w.heap.size 5 wd false (.slice (some ⟨w.heap.size + 1, 0, none⟩) 2 2) (.slice none 0 0) (.slice none 0 0) (.slice none 0 0) ∧ W.heap[w.heap.size + 1]? = some (.cells #[.string ⟨#[97]⟩, .int .i64 0, .int .i64 2, .int .i64 2, .bool false, .slice none 0 0, .slice none 0 0, .slice none 0 0, .slice none 0 0, .string ⟨#[98]⟩, .int .i64 4, .int .i64 4, .int .i64 4, .bool false, .slice none 0 0, .slice none 0 0, .slice none 0 0, .slice none 0 0] 66 (0, 0)) := by
  have h1 : Below w.heap.size w (w.alloc (.cells #[.int .i64 5, .int .i64 wd, .bool false, .slice (some ⟨w.heap.size + 1, 0, none⟩) 2 2, .slice none 0 0, .slice none 0 0, .slice none 0 0] 28)) := (Below.refl _ _).alloc (Nat.le_refl _) _
  have h2 : Below (w.alloc (.cells #[.int .i64 5, .int .i64 wd, .bool false, .slice (some ⟨w.heap.size + 1, 0, none⟩) 2 2, .slice none 0 0, .slice none 0 0, .slice none 0 0] 28)).heap.size (w.alloc (.cells #[.int .i64 5, .int .i64 wd, .bool false, .slice (some ⟨w.heap.size + 1, 0, none⟩) 2 2, .slice none 0 0, .slice none 0 0, .slice none 0 0] 28)) ((w.alloc (.cells #[.int .i64 5, .int .i64 wd, .bool false, .slice (some ⟨w.heap.size + 1, 0, none⟩) 2 2, .slice none 0 0, .slice none 0 0, .slice none 0 0] 28)).alloc (.cells #[.string ⟨#[97]⟩, .int .i64 0, .int .i64 2, .int .i64 2, .bool false, .slice none 0 0, .slice none 0 0, .slice none 0 0, .slice none 0 0, .string ⟨#[98]⟩, .int .i64 4, .int .i64 4, .int .i64 4, .bool false, .slice none 0 0, .slice none 0 0, .slice none 0 0, .slice none 0 0] 66)) := (Below.refl _ _).alloc (Nat.le_refl _) _
  have h3 : Bx (w.alloc (.cells #[.int .i64 5, .int .i64 wd, .bool false, .slice (some ⟨w.heap.size + 1, 0, none⟩) 2 2, .slice none 0 0, .slice none 0 0, .slice none 0 0] 28)) w.heap.size 5 wd false (.slice (some ⟨w.heap.size + 1, 0, none⟩) 2 2) (.slice none 0 0) (.slice none 0 0) (.slice none 0 0) := by
    constructor <;> (rw [World.cell?_alloc_mark]; rfl)
  have h4 := heap_alloc_new (w.alloc (.cells #[.int .i64 5, .int .i64 wd, .bool false, .slice (some ⟨w.heap.size + 1, 0, none⟩) 2 2, .slice none 0 0, .slice none 0 0, .slice none 0 0] 28)) (.cells #[.string ⟨#[97]⟩, .int .i64 0, .int .i64 2, .int .i64 2, .bool false, .slice none 0 0, .slice none 0 0, .slice none 0 0, .slice none 0 0, .string ⟨#[98]⟩, .int .i64 4, .int .i64 4, .int .i64 4, .bool false, .slice none 0 0, .slice none 0 0, .slice none 0 0, .slice none 0 0] 66)
  rw [World.size_alloc] at h4
  exact ⟨_, _, rfl, rfl, bel_next h1 h2, h3.below h2, h4⟩
theorem tr_pair (wd : Int) (g : Nat) (W : World) (hw : I64 wd) (h : W.heap[g]? = some (.cells #[.string ⟨#[97]⟩, .int .i64 0, .int .i64 2, .int .i64 2, .bool false, .slice none 0 0, .slice none 0 0, .slice none 0 0, .slice none 0 0, .string ⟨#[98]⟩, .int .i64 4, .int .i64 4, .int .i64 4, .bool false, .slice none 0 0, .slice none 0 0, .slice none 0 0, .slice none 0 0] 66 (0, 0))) : TR 2 W (pairV g) (pairT wd) := by
  have c : ∀ j x, #[Value.string ⟨#[97]⟩, Value.int .i64 0, Value.int .i64 2, Value.int .i64 2, Value.bool false, Value.slice none 0 0, Value.slice none 0 0, Value.slice none 0 0, Value.slice none 0 0, Value.string ⟨#[98]⟩, Value.int .i64 4, Value.int .i64 4, Value.int .i64 4, Value.bool false, Value.slice none 0 0, Value.slice none 0 0, Value.slice none 0 0, Value.slice none 0 0][j]? = some x → W.cell? ⟨g, j, none⟩ = some x := fun j x hx => by
    rw [cell_of_row W g j _ _ _ h]
    exact hx
  refine ⟨⟨by show (-9223372036854775808 : Int) ≤ 5; decide, by show (5 : Int) ≤ 9223372036854775807; decide⟩, hw, ⟨by simp [pairT], ?_, some ⟨g, 0, none⟩, 2, rfl, Nat.le_refl _, ?_⟩, ⟨by simp [pairT], by simp [pairT], none, 0, rfl, Nat.le_refl _, fun i q h => by simp [pairT] at h⟩, ⟨by simp [pairT], none, 0, rfl, Nat.le_refl _, fun i q h => by simp [pairT] at h⟩, ⟨by simp [pairT], by simp [pairT], none, 0, rfl, Nat.le_refl _, fun i q h => by simp [pairT] at h⟩⟩
  · intro q hq
    simp [pairT] at hq
    rcases hq with rfl | rfl <;> exact ⟨by decide, by decide⟩
  · intro i q hq
    match i, hq with
    | 0, hq =>
      obtain rfl : (⟨#[97]⟩, 0, numT 2 2) = q := by simpa [pairT] using hq
      exact ⟨g, 0, nilV, rfl, tr_num W 2 2 ⟨by decide, by decide⟩ ⟨by decide, by decide⟩, c 0 _ rfl, c 1 _ rfl, c 2 _ rfl, c 3 _ rfl, c 4 _ rfl, c 5 _ rfl, c 6 _ rfl, c 7 _ rfl, c 8 _ rfl⟩
    | 1, hq =>
      obtain rfl : (⟨#[98]⟩, 4, numT 4 4) = q := by simpa [pairT] using hq
      exact ⟨g, 0, nilV, rfl, tr_num W 4 4 ⟨by decide, by decide⟩ ⟨by decide, by decide⟩, c 9 _ rfl, c 10 _ rfl, c 11 _ rfl, c 12 _ rfl, c 13 _ rfl, c 14 _ rfl, c 15 _ rfl, c 16 _ rfl, c 17 _ rfl⟩
    | i + 2, hq => simp [pairT] at hq
theorem pair_any (wd : Int) (w : World) (hw : I64 wd) : Calls Try.prog 29 #[.int .i64 wd] w fun e w' => (∃ g, e = .returned (.agg #[.int .i64 5, .int .i64 wd, .bool false, .slice (some ⟨g, 0, none⟩) 2 2, .slice none 0 0, .slice none 0 0, .slice none 0 0]) ∧ TR 2 w' (pairV g) (pairT wd)) ∧ Below w.heap.size w w' := by
  go_enter Try.func29, Try.ntmps29
  go_wp2_with fail
  obtain ⟨wa, W, hwa, hW, hb, ⟨c0, c1, c2, c3, c4, c5, c6⟩, hg⟩ := pair_made wd w
  have HB : Hid (Below w.heap.size w W) := hb
  have HT : Hid (TR 2 W (pairV (w.heap.size + 1)) (pairT wd)) := tr_pair wd _ W hw hg
  clear hb hg
  rw [hwa, hW]
  refine bodyPost_ret (v := .agg #[.int .i64 5, .int .i64 wd, .bool false, .slice (some ⟨w.heap.size + 1, 0, none⟩) 2 2, .slice none 0 0, .slice none 0 0, .slice none 0 0]) ?_ rfl ?_
  · rw [results_cell1 (fn := Try.f29) rfl]
    go_simp
  · exact ⟨⟨_, rfl, HT.out⟩, HB.out⟩
end Go.Proofs.Ytojcokdfplldbaa

/-
  The walks of cmp.Or, of the closure that extents are sorted by, and of inOrder: those that may be and have a byte, in order. Conditions: the numbers are ints, the list's length is one that memory bears.
-/
import Derived.Test.YtdalkjenjnalbaaDoorXGood
import Derived.Test.YtdalkjenjnalbaaDoorSorts
namespace Go.Proofs.YtdalkjenjnalbaaDoor
open Go.RowKit Go.Sort Go.Shelf Go.Lib
set_option linter.unusedVariables false
set_option maxRecDepth 100000

theorem or_any (g n : Nat) (a b : Int) (w : World) (h0 : w.cell? ⟨g, 0, none⟩ = some (.int .i64 a)) (h1 : w.cell? ⟨g, 1, none⟩ = some (.int .i64 b)) :
    Calls Tryd.prog 69 #[.slice (some ⟨g, 0, none⟩) 2 2] w fun e w' => e = .returned (.int .i64 (if a = 0 then b else a)) ∧ w' = w := by
  by_cases ha : a = 0
  · subst ha
    by_cases hb : b = 0
    · subst hb
      go_enter Tryd.func69, Tryd.ntmps69
      go_wp2
      go_loop [8] (fun i => ∃ k : Nat, k ≤ 2 ∧ i = .int .i64 k) (fun i => 2 - (intOf i).toNat)
      case atStart => exact ⟨0, by omega, rfl⟩
      case round =>
        obtain ⟨k, hk, rfl⟩ := hrel
        rcases (show k = 0 ∨ k = 1 ∨ k = 2 by omega) with rfl | rfl | rfl
        · go_wp2
          go_round
          case rel => exact ⟨1, by omega, rfl⟩
          case measure => simp [intOf]
        · go_wp2
          go_round
          case rel => exact ⟨2, by omega, rfl⟩
          case measure => simp [intOf]
        · go_wp2
          go_ret
          exact ⟨rfl, rfl⟩
    · have hb' : (b != 0) = true := by simp [hb]
      go_enter Tryd.func69, Tryd.ntmps69
      go_wp2
      go_loop [8] (fun i => ∃ k : Nat, k ≤ 1 ∧ i = .int .i64 k) (fun i => 2 - (intOf i).toNat)
      case atStart => exact ⟨0, by omega, rfl⟩
      case round =>
        obtain ⟨k, hk, rfl⟩ := hrel
        rcases (show k = 0 ∨ k = 1 by omega) with rfl | rfl
        · go_wp2
          go_round
          case rel => exact ⟨1, by omega, rfl⟩
          case measure => simp [intOf]
        · go_wp2
          go_ret
          exact ⟨rfl, rfl⟩
  · have ha' : (a != 0) = true := by simp [ha]
    have HA : Hid ((if a = 0 then b else a) = a) := if_neg ha
    rw [HA.out]
    go_enter Tryd.func69, Tryd.ntmps69
    go_wp2
    go_loop [8] (fun i => i = .int .i64 0) (fun i => 2 - (intOf i).toNat)
    case atStart => rfl
    case round =>
      subst hrel
      go_wp2
      go_ret
      exact ⟨rfl, rfl⟩

/-- What the closure compares. -/
def cI (p q : Int) : Int := Lib.compareInt p q
theorem cmpI_any (p q : Int) (W : World) : Calls Tryd.prog 70 #[.int .i64 p, .int .i64 q] W fun e w' => e = .returned (.int .i64 (cI p q)) ∧ w' = W := AnyG.cmp_Compare_int Tryd.cmpInt p q W
def orI (p q : Int) : Int := if p = 0 then q else p
theorem cmp_or (x y : Ext) : orI (cI x.1 y.1) (cI x.2 y.2) = cmpE x y := rfl
theorem orI_any (g n : Nat) (a b : Int) (w : World) (h0 : w.cell? ⟨g, 0, none⟩ = some (.int .i64 a)) (h1 : w.cell? ⟨g, 1, none⟩ = some (.int .i64 b)) :
    Calls Tryd.prog 69 #[.slice (some ⟨g, 0, none⟩) 2 2] w fun e w' => e = .returned (.int .i64 (orI a b)) ∧ w' = w := or_any g n a b w h0 h1

theorem third_cell (W : World) (o1 o2 : Obj) (x y : Value) (T : TypeId) : (((W.alloc o1).alloc o2).alloc (.cells #[x, y] T)).drew.cell? ⟨W.heap.size + 1 + 1, 0, none⟩ = some x ∧ (((W.alloc o1).alloc o2).alloc (.cells #[x, y] T)).drew.cell? ⟨W.heap.size + 1 + 1, 1, none⟩ = some y := by
  have h := cells_pairX (heap_alloc_new ((W.alloc o1).alloc o2) (.cells #[x, y] T))
  have e : ((W.alloc o1).alloc o2).heap.size = W.heap.size + 1 + 1 := by simp
  rw [e] at h
  exact h
set_option maxHeartbeats 2000000 in
theorem closure_any (x y : Ext) (W : World) :
    Calls Tryd.prog 68 #[.agg #[.int .i64 x.1, .int .i64 x.2], .agg #[.int .i64 y.1, .int .i64 y.2]] W fun e w' => e = .returned (.int .i64 (cmpE x y)) ∧ ∃ q os', w' = grow (W.drewN q) os' := by
  rw [← cmp_or x y]
  obtain ⟨a, b⟩ := x
  obtain ⟨c, d⟩ := y
  dsimp only
  go_enter Tryd.func68, Tryd.ntmps68
  go_wp2
  go_region_held (fun w' => w'.cell? ⟨W.heap.size, 0, none⟩ = some (.int .i64 a) ∧ w'.cell? ⟨W.heap.size, 1, none⟩ = some (.int .i64 b) ∧ w'.cell? ⟨W.heap.size + 1, 0, none⟩ = some (.int .i64 c) ∧ w'.cell? ⟨W.heap.size + 1, 1, none⟩ = some (.int .i64 d)) (go_keep) (first | (go_at_call 70; refine (cmpI_any _ _ _).mono ?_; rintro e w' ⟨rfl, rfl⟩) | (go_at_call 69; refine (orI_any _ 0 (cI a c) (cI b d) _ (third_cell ..).1 (third_cell ..).2).mono ?_; rintro e w' ⟨rfl, rfl⟩))
  all_goals
    go_wp2
    go_ret
    exact ⟨rfl, 1, _, by rw [alloc_eq_grow, alloc_eq_grow, alloc_eq_grow, grow_grow, grow_grow]; rfl⟩

end Go.Proofs.YtdalkjenjnalbaaDoor

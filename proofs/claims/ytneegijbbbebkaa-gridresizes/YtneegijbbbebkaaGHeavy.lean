/-
  The law's heavy: is there more than is looked at? Conditions: lengths are such as memory bears.
-/
import Derived.Test.YtneegijbbbebkaaGCovC
namespace Go.Proofs.Ytneegijbbbebkaa
open Go.RowKit Go.Shelf
set_option linter.unusedVariables false
set_option maxRecDepth 100000

/-- A case, as a value; and a case that is laid into memory. -/
def caseV (dv : Value) (z : Int) (vd vs vc ov : Value) : Value := .agg #[dv, .int .i64 z, vd, vs, vc, ov]
theorem box_case (w : World) (dv : Value) (z : Int) (vd vs vc ov : Value) : ∃ W1, w.alloc (.cells #[dv, .int .i64 z, vd, vs, vc, ov] 39) = W1 ∧ Below w.heap.size w W1 ∧ W1.heap.size = w.heap.size + 1 ∧ W1.cell? ⟨w.heap.size, 0, none⟩ = some dv ∧ W1.cell? ⟨w.heap.size, 1, none⟩ = some (.int .i64 z) ∧ W1.cell? ⟨w.heap.size, 2, none⟩ = some vd ∧ W1.cell? ⟨w.heap.size, 3, none⟩ = some vs ∧ W1.cell? ⟨w.heap.size, 4, none⟩ = some vc ∧ W1.cell? ⟨w.heap.size, 5, none⟩ = some ov := by
  have h := heap_alloc_new w (.cells #[dv, .int .i64 z, vd, vs, vc, ov] 39)
  exact ⟨_, rfl, (Below.refl _ _).alloc (Nat.le_refl _) _, World.size_alloc _ _, cell_of_row _ _ 0 _ _ _ h, cell_of_row _ _ 1 _ _ _ h, cell_of_row _ _ 2 _ _ _ h, cell_of_row _ _ 3 _ _ _ h, cell_of_row _ _ 4 _ _ _ h, cell_of_row _ _ 5 _ _ _ h⟩
def hvB (dl ol : Nat) (D S : List Int) : Bool := decide (10000 < dl) || decide (10000 < ol) || decide (3000 < elN D) || decide (3000 < elN S)
set_option maxHeartbeats 8000000 in
theorem heavy_any (D S : List Int) (da : Option Addr) (dl dc : Nat) (oa : Option Addr) (ol oc : Nat) (vd vs : Value) (ca : Option Addr) (cl cc : Nat) (z : Int) (w : World) (hD : Is w vd D) (hS : Is w vs S) :
    Calls Try.prog 17 #[caseV (.slice da dl dc) z vd vs (.slice ca cl cc) (.slice oa ol oc)] w fun e w' => e = .returned (.bool (hvB dl ol D S)) ∧ Below w.heap.size w w' := by
  have HD : Hid (Is w vd D) := hD
  have HS : Hid (Is w vs S) := hS
  obtain ⟨a1, m1, c1, rfl, _⟩ := hD.open
  obtain ⟨a2, m2, c2, rfl, _⟩ := hS.open
  obtain ⟨wd, HWD⟩ : ∃ wd, Hid (decide (3000 < elN D) = wd) := ⟨_, rfl⟩
  obtain ⟨ws, HWS⟩ : ∃ ws, Hid (decide (3000 < elN S) = ws) := ⟨_, rfl⟩
  rw [hvB, HWD.out, HWS.out]
  obtain ⟨w1, hw1, b1, s1, t0, t1, t2, t3, t4, t5⟩ := box_case w (.slice da dl dc) z (.slice a1 m1 c1) (.slice a2 m2 c2) (.slice ca cl cc) (.slice oa ol oc)
  have HB1 : Hid (Below w.heap.size w w1) := b1
  have HI1 : Hid (∀ w2, Below w1.heap.size w1 w2 → Calls Try.prog 27 #[.slice a1 m1 c1] w2 fun e w' => e = .returned (.bool wd) ∧ Below w2.heap.size w2 w') := fun w2 h => by
    have := wide_any D _ w2 ((HD.out.below b1).below h)
    rwa [HWD.out] at this
  have HI2 : Hid (∀ w2, Below w1.heap.size w1 w2 → Calls Try.prog 27 #[.slice a2 m2 c2] w2 fun e w' => e = .returned (.bool ws) ∧ Below w2.heap.size w2 w') := fun w2 h => by
    have := wide_any S _ w2 ((HS.out.below b1).below h)
    rwa [HWS.out] at this
  unfold caseV
  clear hD hS b1 s1
  by_cases h1 : 10000 < dl
  · have d1 : decide (10000 < (dl : Int)) = true := by simp; omega
    have d1' : decide (10000 < dl) = true := by simpa using h1
    rw [d1']
    clear h1 d1'
    go_enter Try.func17, Try.ntmps17
    go_wp2_with fail
    go_ret
    exact ⟨rfl, HB1.out⟩
  · have d1 : decide (10000 < (dl : Int)) = false := by simp; omega
    have d1' : decide (10000 < dl) = false := by simpa using h1
    by_cases h2 : 10000 < ol
    · have d2 : decide (10000 < (ol : Int)) = true := by simp; omega
      have d2' : decide (10000 < ol) = true := by simpa using h2
      rw [d1', d2']
      clear h1 d1' h2 d2'
      go_enter Try.func17, Try.ntmps17
      go_wp2_with fail
      go_ret
      exact ⟨rfl, HB1.out⟩
    · have d2 : decide (10000 < (ol : Int)) = false := by simp; omega
      have d2' : decide (10000 < ol) = false := by simpa using h2
      rw [d1', d2']
      clear h1 d1' h2 d2'
      have HI1' : Hid _ := HI1.out w1 (Below.refl _ _)
      cases wd with
      | true =>
        go_enter Try.func17, Try.ntmps17
        go_wp2_with (go_at_call 27; refine Calls.mono HI1'.out ?_; rintro e w2 ⟨rfl, hb2⟩; have HB2 : Hid (Below w1.heap.size w1 w2) := hb2; clear hb2)
        go_ret
        exact ⟨rfl, HB1.out.trans (HB2.out.mono HB1.out.size)⟩
      | false =>
        go_enter Try.func17, Try.ntmps17
        go_wp2_with (first
          | (have hgd := HB2; clear hgd; go_at_call 27; refine Calls.mono (HI2.out _ HB2.out) ?_; rintro e w3 ⟨rfl, hb3⟩; have HB3 : Hid (Below w1.heap.size w1 w3) := HB2.out.trans (hb3.mono HB2.out.size); clear hb3)
          | (go_at_call 27; refine Calls.mono HI1'.out ?_; rintro e w2 ⟨rfl, hb2⟩; have HB2 : Hid (Below w1.heap.size w1 w2) := hb2; have t32 : w2.cell? ⟨w.heap.size, 3, none⟩ = some (.slice a2 m2 c2) := (hb2.cell (World.block_lt_of_cell? _ _ t3)).trans t3; clear hb2))
        go_ret
        exact ⟨rfl, HB1.out.trans (HB3.out.mono HB1.out.size)⟩
end Go.Proofs.Ytneegijbbbebkaa

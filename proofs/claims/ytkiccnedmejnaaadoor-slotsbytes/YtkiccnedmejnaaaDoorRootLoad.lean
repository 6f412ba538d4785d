/-
  The root that bytes tell: the walks of the program's Load and what it calls. Conditions: lengths within the machine's bounds, the table of constants stands.
-/
import Derived.Test.YtkiccnedmejnaaaDoorRoot
namespace Go.Proofs.YtkiccnedmejnaaaDoor
open Go.RowKit
set_option linter.unusedVariables false
set_option maxRecDepth 100000

def ldG (l : List Int) : Int := val false ((l.drop 4).take 8)
def ldA (l : List Int) : Int := val false ((l.drop 16).take 4)
def ldZ (l : List Int) : Int := val false ((l.drop 20).take 4)
/-- Whether so many bytes begin with a root's. -/
def isRt (l : List Int) : Bool := inF (ldA l) && inF (ldZ l) && (rootB (ldG l) (ldA l) (ldZ l) == l.take 32)

theorem val4 {l : List Int} (h : Byt l) (h4 : l.length = 4) : 0 ≤ val false l ∧ val false l < 4294967296 := by
  have := num_bounds h l.length
  rw [h4] at this
  simp only [val, h4]
  exact ⟨this.1, by have := this.2; simpa using this⟩
theorem ldA_bounds {l : List Int} (h : Byt l) (hl : 32 ≤ l.length) : 0 ≤ ldA l ∧ ldA l < 4294967296 := val4 (byt_take h 16 4) (by rw [List.length_take, List.length_drop]; omega)
theorem ldZ_bounds {l : List Int} (h : Byt l) (hl : 32 ≤ l.length) : 0 ≤ ldZ l ∧ ldZ l < 4294967296 := val4 (byt_take h 20 4) (by rw [List.length_take, List.length_drop]; omega)
theorem ldG_bounds {l : List Int} (h : Byt l) : 0 ≤ ldG l ∧ ldG l < 18446744073709551616 := val_bounds (byt_take h 4 8) false (by rw [List.length_take]; omega)

theorem numberAt_any (v : Value) (l : List Int) (p n : Nat) (w : World) (hl : Bs w v l) (hb : l.length ≤ 281474976710656) (hby : Byt l) (hn1 : 1 ≤ n) (hn2 : n ≤ 8) (hp : p + n ≤ l.length) :
    Calls Tryd.prog 56 #[v, .int .i64 p, .int .i64 n] w fun e w' => e = .returned (.int .u64 (val false ((l.drop p).take n))) ∧ Below w.heap.size w w' := by
  have HC : Hid _ := get_wide v l p n false w hl hb hby hn1 hn2 hp
  obtain ⟨ao, cap, rfl, _⟩ := hl
  go_enter Tryd.func56, Tryd.ntmps56
  go_wp2_with (go_at_call 66; refine Calls.mono HC.out ?_; rintro e w1 ⟨rfl, hb1⟩)
  go_ret
  exact ⟨rfl, hb1⟩

theorem three_set {w : World} {n : Nat} {x y z : Value} {t : TypeId} (h : w.heap[n]? = some (.cells #[x, y, z] t (0, 0))) (a b c : Value) :
    ∀ i, (((w.setCell ⟨n, 0, none⟩ a).setCell ⟨n, 1, none⟩ b).setCell ⟨n, 2, none⟩ c).cell? ⟨n, i, none⟩ = #[a, b, c][i]? := fun i => by
  have h2 := heap_setCell_twice w n 0 1 a b _ _ h
  have h3 := heap_setCell_same _ n 2 _ _ c h2
  simp only [World.cell?, h3]
  simp

theorem numbersOf_any (v : Value) (l : List Int) (w : World) (hl : Bs w v l) (hb : l.length ≤ 281474976710656) (hby : Byt l) (h32 : 32 ≤ l.length) :
    Calls Tryd.prog 35 #[v] w fun e w' => e = .returned (.agg #[.int .u64 (ldG l), .int .i64 (ldA l), .int .i64 (ldZ l)]) ∧ Below w.heap.size w w' := by
  have HL : Hid (Bs w v l) := hl
  obtain ⟨ga, gb⟩ := ldG_bounds hby
  obtain ⟨aa, ab⟩ := ldA_bounds hby h32
  obtain ⟨za, zb⟩ := ldZ_bounds hby h32
  obtain ⟨G, HG⟩ : ∃ G, Hid (ldG l = G) := ⟨_, rfl⟩
  obtain ⟨A, HA⟩ : ∃ A, Hid (ldA l = A) := ⟨_, rfl⟩
  obtain ⟨Z, HZ⟩ : ∃ Z, Hid (ldZ l = Z) := ⟨_, rfl⟩
  rw [HG.out] at ga gb
  rw [HA.out] at aa ab
  rw [HZ.out] at za zb
  obtain ⟨W, HW⟩ : ∃ W, Hid (W = w.alloc (.cells #[.int .u64 0, .int .i64 0, .int .i64 0] 24)) := ⟨_, rfl⟩
  have HB0 : Hid (Below w.heap.size w W) := by rw [Hid, HW.out]; exact (Below.refl _ w).alloc (Nat.le_refl _) _
  have HC0 : Hid (W.heap[w.heap.size]? = some (.cells #[.int .u64 0, .int .i64 0, .int .i64 0] 24 (0, 0))) := by rw [Hid, HW.out]; exact heap_alloc_new w _
  have H1 : Hid (∀ w', Below W.heap.size W w' → Calls Tryd.prog 56 #[v, .int .i64 4, .int .i64 8] w' fun e w2 => e = .returned (.int .u64 G) ∧ Below W.heap.size W w2) := fun w' hb' => by
    refine (numberAt_any v l 4 8 w' ((HL.out.below HB0.out).below hb') hb hby (by omega) (by omega) (by omega)).mono ?_
    rintro e w2 ⟨rfl, h2⟩
    exact ⟨by rw [← HG.out]; rfl, hb'.trans (h2.mono hb'.size)⟩
  have H2 : Hid (∀ w', Below W.heap.size W w' → Calls Tryd.prog 56 #[v, .int .i64 16, .int .i64 4] w' fun e w2 => e = .returned (.int .u64 A) ∧ Below W.heap.size W w2) := fun w' hb' => by
    refine (numberAt_any v l 16 4 w' ((HL.out.below HB0.out).below hb') hb hby (by omega) (by omega) (by omega)).mono ?_
    rintro e w2 ⟨rfl, h2⟩
    exact ⟨by rw [← HA.out]; rfl, hb'.trans (h2.mono hb'.size)⟩
  have H3 : Hid (∀ w', Below W.heap.size W w' → Calls Tryd.prog 56 #[v, .int .i64 20, .int .i64 4] w' fun e w2 => e = .returned (.int .u64 Z) ∧ Below W.heap.size W w2) := fun w' hb' => by
    refine (numberAt_any v l 20 4 w' ((HL.out.below HB0.out).below hb') hb hby (by omega) (by omega) (by omega)).mono ?_
    rintro e w2 ⟨rfl, h2⟩
    exact ⟨by rw [← HZ.out]; rfl, hb'.trans (h2.mono hb'.size)⟩
  obtain ⟨ao, cap, rfl, _⟩ := hl
  go_enter Tryd.func35, Tryd.ntmps35
  go_wp2_with fail
  rw [← HW.out]
  refine (H1.out _ (Below.refl _ _)).mono ?_
  rintro e w2 ⟨rfl, hb2⟩
  have HB2 : Hid (Below W.heap.size W w2) := hb2
  clear hb2
  go_wp2_with fail
  refine (H2.out _ HB2.out).mono ?_
  rintro e w3 ⟨rfl, hb3⟩
  have HB3 : Hid (Below W.heap.size W w3) := hb3
  clear hb3
  go_wp2_with fail
  refine (H3.out _ HB3.out).mono ?_
  rintro e w4 ⟨rfl, hb4⟩
  have HC4 : Hid (w4.heap[w.heap.size]? = some (.cells #[.int .u64 0, .int .i64 0, .int .i64 0] 24 (0, 0))) := (hb4.block _ (Array.getElem?_eq_some_iff.1 HC0.out).1).trans HC0.out
  have c0 : w4.cell? ⟨w.heap.size, 0, none⟩ = some (.int .u64 0) := by simp [World.cell?, HC4.out]
  have c1 : w4.cell? ⟨w.heap.size, 1, none⟩ = some (.int .i64 0) := by simp [World.cell?, HC4.out]
  have c2 : w4.cell? ⟨w.heap.size, 2, none⟩ = some (.int .i64 0) := by simp [World.cell?, HC4.out]
  have z0 : w4.frozen? ⟨w.heap.size, 0, none⟩ = false := by simp [World.frozen?, HC4.out]
  have z1 : w4.frozen? ⟨w.heap.size, 1, none⟩ = false := by simp [World.frozen?, HC4.out]
  have z2 : w4.frozen? ⟨w.heap.size, 2, none⟩ = false := by simp [World.frozen?, HC4.out]
  have HB4 : Hid (Below w.heap.size w w4) := HB0.out.trans (hb4.mono HB0.out.size)
  clear hb4
  go_wp2
  refine bodyPost_ret (v := .agg #[.int .u64 G, .int .i64 A, .int .i64 Z]) ?_ rfl ?_
  · have d0 := three_set HC4.out (.int .u64 G) (.int .i64 A) (.int .i64 Z) 0
    have d1 := three_set HC4.out (.int .u64 G) (.int .i64 A) (.int .i64 Z) 1
    have d2 := three_set HC4.out (.int .u64 G) (.int .i64 A) (.int .i64 Z) 2
    simp at d0 d1 d2
    simp [results, Tryd.f35, go_sem, d0, d1, d2]
  · refine ⟨by rw [HG.out, HA.out, HZ.out], ?_⟩
    exact ((HB4.out.setCell (p := ⟨w.heap.size, 0, none⟩) (Nat.le_refl _) _).setCell (p := ⟨w.heap.size, 1, none⟩) (Nat.le_refl _) _).setCell (p := ⟨w.heap.size, 2, none⟩) (Nat.le_refl _) _
end Go.Proofs.YtkiccnedmejnaaaDoor

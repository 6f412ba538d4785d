/-
  The place of a tuple within a part of an array; common, whole. Conditions: the tuple lies inside.
-/
import Derived.Test.YtneegijbbbebkaaGClip
namespace Go.Proofs.Ytneegijbbbebkaa
open Go.RowKit Go.Shelf
set_option linter.unusedVariables false
set_option maxRecDepth 100000

/-- Two lists, number by number. -/
def addL (a b : List Int) : List Int := List.zipWith (· + ·) a b
theorem addL_at {a b : List Int} {i : Nat} {x y : Int} (hx : a[i]? = some x) (hy : b[i]? = some y) : (addL a b)[i]? = some (x + y) := by
  rw [addL, List.getElem?_zipWith, hx, hy]
theorem addL_length {a b : List Int} {n : Nat} (ha : a.length = n) (hb : b.length = n) : (addL a b).length = n := by
  rw [addL, List.length_zipWith]; omega
theorem box_part (w : World) (v0 v1 v2 : Value) : ∃ W1, w.alloc (.cells #[v0, v1, v2] 63) = W1 ∧ Below w.heap.size w W1 ∧ W1.heap.size = w.heap.size + 1 ∧ W1.cell? ⟨w.heap.size, 0, none⟩ = some v0 ∧ W1.cell? ⟨w.heap.size, 1, none⟩ = some v1 ∧ W1.cell? ⟨w.heap.size, 2, none⟩ = some v2 := by
  have h := heap_alloc_new w (.cells #[v0, v1, v2] 63)
  exact ⟨_, rfl, (Below.refl _ _).alloc (Nat.le_refl _) _, World.size_alloc _ _, cell_of_row _ _ 0 _ _ _ h, cell_of_row _ _ 1 _ _ _ h, cell_of_row _ _ 2 _ _ _ h⟩
set_option maxHeartbeats 8000000 in
theorem gplace_any (D S t : List Int) (b0 : Option Addr) (bn bc : Nat) (vd vs vt : Value) (n : Nat) (w : World) (hD : Is w vd D) (hS : Is w vs S) (hT : Is w vt t) (hn : D.length = n) (hs : S.length = n) (ht : t.length = n) (h0 : ∀ x ∈ t, 0 ≤ x) (h1 : ∀ x ∈ S, 0 ≤ x) (hi : Ins2 D (addL S t)) (hp : prd D ≤ 1048576) :
    Calls Try.prog 55 #[.agg #[.slice b0 bn bc, vd, vs], vt] w fun e w' => e = .returned (.int .i64 (plc D (addL S t))) ∧ Below w.heap.size w w' := by
  have HD : Hid (Is w vd D) := hD
  have HS : Hid (Is w vs S) := hS
  have HT : Hid (Is w vt t) := hT
  have HIN : Hid (Ins2 D (addL S t)) := hi
  have HPT : Hid (∀ i, 1 ≤ prd (D.take i) ∧ prd (D.take i) ≤ prd D) := prd_take_le (ins_pos hi)
  have HAL : Hid ((addL S t).length = n) := addL_length hs ht
  have HP0 : Hid ((∀ x ∈ t, 0 ≤ x) ∧ ∀ x ∈ S, 0 ≤ x) := ⟨h0, h1⟩
  have HP : Hid (prd D ≤ 1048576) := hp
  have HN : Hid (D.length = n) := hn
  obtain ⟨a1, m1, c1, rfl, e1, k1, _⟩ := hD.open
  obtain ⟨a2, m2, c2, rfl, e2, k2, _⟩ := hS.open
  obtain ⟨a3, m3, c3, rfl, e3, k3, _⟩ := hT.open
  obtain rfl : n = m1 := by omega
  obtain rfl : n = m2 := by omega
  obtain rfl : n = m3 := by omega
  obtain ⟨W1, hW1, hb1, hz1, b0', b1', b2'⟩ := box_part w (.slice b0 bn bc) (.slice a1 n c1) (.slice a2 n c2)
  have HB1 : Hid (Below w.heap.size w W1) := hb1
  have HCL : Hid (∀ w2, Below W1.heap.size W1 w2 → w2.cell? ⟨w.heap.size, 1, none⟩ = some (.slice a1 n c1) ∧ w2.cell? ⟨w.heap.size, 2, none⟩ = some (.slice a2 n c2)) := fun w2 hb2 => ⟨(hb2.cell (World.block_lt_of_cell? W1 _ b1')).trans b1', (hb2.cell (World.block_lt_of_cell? W1 _ b2')).trans b2'⟩
  clear hD hS hT hn hs ht h0 h1 hi hp e1 e2 e3 hb1
  go_enter Try.func55, Try.ntmps55
  go_wp2_with fail
  go_loopw [10, 5] (fun x y wr => ∃ (i : Nat) (p : Int), i ≤ n ∧ x = .int .i64 (i : Int) ∧ y = .int .i64 p ∧ 0 ≤ p ∧ Hid (p < prd (D.take i)) ∧ Hid (plc D (addL S t) = placeZ (D.drop i) ((addL S t).drop i) p) ∧ Hid (Below W1.heap.size W1 wr)) (fun x _ _ => n - (intOf x).toNat)
  case atStart => exact ⟨0, 0, Nat.zero_le _, rfl, rfl, by omega, by rw [Hid, List.take_zero]; simp [prd], rfl, Below.refl _ _⟩
  case round =>
    obtain ⟨i, p, hin, rfl, rfl, hp0, HP1, HPL, HB⟩ := hrel
    rename World => w6
    obtain ⟨d1, d2⟩ := HCL.out w6 HB.out
    by_cases hlt : i < n
    · obtain ⟨g1, o1, a, rfl, ha, _, ca⟩ := ((HD.out.below HB1.out).below HB.out).at hlt
      obtain ⟨g2, o2, x, rfl, hx, _, cx⟩ := ((HS.out.below HB1.out).below HB.out).at hlt
      obtain ⟨g3, o3, y, rfl, hy, _, cy⟩ := ((HT.out.below HB1.out).below HB.out).at hlt
      have hz := addL_at hx hy
      have hxy := HIN.out.2 i (x + y) a hz ha
      have hx0 := HP0.out.2 x (List.mem_of_getElem? hx)
      have hy0 := HP0.out.1 y (List.mem_of_getElem? hy)
      have hili : (i : Int) < (n : Int) := by omega
      have HPN : Hid (plc D (addL S t) = placeZ (D.drop (i + 1)) ((addL S t).drop (i + 1)) (p * a + (x + y))) := by rw [Hid, HPL.out, plc_step hz ha]
      have hst : prd (D.take (i + 1)) = prd (D.take i) * a := by rw [List.take_add_one, ha, prd_append]; simp [prd]
      have h1 := HPT.out (i + 1)
      have h2 := HP.out
      have h3 : (p + 1) * a ≤ prd (D.take i) * a := Int.mul_le_mul_of_nonneg_right (by have := HP1.out; omega) (by omega)
      have h4 : (p + 1) * a = p * a + a := by rw [Int.add_mul, Int.one_mul]
      have h5 : 0 ≤ p * a := Int.mul_nonneg hp0 (by omega)
      have HP2 : Hid (p * a + x + y < prd (D.take (i + 1))) := by rw [Hid, hst]; omega
      have hb1 : p * a ≤ 1048576 := by omega
      have hw1 : IntKind.i64.wrap (p * a) = p * a := wrap_i64_in _ (by omega) (by omega)
      have hw2 : IntKind.i64.wrap (p * a + x) = p * a + x := wrap_i64_in _ (by omega) (by omega)
      have hw3 : IntKind.i64.wrap (p * a + x + y) = p * a + x + y := wrap_i64_in _ (by omega) (by omega)
      have hge : 0 ≤ p * a + x + y := by omega
      have HAS : Hid (p * a + (x + y) = p * a + x + y) := by rw [Hid]; omega
      clear ha hx hy hz hxy hst h1 h2 h3 h4
      go_wp2_with fail
      go_quiet (fail)
      go_wp2_with fail
      go_roundw
      case rel => exact ⟨i + 1, p * a + x + y, by omega, by simp, rfl, hge, HP2.out, by rw [Hid, HPN.out, HAS.out], below_dN HB.out HB.out.size _⟩
      case measure => simp [intOf]; omega
    · have HE : Hid (plc D (addL S t) = p) := by rw [Hid, HPL.out, List.drop_of_length_le (by rw [HN.out]; omega)]; rfl
      go_wp2_with fail
      go_ret
      exact ⟨by rw [HE.out]; rfl, HB1.out.trans (HB.out.mono HB1.out.size)⟩
end Go.Proofs.Ytneegijbbbebkaa

/-
  Data that grow and shrink again are as they were, in plain words. Conditions: the lists fit.
-/
import Derived.Test.YtneegijbbbebkaaGBoxF
import Derived.Test.YtneegijbbbebkaaGRes
namespace Go.Proofs.Ytneegijbbbebkaa
open Go.RowKit
set_option linter.unusedVariables false
set_option maxRecDepth 100000

theorem placeZ_surj : ∀ (D : List Int), (∀ x ∈ D, 0 ≤ x) → ∀ m : Int, 0 ≤ m → m < prd D → ∃ t, Ins2 D t ∧ ∀ p, placeZ D t p = p * prd D + m
  | [], _, m, h0, h1 => by
    rw [prd] at h1
    exact ⟨[], ⟨rfl, fun i x n h => by simp at h⟩, fun p => by simp only [placeZ, prd]; omega⟩
  | n :: D, hd, m, h0, h1 => by
    rw [prd] at h1
    have hp := prd_nonneg (l := D) (fun x hx => hd x (by simp [hx]))
    have hn := hd n (by simp)
    have hp1 : 0 < prd D := by
      rcases Int.lt_or_eq_of_le hp with h | h
      · exact h
      · rw [← h, Int.mul_zero] at h1; omega
    have q0 := Int.emod_nonneg m (show prd D ≠ 0 by omega)
    have q1 := Int.emod_lt_of_pos m hp1
    obtain ⟨t, ht, e⟩ := placeZ_surj D (fun x hx => hd x (by simp [hx])) (m % prd D) q0 q1
    have x0 := Int.ediv_nonneg h0 hp
    have x1 : m / prd D < n := (Int.ediv_lt_iff_lt_mul hp1).2 h1
    refine ⟨m / prd D :: t, ⟨by simp [ht.1], fun i x k hx hk => ?_⟩, fun p => ?_⟩
    · cases i with
      | zero =>
        obtain rfl : m / prd D = x := by simpa using hx
        obtain rfl : n = k := by simpa using hk
        exact ⟨x0, x1⟩
      | succ i => exact ht.2 i x k (by simpa using hx) (by simpa using hk)
    · rw [placeZ, e, prd, Int.add_mul, Int.mul_assoc, Int.add_assoc, Int.mul_comm (m / prd D), Int.mul_ediv_add_emod]
theorem plc_surj {D : List Int} (hd : ∀ x ∈ D, 0 ≤ x) {m : Int} (h0 : 0 ≤ m) (h1 : m < prd D) : ∃ t, Ins2 D t ∧ plc D t = m := by
  obtain ⟨t, ht, e⟩ := placeZ_surj D hd m h0 h1
  exact ⟨t, ht, by rw [plc, e]; omega⟩
theorem addL_zero : ∀ {u : List Int} {r : Nat}, u.length = r → addL (List.replicate r 0) u = u
  | [], 0, _ => rfl
  | x :: u, r + 1, h => by
    have e : addL (List.replicate (r + 1) 0) (x :: u) = (0 + x) :: addL (List.replicate r 0) u := rfl
    rw [e, addL_zero (by simpa using h), Int.zero_add]
  | [], _ + 1, h => by simp at h
  | _ :: _, 0, h => by simp at h
/-- Each byte of what a box was laid into whole, from the first on. -/
theorem grow_back {data fill A B : List Int} {r z : Nat} (ha : A.length = r) (hb : B.length = r) (pa : ∀ x ∈ A, 0 ≤ x) (hle : ∀ (i : Nat) a b, A[i]? = some a → B[i]? = some b → a ≤ b) (hz : 1 ≤ z) (hf : fill.length = z) (hd : (data.length : Int) = prd A * z) (eA : elN A = prd A) (eB : elN B = prd B) :
    rsR (rsR data fill A B z) fill B A z = data := by
  have pb : ∀ x ∈ B, 0 ≤ x := fun x hx => by
    obtain ⟨i, hi⟩ := List.getElem?_of_mem hx
    have hl := (List.getElem?_eq_some_iff.1 hi).1
    have h1 := List.getElem?_eq_getElem (show i < A.length by omega)
    have := hle i _ x h1 hi
    have := pa _ (List.mem_of_getElem? h1)
    omega
  have hmn : ∀ (i : Nat) y, (minL A B)[i]? = some y → A[i]? = some y := fun i y h => by
    rw [minL, List.getElem?_zipWith] at h
    cases t1 : A[i]? with
    | none => rw [t1] at h; simp at h
    | some a =>
      cases t2 : B[i]? with
      | none => rw [t1, t2] at h; simp at h
      | some b =>
        rw [t1, t2] at h
        simp only [Option.some.injEq] at h
        have := hle i a b t1 t2
        congr 1
        omega
  have hmn2 : ∀ (i : Nat) y, (minL B A)[i]? = some y → A[i]? = some y := fun i y h => by
    rw [minL, List.getElem?_zipWith] at h
    cases t1 : B[i]? with
    | none => rw [t1] at h; simp at h
    | some b =>
      cases t2 : A[i]? with
      | none => rw [t1, t2] at h; simp at h
      | some a =>
        rw [t1, t2] at h
        simp only [Option.some.injEq] at h
        have := hle i a b t2 t1
        congr 1
        omega
  obtain ⟨x1, x2⟩ := min_box ha hb pa pb
  obtain ⟨y1, y2⟩ := min_box hb ha pb pa
  have nA := prd_nonneg pa
  have nB := prd_nonneg pb
  have lB : ((repL (elN B).toNat fill).length : Int) = prd B * z := by rw [repL_len, hf, eB, Int.natCast_mul]; congr 1; omega
  have lA : ((repL (elN A).toNat fill).length : Int) = prd A * z := by rw [repL_len, hf, eA, Int.natCast_mul]; congr 1; omega
  have w1 := box_wr (z := z) x1 x2 rfl lB hd hz
  have l1 : ((rsR data fill A B z).length : Int) = prd B * z := by rw [rsR, hb, ha, w1.len]; exact lB
  have w2 := box_wr (z := z) y1 y2 rfl lA l1 hz
  have l2 : (rsR (rsR data fill A B z) fill B A z).length = data.length := by
    have h9 := w2.len
    have e9 : rsR (rsR data fill A B z) fill B A z = boxB A (List.replicate r 0) B (List.replicate r 0) (rsR data fill A B z) z (minL B A) (repL (elN A).toNat fill) := by rw [rsR, hb, ha]
    rw [e9, h9]
    omega
  refine List.ext_getElem? (fun m => ?_)
  rcases Nat.lt_or_ge m data.length with hm | hm
  · have hmz : (m : Int) / z < prd A := (Int.ediv_lt_iff_lt_mul (by omega)).2 (by rw [← hd]; omega)
    obtain ⟨u, hu, hpu⟩ := plc_surj pa (Int.ediv_nonneg (show (0 : Int) ≤ m by omega) (show (0 : Int) ≤ z by omega)) hmz
    have hur : u.length = r := by rw [hu.1, ha]
    have hib1 : InB (minL A B) u := fun i x y hx hy => hu.2 i x y hx (hmn i y hy)
    have hib2 : InB (minL B A) u := fun i x y hx hy => hu.2 i x y hx (hmn2 i y hy)
    have hdm := Nat.div_add_mod m z
    have hpn : (plc A u).toNat = m / z := by rw [hpu, ← Int.natCast_ediv]; rfl
    have hk := Nat.mod_lt m (show z > 0 by omega)
    have e2 := w2.yes m ⟨u, m % z, hur, hib2, hk, by rw [addL_zero hur, hpn, Nat.mul_comm]; omega⟩ u (m % z) hur hib2 hk (by rw [addL_zero hur, hpn, Nat.mul_comm]; omega)
    rw [addL_zero hur] at e2
    have e1 := w1.yes _ ⟨u, m % z, hur, hib1, hk, rfl⟩ u (m % z) hur hib1 hk rfl
    rw [addL_zero hur] at e1
    rw [hpn, Nat.mul_comm (m / z) z, hdm] at e1
    have e9 : rsR (rsR data fill A B z) fill B A z = boxB A (List.replicate r 0) B (List.replicate r 0) (rsR data fill A B z) z (minL B A) (repL (elN A).toNat fill) := by rw [rsR, hb, ha]
    have e8 : rsR data fill A B z = boxB B (List.replicate r 0) A (List.replicate r 0) data z (minL A B) (repL (elN B).toNat fill) := by rw [rsR, hb, ha]
    rw [e9, e2, e8]
    exact e1
  · rw [List.getElem?_eq_none (by omega), List.getElem?_eq_none (by omega)]
end Go.Proofs.Ytneegijbbbebkaa
